/- The reference's lists, Sum, Dot and Common: mathematics, rows of numbers, walks. -/
import Derived.Test.YtlkdahgfnfdakaaRefZ3
import Derived.Test.YtlkdahgfnfdakaaRefZ4
namespace Go.Proofs.Ytlkdahgfnfdakaa
open Go Go.RowKit Go.Shelf WN LM

def zeroQ : Q3 := (false, 0, 1)
def sumQ (l : List Q3) : Q3 := l.foldl addQ zeroQ
def dotQ (l m : List Q3) : Q3 := sumQ (List.zipWith mulQ l m)
def sumT (L : List ByteArray) : ByteArray × Int := match readAll L with
  | none => (⟨#[]⟩, 1)
  | some l => out3 (sumQ l)
def dotT (L M : List ByteArray) : ByteArray × Int := match readAll L, readAll M with
  | some l, some m => if l.length ≠ m.length then (⟨#[]⟩, 3) else out3 (dotQ l m)
  | _, _ => (⟨#[]⟩, 1)
/-- what long adds up -/
def tot : List ByteArray → Nat
  | [] => 0
  | s :: l => 4 + s.size + tot l
theorem tot_snoc : ∀ (l : List ByteArray) (s : ByteArray), tot (l ++ [s]) = tot l + (4 + s.size)
  | [], s => by simp [tot]
  | t :: l, s => by simp only [List.cons_append, tot, tot_snoc l s]; omega
theorem tot_le : ∀ (l : List ByteArray) (k : Nat), (∀ s ∈ l, s.size ≤ k) → tot l ≤ (4 + k) * l.length
  | [], k, _ => by simp [tot]
  | s :: l, k, h => by
    have h1 := h s (by simp)
    have h2 := tot_le l k fun t ht => h t (by simp [ht])
    simp only [tot, List.length_cons, Nat.mul_succ]; omega
theorem tot_take (l : List ByteArray) (i : Nat) (hi : i < l.length) : tot (l.take (i + 1)) = tot (l.take i) + (4 + l[i].size) := by
  rw [List.take_add_one, List.getElem?_eq_getElem hi]
  exact tot_snoc _ _
theorem tot_mono (l : List ByteArray) (i : Nat) : tot (l.take i) ≤ tot l := by
  induction l generalizing i with
  | nil => simp
  | cons s l ih =>
    cases i with
    | zero => simp [tot]
    | succ i => simp only [List.take_succ_cons, tot]; have := ih i; omega

theorem readQ_nil : readQ [] = none := by rfl
theorem tot_read : ∀ (L : List ByteArray) (l : List Q3), readAll L = some l → 5 * L.length ≤ tot L
  | [], l, _ => by simp
  | s :: L, l, h => by
    unfold readAll at h
    cases hq : readQ s.data.toList with
    | none => rw [hq] at h; cases h
    | some q =>
      cases hr : readAll L with
      | none => rw [hq, hr] at h; cases h
      | some m =>
        have h1 := tot_read L m hr
        have h2 : s.size ≠ 0 := by
          intro h0
          have h3 : s.data.toList = [] := by
            have h4 : s.data.toList.length = 0 := by rw [Array.length_toList]; exact h0
            exact List.eq_nil_of_length_eq_zero h4
          rw [h3, readQ_nil] at hq; cases hq
        simp only [tot, List.length_cons]; omega
theorem readAll_ok : ∀ (L : List ByteArray) (l : List Q3), readAll L = some l → ∀ q ∈ l, Ok 75 q
  | [], l, h, q, hq => by
    unfold readAll at h
    obtain rfl := Option.some.inj h
    cases hq
  | s :: L, l, h, q, hq => by
    unfold readAll at h
    cases hs : readQ s.data.toList with
    | none => rw [hs] at h; cases h
    | some p =>
      cases hr : readAll L with
      | none => rw [hs, hr] at h; cases h
      | some m =>
        rw [hs, hr] at h
        obtain rfl := Option.some.inj h
        rcases List.mem_cons.1 hq with rfl | hq
        · obtain ⟨p1, p2, -⟩ := readQ_q hs
          have f : ∀ x, Dig x ≤ 300 → RLen x ≤ 75 := fun x hx => by
            have := (dig_len4 x).2
            rcases Nat.eq_zero_or_pos x with h0 | h0
            · rw [h0, rlen_zero]; omega
            · have := this h0; omega
          exact ⟨readQ_can hs, f _ p1, f _ p2⟩
        · exact readAll_ok L m hr q hq

theorem ok_zero : Ok 1 zeroQ := ⟨⟨Nat.one_pos, Nat.gcd_one_right _, fun h => by cases h⟩, by show RLen 0 ≤ 1; rw [rlen_zero]; omega, Nat.le_of_eq rlen_one⟩
theorem sumQ_snoc (l : List Q3) (q : Q3) : sumQ (l ++ [q]) = addQ (sumQ l) q := by unfold sumQ; rw [List.foldl_append]; rfl
theorem sumQ_ok {k : Nat} (l : List Q3) (h : ∀ q ∈ l, Ok k q) : ∀ i, i ≤ l.length → Ok ((k + 1) * i + 1) (sumQ (l.take i))
  | 0, _ => by rw [List.take_zero, Nat.mul_zero]; exact ok_zero
  | i + 1, hi => by
    have h1 := sumQ_ok l h i (by omega)
    rw [List.take_add_one, List.getElem?_eq_getElem (by omega)]
    show Ok _ (sumQ (l.take i ++ [l[i]]))
    rw [sumQ_snoc]
    exact (ok_add h1 (h _ (List.getElem_mem _))).up (by rw [Nat.mul_succ]; omega)
theorem zip_ok {k : Nat} {l m : List Q3} (h : ∀ q ∈ l, Ok k q) (g : ∀ q ∈ m, Ok k q) : ∀ q ∈ List.zipWith mulQ l m, Ok (k + k) q := by
  intro q hq
  induction l generalizing m with
  | nil => simp at hq
  | cons a l ih =>
    cases m with
    | nil => simp at hq
    | cons b m =>
      rw [List.zipWith_cons_cons] at hq
      rcases List.mem_cons.1 hq with rfl | hq
      · exact ok_mul (h a (by simp)) (g b (by simp))
      · exact ih (fun q hq => h q (by simp [hq])) (fun q hq => g q (by simp [hq])) hq

theorem gcd_cross {n1 d1 n2 d2 : Nat} (h1 : Nat.Coprime n1 d1) (h2 : Nat.Coprime n2 d2) (p1 : 0 < d1) : Nat.gcd (n1 * d2) (n2 * d1) = Nat.gcd d1 d2 * Nat.gcd n1 n2 := by
  have hg : 0 < Nat.gcd d1 d2 := Nat.gcd_pos_of_pos_left _ p1
  have e1 := Nat.div_mul_cancel (Nat.gcd_dvd_left d1 d2)
  have e2 := Nat.div_mul_cancel (Nat.gcd_dvd_right d1 d2)
  have c := Nat.coprime_div_gcd_div_gcd hg
  have k1 : Nat.Coprime n1 (d1 / Nat.gcd d1 d2) := h1.coprime_dvd_right ⟨_, e1.symm⟩
  have k2 : Nat.Coprime n2 (d2 / Nat.gcd d1 d2) := h2.coprime_dvd_right ⟨_, e2.symm⟩
  generalize Nat.gcd d1 d2 = g at *
  generalize d1 / g = x at *
  generalize d2 / g = y at *
  subst e1 e2
  rw [show n1 * (y * g) = g * (n1 * y) by rw [← Nat.mul_assoc, Nat.mul_comm], show n2 * (x * g) = g * (n2 * x) by rw [← Nat.mul_assoc, Nat.mul_comm], Nat.gcd_mul_left]
  congr 1
  have k3 : Nat.Coprime y (n2 * x) := (k2.symm.mul_right c.symm)
  rw [Nat.Coprime.gcd_mul_right_cancel n1 k3, Nat.Coprime.gcd_mul_right_cancel_right n2 k1.symm]
theorem com_can {c a : Q3} (h1 : Nat.Coprime c.2.1 c.2.2) (h2 : Nat.Coprime a.2.1 a.2.2) (p1 : 0 < c.2.2) (p2 : 0 < a.2.2) : Can (comStep c a) := by
  have hg : 0 < Nat.gcd c.2.2 a.2.2 := Nat.gcd_pos_of_pos_left _ p1
  refine ⟨Nat.mul_pos p1 (Nat.div_pos (Nat.le_of_dvd p2 (Nat.gcd_dvd_right _ _)) hg), ?_, fun h => by cases h⟩
  show Nat.Coprime (Nat.gcd c.2.1 a.2.1) (c.2.2 * (a.2.2 / Nat.gcd c.2.2 a.2.2))
  have k1 : Nat.Coprime (Nat.gcd c.2.1 a.2.1) c.2.2 := h1.coprime_dvd_left (Nat.gcd_dvd_left _ _)
  have k2 : Nat.Coprime (Nat.gcd c.2.1 a.2.1) a.2.2 := h2.coprime_dvd_left (Nat.gcd_dvd_right _ _)
  exact k1.mul_right (k2.coprime_dvd_right ⟨_, (Nat.div_mul_cancel (Nat.gcd_dvd_right c.2.2 a.2.2)).symm⟩)
theorem low_com {c a : Q3} (h1 : Nat.Coprime c.2.1 c.2.2) (h2 : Nat.Coprime a.2.1 a.2.2) (p1 : 0 < c.2.2) (p2 : 0 < a.2.2) : lowQ false (Nat.gcd (c.2.1 * a.2.2) (a.2.1 * c.2.2)) (c.2.2 * a.2.2) = comStep c a := by
  have s := low_spec (s := false) (n := Nat.gcd (c.2.1 * a.2.2) (a.2.1 * c.2.2)) (d := c.2.2 * a.2.2) (Nat.mul_pos p1 p2)
  have k := com_can h1 h2 p1 p2
  refine toR_inj s.1 k ?_
  rw [s.2]
  unfold toR
  have hd : c.2.2 * (a.2.2 / Nat.gcd c.2.2 a.2.2) ≠ 0 := Nat.ne_of_gt k.1
  show mkRat ((Nat.gcd (c.2.1 * a.2.2) (a.2.1 * c.2.2) : Nat) : Int) (c.2.2 * a.2.2) = mkRat ((Nat.gcd c.2.1 a.2.1 : Nat) : Int) (c.2.2 * (a.2.2 / Nat.gcd c.2.2 a.2.2))
  rw [Rat.mkRat_eq_iff (Nat.ne_of_gt (Nat.mul_pos p1 p2)) hd, gcd_cross h1 h2 p1]
  have e2 := Nat.div_mul_cancel (Nat.gcd_dvd_right c.2.2 a.2.2)
  generalize Nat.gcd c.2.2 a.2.2 = g at *
  generalize Nat.gcd c.2.1 a.2.1 = G at *
  generalize a.2.2 / g = y at *
  rw [← Int.natCast_mul, ← Int.natCast_mul]
  congr 1
  rw [← e2, Nat.mul_comm g G, Nat.mul_assoc G, Nat.mul_left_comm g, Nat.mul_comm g y]
theorem fold_den : ∀ (l : List Q3) (c : Q3), (∀ a ∈ l, 0 < a.2.2) → 0 < c.2.2 → c.2.2 ≤ (l.foldl comStep c).2.2
  | [], c, _, _ => Nat.le_refl _
  | a :: l, c, h, hc => by
    have ha := h a (by simp)
    have hg : 0 < Nat.gcd c.2.2 a.2.2 := Nat.gcd_pos_of_pos_left _ hc
    have h1 : 0 < a.2.2 / Nat.gcd c.2.2 a.2.2 := Nat.div_pos (Nat.le_of_dvd ha (Nat.gcd_dvd_right _ _)) hg
    have h2 : c.2.2 * 1 ≤ c.2.2 * (a.2.2 / Nat.gcd c.2.2 a.2.2) := Nat.mul_le_mul_left _ h1
    have h3 := fold_den l (comStep c a) (fun b hb => h b (by simp [hb])) (Nat.mul_pos hc h1)
    have h4 : (comStep c a).2.2 = c.2.2 * (a.2.2 / Nat.gcd c.2.2 a.2.2) := rfl
    rw [List.foldl_cons]; omega
theorem dig_mono' {a b : Nat} (h : a ≤ b) : Dig a ≤ Dig b := dig_mono h
theorem com_out : ∀ (l : List Q3) (c : Q3), (∀ a ∈ l, 0 < a.2.2) → 0 < c.2.1 → 0 < c.2.2 → Dig c.2.1 ≤ 300 → (match comFold c l with | none => ((⟨#[]⟩, 2) : ByteArray × Int) | some C => out3 C) = out3 (l.foldl comStep c)
  | [], c, _, _, _, _ => rfl
  | a :: l, c, h, h0, hc, hd => by
    have ha := h a (by simp)
    have hg : 0 < Nat.gcd c.2.2 a.2.2 := Nat.gcd_pos_of_pos_left _ hc
    have h1 : 0 < a.2.2 / Nat.gcd c.2.2 a.2.2 := Nat.div_pos (Nat.le_of_dvd ha (Nat.gcd_dvd_right _ _)) hg
    have hn : Dig (comStep c a).2.1 ≤ 300 := Nat.le_trans (dig_mono' (Nat.gcd_le_left _ h0)) hd
    have hp : 0 < (comStep c a).2.1 := Nat.gcd_pos_of_pos_left _ h0
    have hq : 0 < (comStep c a).2.2 := Nat.mul_pos hc h1
    have ih := com_out l (comStep c a) (fun b hb => h b (by simp [hb])) hp hq hn
    have hden := fold_den l (comStep c a) (fun b hb => h b (by simp [hb])) hq
    rw [List.foldl_cons]
    unfold comFold
    by_cases hf : fitQ (comStep c a).2.1 (comStep c a).2.2 = true
    · rw [if_pos hf]; exact ih
    · rw [if_neg hf]
      have h5 : ¬ Dig (comStep c a).2.2 ≤ 300 := fun h6 => hf (by unfold fitQ; exact decide_eq_true ⟨hn, h6⟩)
      have h7 := dig_mono' hden
      have h8 : fitQ (l.foldl comStep (comStep c a)).2.1 (l.foldl comStep (comStep c a)).2.2 = false := by
        unfold fitQ; exact decide_eq_false (fun h9 => h5 (Nat.le_trans h7 h9.2))
      show ((⟨#[]⟩, 2) : ByteArray × Int) = out3 _
      unfold out3
      rw [outQ_long h8]
end Go.Proofs.Ytlkdahgfnfdakaa

namespace Go.Proofs.Ytlkdahgfnfdakaa
open Go Go.RowKit Go.Shelf WN LM

theorem RNum.off {W W' : World} {v : Value} {n g : Nat} {cur : Array Value} {t : TypeId} {z : Nat × Nat} (h : RNum W v n) (hg : W.heap[g]? = some (.cells cur t z)) (hn : ∀ x ∈ cur, noInt x) (hoff : ∀ b, b ≠ g → W'.heap[b]? = W.heap[b]?) : RNum W' v n := by
  obtain ⟨l, ⟨oa, ca, rfl, hc, hcell⟩, hl⟩ := h
  refine ⟨l, ⟨oa, ca, rfl, hc, fun i hi => ?_⟩, hl⟩
  obtain ⟨b, off, rfl, e⟩ := hcell i hi
  refine ⟨b, off, rfl, ?_⟩
  have hne : b ≠ g := by
    rintro rfl
    unfold World.cell? at e
    rw [hg] at e
    have e' : cur[off + i]? = some (.int .i64 (l[i] : Nat)) := by simpa using e
    exact hn _ (Array.mem_of_getElem? e')
  unfold World.cell?
  rw [hoff b hne]
  exact e
def RSat (w : World) (cur : List Value) (l : List Q3) : Prop :=
  ∀ i, (hi : i < l.length) → ∃ o1 k1 c1 o2 k2 c2, cur[i * 3]? = some (.bool l[i].1) ∧ cur[i * 3 + 1]? = some (.slice o1 k1 c1) ∧ cur[i * 3 + 2]? = some (.slice o2 k2 c2) ∧ RNum w (.slice o1 k1 c1) l[i].2.1 ∧ RNum w (.slice o2 k2 c2) l[i].2.2
def QList (w : World) (B : Nat) (v : Value) (l : List Q3) : Prop :=
  B ≤ w.heap.size ∧ ((v = .slice none 0 0 ∧ l = []) ∨ ∃ g cap cur, v = .slice (some ⟨g, 0, none⟩) l.length cap ∧ B ≤ g ∧ w.heap[g]? = some (.cells cur 60 (0, 0)) ∧ l.length ≤ cap ∧ cap ≤ maxLen ∧ cur.size = cap * 3 ∧ (∀ x ∈ cur, noInt x) ∧ RSat w cur.toList l)
theorem QList.nil {w : World} {B : Nat} (h : B ≤ w.heap.size) : QList w B (.slice none 0 0) [] := ⟨h, .inl ⟨rfl, rfl⟩⟩
theorem RSat.map {w w' : World} {cur : List Value} {l : List Q3} (h : RSat w cur l) (hm : ∀ v n, RNum w v n → RNum w' v n) : RSat w' cur l := fun i hi => by
  obtain ⟨o1, k1, c1, o2, k2, c2, e1, e2, e3, e4, e5⟩ := h i hi
  exact ⟨_, _, _, _, _, _, e1, e2, e3, hm _ _ e4, hm _ _ e5⟩
theorem QList.go {w w' : World} {B : Nat} {v : Value} {l : List Q3} (h : QList w B v l) (hb : Below w.heap.size w w') : QList w' B v l := by
  obtain ⟨h0, h⟩ := h
  refine ⟨Nat.le_trans h0 hb.size, ?_⟩
  rcases h with h | ⟨g, cap, cur, rfl, h1, h2, h3, h4, h5, h6, h7⟩
  · exact .inl h
  · exact .inr ⟨g, cap, cur, rfl, h1, (hb.block g (lt_of_block h2)).trans h2, h3, h4, h5, h6, h7.map fun _ _ h => h.go hb⟩
theorem QList.shape {w : World} {B : Nat} {v : Value} {l : List Q3} (h : QList w B v l) : ∃ o cap, v = .slice o l.length cap := by
  rcases h.2 with ⟨rfl, rfl⟩ | ⟨g, cap, cur, rfl, _⟩
  · exact ⟨_, _, rfl⟩
  · exact ⟨_, _, rfl⟩
theorem QList.get {w : World} {B : Nat} {v : Value} {l : List Q3} (h : QList w B v l) {i : Nat} (hi : i < l.length) : ∃ g cap o1 k1 c1 o2 k2 c2, v = .slice (some ⟨g, 0, none⟩) l.length cap ∧
    (w.cell? ⟨g, i * 3, none⟩ = some (.bool l[i].1) ∧ w.cell? ⟨g, i * 3 + 1, none⟩ = some (.slice o1 k1 c1) ∧ w.cell? ⟨g, i * 3 + 2, none⟩ = some (.slice o2 k2 c2)) ∧ RNum w (.slice o1 k1 c1) l[i].2.1 ∧ RNum w (.slice o2 k2 c2) l[i].2.2 := by
  rcases h.2 with ⟨rfl, rfl⟩ | ⟨g, cap, cur, rfl, h1, h2, h3, h4, h5, h6, h7⟩
  · simp at hi
  · obtain ⟨o1, k1, c1, o2, k2, c2, e1, e2, e3, e4, e5⟩ := h7 i hi
    refine ⟨g, cap, o1, k1, c1, o2, k2, c2, rfl, ⟨?_, ?_, ?_⟩, e4, e5⟩
    · rw [cell_of_row w g _ _ _ _ h2]; simpa using e1
    · rw [cell_of_row w g _ _ _ _ h2]; simpa using e2
    · rw [cell_of_row w g _ _ _ _ h2]; simpa using e3
theorem noInt_zero (n : Nat) : ∀ x ∈ Builtin.zeroCells (Value.cells (.agg #[.bool false, .slice none 0 0, .slice none 0 0])) n, noInt x := fun x hx => by
  have e : (Value.cells (.agg #[.bool false, .slice none 0 0, .slice none 0 0])) = #[.bool false, .slice none 0 0, .slice none 0 0] := rfl
  rw [e] at hx
  simp only [Builtin.zeroCells, Array.mem_map, Array.mem_range] at hx
  obtain ⟨j, _, rfl⟩ := hx
  have : j % 3 = 0 ∨ j % 3 = 1 ∨ j % 3 = 2 := by omega
  rcases this with h | h | h <;> simp [h, noInt]
theorem RSat.snoc {w : World} {cur rest : List Value} {l : List Q3} {q : Q3} {o1 o2 : Option Addr} {k1 c1 k2 c2 : Nat} (h : RSat w cur l) (hc : cur.length = l.length * 3) (hn : RNum w (.slice o1 k1 c1) q.2.1) (hd : RNum w (.slice o2 k2 c2) q.2.2) :
    RSat w (cur ++ [.bool q.1, .slice o1 k1 c1, .slice o2 k2 c2] ++ rest) (l ++ [q]) := fun i hi => by
  rw [List.length_append, List.length_singleton] at hi
  by_cases hlt : i < l.length
  · obtain ⟨p1, j1, d1, p2, j2, d2, e1, e2, e3, e4, e5⟩ := h i hlt
    rw [List.getElem_append_left hlt]
    refine ⟨p1, j1, d1, p2, j2, d2, ?_, ?_, ?_, e4, e5⟩
    · rw [List.append_assoc, List.getElem?_append_left (by omega)]; exact e1
    · rw [List.append_assoc, List.getElem?_append_left (by omega)]; exact e2
    · rw [List.append_assoc, List.getElem?_append_left (by omega)]; exact e3
  · obtain rfl : i = l.length := by omega
    have e : (l ++ [q])[l.length]'(by simp) = q := by simp
    rw [e]
    refine ⟨o1, k1, c1, o2, k2, c2, ?_, ?_, ?_, hn, hd⟩
    · rw [List.append_assoc, List.getElem?_append_right (by omega), hc, Nat.sub_self]; rfl
    · rw [List.append_assoc, List.getElem?_append_right (by omega), hc, Nat.add_sub_cancel_left]; rfl
    · rw [List.append_assoc, List.getElem?_append_right (by omega), hc, Nat.add_sub_cancel_left]; rfl
theorem Try.info60 : (Try.prog.info? 60).map (fun i => (i.zero, i.size, i.bytes)) = some (some (.agg #[.bool false, .slice none 0 0, .slice none 0 0]), 3, 56) := by kernel_rfl
theorem Try.underlying84 : Try.prog.underlying 84 = some (.slice 60) := by kernel_rfl
theorem below_drewn (w : World) (o : Obj) : Below w.heap.size w (w.drew.alloc o) := by
  have h := (Below.refl w.heap.size w).drew
  exact h.alloc (Nat.le_refl _) o

set_option maxRecDepth 100000 in
theorem run_app_q {w : World} {B G : Nat} {v : Value} {l : List Q3} {q : Q3} {o1 o2 : Option Addr} {k1 c1 k2 c2 : Nat} (ty : TypeId) (hl : QList w B v l)
    (hG : w.heap[G]? = some (.cells #[.bool q.1, .slice o1 k1 c1, .slice o2 k2 c2] 60 (0, 0))) (hn : RNum w (.slice o1 k1 c1) q.2.1) (hd : RNum w (.slice o2 k2 c2) q.2.2) (hlen : l.length ≤ 1000000) :
    ∃ v' w', (Builtin.append_ #[84, 84] ty #[v, .slice (some ⟨G, 0, none⟩) 1 1]).run Try.prog w = .ok v' w' ∧ QList w' B v' (l ++ [q]) ∧ (∀ W C, C ≤ B → Below C W w → Below C W w') := by
  obtain ⟨i0, hi, hz0, hz1, hz2⟩ := info_parts Try.info60
  have hnews : ∀ j u, [Value.bool q.1, .slice o1 k1 c1, .slice o2 k2 c2][j]? = some u → w.cell? ((⟨G, 0, none⟩ : Addr).add j) = some u := by
    intro j u hu
    have hadd : (⟨G, 0, none⟩ : Addr).add j = ⟨G, j, none⟩ := by unfold Addr.add; split <;> simp_all
    rw [hadd, cell_of_row w G j _ 60 (0, 0) hG]
    simpa using hu
  have h1c : ∀ u ∈ [Value.bool q.1, .slice o1 k1 c1, .slice o2 k2 c2], u.oneCell' = true := by
    intro u hu
    simp at hu
    rcases hu with rfl | rfl | rfl <;> rfl
  have hnl : [Value.bool q.1, .slice o1 k1 c1, .slice o2 k2 c2].length = 1 * i0.size := by rw [hz1]; rfl
  have hnn : ∀ x ∈ [Value.bool q.1, .slice o1 k1 c1, .slice o2 k2 c2], noInt x := by
    intro u hu
    simp at hu
    rcases hu with rfl | rfl | rfl <;> trivial
  have hml : (1000001 : Nat) ≤ maxLen := by unfold maxLen; omega
  obtain ⟨hB, h⟩ := hl
  rcases h with ⟨rfl, rfl⟩ | ⟨g, cap, cur, rfl, h1, h2, h3, h4, h5, h6, h7⟩
  · have hr := run_append_nil (P := Try.prog) w 84 ty 60 i0 _ Try.underlying84 hi hz0 ⟨G, 0, none⟩ 1 1 _ hnl hnews (by omega) (by omega) (by rw [hz2]; omega)
    have hge := grownCap_ge w 1 0 60
    have hcm := grownCap_le_maxLen w 1 0 60 (by omega)
    have hb := below_drewn w (.cells ([Value.bool q.1, .slice o1 k1 c1, .slice o2 k2 c2].toArray ++ Builtin.zeroCells (Value.cells (.agg #[.bool false, .slice none 0 0, .slice none 0 0])) (grownCap w 1 0 60 - 1)) 60)
    refine ⟨_, _, hr, ⟨Nat.le_trans hB hb.size, .inr ⟨w.heap.size, _, _, rfl, hB, heap_alloc_new w.drew _, hge, hcm, ?_, ?_, ?_⟩⟩, ?_⟩
    · rw [Array.size_append, size_zeroCells]
      show 3 + (grownCap w 1 0 60 - 1) * 3 = _
      omega
    · intro x hx
      rcases Array.mem_append.1 hx with hx | hx
      · exact hnn x (by simpa using hx)
      · exact noInt_zero _ x hx
    · rw [Array.toList_append]
      exact RSat.snoc (cur := []) (l := []) (fun i hi => absurd hi (Nat.not_lt_zero _)) rfl (hn.go hb) (hd.go hb)
    · intro W C hC hbW
      exact hbW.trans (hb.mono (Nat.le_trans hC hB))
  · have htl : (cur.toList.take (l.length * 3)).length = l.length * 3 := by
      have h9 : cur.toList.length = cap * 3 := by rw [← h5]; exact Array.length_toList
      rw [List.length_take, h9]; have := Nat.mul_le_mul_right 3 h3; omega
    have hsat : RSat w (cur.toList.take (l.length * 3)) l := fun i hi => by
      obtain ⟨p1, j1, d1, p2, j2, d2, e1, e2, e3, e4, e5⟩ := h7 i hi
      refine ⟨p1, j1, d1, p2, j2, d2, ?_, ?_, ?_, e4, e5⟩
      · rw [List.getElem?_take, if_pos (by omega)]; exact e1
      · rw [List.getElem?_take, if_pos (by omega)]; exact e2
      · rw [List.getElem?_take, if_pos (by omega)]; exact e3
    have hlen2 : (l ++ [q]).length = l.length + 1 := by simp
    by_cases hroom : l.length + 1 ≤ cap
    · have hfit : l.length * i0.size + [Value.bool q.1, .slice o1 k1 c1, .slice o2 k2 c2].length ≤ cur.size := by
        rw [hz1, h5]
        show l.length * 3 + 3 ≤ _
        have := Nat.mul_le_mul_right 3 hroom
        omega
      have hr := run_append_room (P := Try.prog) w 84 ty 60 i0 Try.underlying84 hi g l.length cap cur h2 ⟨G, 0, none⟩ 1 1 _ hnl hnews h1c hroom hfit
      rw [hz1] at hr
      have hset := setRow_heap w g cur (cur.toList.take (l.length * 3) ++ [Value.bool q.1, .slice o1 k1 c1, .slice o2 k2 c2] ++ cur.toList.drop (l.length * 3 + [Value.bool q.1, .slice o1 k1 c1, .slice o2 k2 c2].length)).toArray 60 (0, 0) h2
      have hoff : ∀ b, b ≠ g → (w.setRow g (cur.toList.take (l.length * 3) ++ [Value.bool q.1, .slice o1 k1 c1, .slice o2 k2 c2] ++ cur.toList.drop (l.length * 3 + [Value.bool q.1, .slice o1 k1 c1, .slice o2 k2 c2].length)).toArray).heap[b]? = w.heap[b]? := fun b hb => setRow_other w g b _ hb
      have hgr : w.grownBy (w.setRow g (cur.toList.take (l.length * 3) ++ [Value.bool q.1, .slice o1 k1 c1, .slice o2 k2 c2] ++ cur.toList.drop (l.length * 3 + [Value.bool q.1, .slice o1 k1 c1, .slice o2 k2 c2].length)).toArray) (some g) := ⟨rfl, rfl, rfl, by simp, fun k _ hk => setRow_other w g k _ (fun e => hk (by rw [e]))⟩
      refine ⟨_, _, hr, ⟨Nat.le_trans hB hgr.size, .inr ⟨g, cap, _, by rw [hlen2], h1, hset, by rw [hlen2]; exact hroom, h4, ?_, ?_, ?_⟩⟩, ?_⟩
      · simp only [List.size_toArray, List.length_append, htl, List.length_drop, Array.length_toList, h5, List.length_cons, List.length_nil]
        have := Nat.mul_le_mul_right 3 hroom
        omega
      · intro x hx
        have hx : x ∈ cur.toList.take (l.length * 3) ++ [Value.bool q.1, .slice o1 k1 c1, .slice o2 k2 c2] ++ cur.toList.drop (l.length * 3 + [Value.bool q.1, .slice o1 k1 c1, .slice o2 k2 c2].length) := by simpa using hx
        rcases List.mem_append.1 hx with hx | hx
        · rcases List.mem_append.1 hx with hx | hx
          · exact h6 x (by simpa using List.mem_of_mem_take hx)
          · exact hnn x hx
        · exact h6 x (by simpa using List.mem_of_mem_drop hx)
      · rw [List.toList_toArray]
        exact RSat.snoc (hsat.map fun _ _ h => h.off h2 h6 hoff) htl (hn.off h2 h6 hoff) (hd.off h2 h6 hoff)
      · intro W C hC hbW
        exact hbW.grown hgr (Nat.le_trans hC hB) (fun k hk => by cases hk; omega)
    · have holds : ∀ j u, (cur.toList.take (l.length * 3))[j]? = some u → w.cell? ((⟨g, 0, none⟩ : Addr).add j) = some u := by
        intro j u hu
        have hadd : (⟨g, 0, none⟩ : Addr).add j = ⟨g, j, none⟩ := by unfold Addr.add; split <;> simp_all
        rw [hadd, cell_of_row w g j cur 60 (0, 0) h2]
        rw [List.getElem?_take] at hu
        split at hu
        · simpa using hu
        · cases hu
      have hr := run_append_grow (P := Try.prog) w 84 ty 60 i0 _ Try.underlying84 hi hz0 ⟨g, 0, none⟩ l.length cap (cur.toList.take (l.length * 3)) (by rw [htl, hz1]) holds ⟨G, 0, none⟩ 1 1 _ hnl hnews (by omega) (by omega) (growslice_fits (by omega) (by rw [hz2]; omega))
      have hge := grownCap_ge w (l.length + 1) cap 60
      have hcm := grownCap_le_maxLen w (l.length + 1) cap 60 (by omega)
      have hb := below_drewn w (.cells ((cur.toList.take (l.length * 3)).toArray ++ [Value.bool q.1, .slice o1 k1 c1, .slice o2 k2 c2].toArray ++ Builtin.zeroCells (Value.cells (.agg #[.bool false, .slice none 0 0, .slice none 0 0])) (grownCap w (l.length + 1) cap 60 - (l.length + 1))) 60)
      refine ⟨_, _, hr, ⟨Nat.le_trans hB hb.size, .inr ⟨w.heap.size, _, _, by rw [hlen2], hB, heap_alloc_new w.drew _, by rw [hlen2]; exact hge, hcm, ?_, ?_, ?_⟩⟩, ?_⟩
      · rw [Array.size_append, Array.size_append, size_zeroCells, List.size_toArray, htl]
        show l.length * 3 + 3 + (grownCap w (l.length + 1) cap 60 - (l.length + 1)) * 3 = _
        omega
      · intro x hx
        rcases Array.mem_append.1 hx with hx | hx
        · rcases Array.mem_append.1 hx with hx | hx
          · have hx : x ∈ cur.toList.take (l.length * 3) := by simpa using hx
            exact h6 x (by simpa using List.mem_of_mem_take hx)
          · exact hnn x (by simpa using hx)
        · exact noInt_zero _ x hx
      · rw [Array.toList_append, Array.toList_append, List.toList_toArray, List.toList_toArray]
        exact RSat.snoc (hsat.map fun _ _ h => h.go hb) htl (hn.go hb) (hd.go hb)
      · intro W C hC hbW
        exact hbW.trans (hb.mono (Nat.le_trans hC hB))
set_option maxRecDepth 100000 in
theorem app_q {ops : Array Oper} {rest : List Oper} {o : Oper} {a : Act} {w : World} {Q : Exit → Act → World → Prop} (hgd : o.guard = none) (s x : Operand)
    (ho : o.op = .call { callee := .builtin .append, args := #[s, x], argTypes := #[84, 84] }) {B G : Nat} {v : Value} {l : List Q3} {q : Q3} {o1 o2 : Option Addr} {k1 c1 k2 c2 : Nat} (hs : a.eval s = v) (hl : QList w B v l)
    (hx : a.eval x = .slice (some ⟨G, 0, none⟩) 1 1) (hG : w.heap[G]? = some (.cells #[.bool q.1, .slice o1 k1 c1, .slice o2 k2 c2] 60 (0, 0))) (hn : RNum w (.slice o1 k1 c1) q.2.1) (hd : RNum w (.slice o2 k2 c2) q.2.2) (hlen : l.length ≤ 1000000)
    (h : ∀ v' w', QList w' B v' (l ++ [q]) → (∀ W C, C ≤ B → Below C W w → Below C W w') → wpList Try.prog ops Q rest (a.put o.dst v') w') : wpList Try.prog ops Q (o :: rest) a w := by
  refine wpList_plain hgd fun _ hK => ?_
  obtain ⟨v', w', hr, h2, h3⟩ := run_app_q o.type hl hG hn hd hlen
  unfold Oper.wp execOp
  simp only [ho, resolve, invoke, builtin, Sem.run_bind, Sem.run_pure, Result.andThen_ok, List.map_toArray, List.map_cons, List.map_nil, hs, hx, hr]
  exact hK _ _ (h v' w' h2 h3)
end Go.Proofs.Ytlkdahgfnfdakaa

namespace Go.Proofs.Ytlkdahgfnfdakaa
open Go Go.RowKit Go.Shelf WN LM

theorem readAll_snoc : ∀ (L : List ByteArray) (s : ByteArray) (l : List Q3) (p : Q3), readAll L = some l → readQ s.data.toList = some p → readAll (L ++ [s]) = some (l ++ [p])
  | [], s, l, p, h, hp => by
    unfold readAll at h
    obtain rfl := Option.some.inj h
    show readAll [s] = _
    unfold readAll
    rw [hp]; rfl
  | t :: L, s, l, p, h, hp => by
    unfold readAll at h
    cases ht : readQ t.data.toList with
    | none => rw [ht] at h; cases h
    | some q =>
      cases hr : readAll L with
      | none => rw [ht, hr] at h; cases h
      | some m =>
        rw [ht, hr] at h
        obtain rfl := Option.some.inj h
        show readAll (t :: (L ++ [s])) = _
        unfold readAll
        rw [ht, readAll_snoc L s m p hr hp]; rfl
theorem readAll_bad : ∀ (L : List ByteArray) (s : ByteArray), s ∈ L → readQ s.data.toList = none → readAll L = none
  | [], s, h, _ => by cases h
  | t :: L, s, h, hp => by
    unfold readAll
    rcases List.mem_cons.1 h with rfl | h
    · rw [hp]
    · rw [readAll_bad L s h hp]
      cases readQ t.data.toList <;> rfl
theorem alloc_two (w : World) (o p : Obj) : ((w.alloc o).alloc p).heap[w.heap.size + 1]? = some p := by
  have h := heap_alloc_new (w.alloc o) p
  rwa [show (w.alloc o).heap.size = w.heap.size + 1 by simp] at h
theorem QList.lt {w : World} {B : Nat} {v : Value} {l : List Q3} (h : QList w B v l) : ∀ g, v.ownBlock = some g → g < w.heap.size := by
  intro g hg
  rcases h.2 with ⟨rfl, rfl⟩ | ⟨g', cap, cur, rfl, h1, h2, -⟩
  · cases hg
  · obtain rfl : g' = g := by simpa [Value.ownBlock] using hg
    exact lt_of_block h2
theorem QList.off {w w' : World} {B G : Nat} {v : Value} {l : List Q3} {cur : Array Value} {t : TypeId} {z : Nat × Nat} (h : QList w B v l) (hG : w.heap[G]? = some (.cells cur t z)) (hn : ∀ x ∈ cur, noInt x) (hoff : ∀ b, b ≠ G → w'.heap[b]? = w.heap[b]?) (hs : w.heap.size ≤ w'.heap.size)
    (hne : v.ownBlock ≠ some G) : QList w' B v l := by
  obtain ⟨h0, h⟩ := h
  refine ⟨Nat.le_trans h0 hs, ?_⟩
  rcases h with h | ⟨g, cap, cur', rfl, h1, h2, h3, h4, h5, h6, h7⟩
  · exact .inl h
  · have hg : g ≠ G := fun e => hne (by rw [e]; rfl)
    exact .inr ⟨g, cap, cur', rfl, h1, (hoff g hg).trans h2, h3, h4, h5, h6, h7.map fun _ _ h => h.off hG hn hoff⟩
/-- a number is put into a box: the list is as it was -/
theorem QList.put {w : World} {B G : Nat} {v : Value} {l : List Q3} {q : Q3} (h : QList w B v l) (hq : QB w G q) (hne : v.ownBlock ≠ some G) (x y z : Value) :
    QList (((w.setCell ⟨G, 0, none⟩ x).setCell ⟨G, 1, none⟩ y).setCell ⟨G, 2, none⟩ z) B v l := by
  obtain ⟨_, _, _, _, _, _, bx, -, -⟩ := hq
  refine h.off bx ?_ (three_off w G 0 1 2 x y z) (Nat.le_of_eq (by simp)) hne
  intro u hu
  simp at hu
  rcases hu with rfl | rfl | rfl <;> trivial
def RetL (w : World) (o : Option (List Q3)) (e : Ending) (w' : World) : Prop :=
  Below w.heap.size w w' ∧ match o with
    | none => e = .returned (.tuple #[.slice none 0 0, .bool false])
    | some l => ∃ v, e = .returned (.tuple #[v, .bool true]) ∧ QList w' w.heap.size v l
def ListI (w : World) (L : List ByteArray) (i : Nat) (v : Value) (W : World) : Prop := ∃ l, readAll (L.take i) = some l ∧ QList W w.heap.size v l ∧ Below w.heap.size w W
theorem cPlus4 {w : World} {v u : Value} {p q : Q3} (hp : Ok 40000 p) (hq : Ok 40000 q) (h : RFrac w v p.1 p.2.1 p.2.2) (k : RFrac w u q.1 q.2.1 q.2.2) : Calls Try.prog 71 #[v, u] w (RRetQ w (addQ p q)) := by
  rw [← plus_eq hp.1 hq.1]
  exact plusQ_any h k hp.2.1 hp.2.2 hq.2.1 hq.2.2 hp.1.1 hq.1.1
theorem cOut4 {w : World} {v : Value} {p : Q3} (hp : Ok 100000 p) (h : RFrac w v p.1 p.2.1 p.2.2) : Calls Try.prog 68 #[v] w (OutS w (out3 p)) := rout_any h hp.2.1 hp.2.2

set_option maxHeartbeats 8000000 in
set_option maxRecDepth 100000 in
theorem rlist_any {w : World} {v : Value} {L : List ByteArray} (hv : Strs w v L) (hn : L.length ≤ 1000000) (hs : ∀ s ∈ L, s.size ≤ 140737488355328) : Calls Try.prog 88 #[v] w (RetL w (readAll L)) := by
  have RD : Hid (∀ W, ∀ s ∈ L, Calls Try.prog 57 #[.string s] W (RReadOut W (readQ s.data.toList))) := fun W s hm => rread_any s W (hs s hm)
  have SV := Lib.hid hv
  obtain ⟨oa, cap, rfl, hcell⟩ := hv
  have HC := Lib.hid hcell; clear hcell hs
  obtain ⟨n, hl⟩ : ∃ n, L.length = n := ⟨_, rfl⟩
  rw [hl] at hn
  rw [hl] at SV ⊢
  have HL := Lib.hid hl; have HN := Lib.hid hn; clear hl hn
  go_enter Try.func88, Try.ntmps88
  go_wp2_with fail
  go_loopw [4, 5] (fun v4 v5 wr => ∃ i : Nat, i ≤ n ∧ v5 = .int .i64 (i : Nat) ∧ Hid (ListI w L i v4 wr)) (fun _ vi _ => n - (intOf vi).toNat)
  case atStart => exact ⟨0, Nat.zero_le _, rfl, [], by rw [List.take_zero]; rfl, QList.nil (Nat.le_refl _), Below.refl _ _⟩
  case round =>
    obtain ⟨i, hi, rfl, hinv⟩ := hrel
    have Inv := Lib.hid hinv; clear hinv
    rename World => wr
    have hw : wrap64 ((i : Int) + 1) = ((i + 1 : Nat) : Int) := by unfold wrap64; have := HN.out; omega
    have HW := Lib.hid hw; clear hw
    by_cases hlt : i < n
    · have hli : i < L.length := by rw [HL.out]; exact hlt
      have HMEM : Hid (L[i] ∈ L) := List.getElem_mem hli
      have HTK : Hid (L.take (i + 1) = L.take i ++ [L[i]]) := by show _ = _; rw [List.take_add_one, List.getElem?_eq_getElem hli]; rfl
      obtain ⟨b, off, rfl, hc⟩ := HC.out i hli
      have hc' := (Inv.out.out.choose_spec.2.2.cell (p := ⟨b, off + i, none⟩) (block_lt_of_cell hc)).trans hc
      generalize L[i] = s at *
      clear hc
      go_wp2_with fail
      refine (RD.out _ s HMEM.out).mono ?_; rintro e w1 ⟨v1, hb1, h⟩
      clear hc'
      have Inv1 : Hid (ListI w L i u4 w1) := by
        obtain ⟨l, h1, h2, h3⟩ := Inv.out.out
        exact ⟨l, h1, h2.go hb1, bstep h3 hb1⟩
      clear hb1 Inv
      cases hp : readQ s.data.toList with
      | none =>
        rw [hp] at h
        obtain ⟨rfl, rfl⟩ := h
        have HR : Hid (readAll L = none) := readAll_bad L s HMEM.out hp
        have HB : Hid (Below w.heap.size w (w1.alloc (.cells #[.bool false, .slice none 0 0, .slice none 0 0] 60))) := bstep Inv1.out.choose_spec.2.2 (below_alloc w1 _)
        clear hp
        go_wp2_with fail
        go_ret2
        rw [HR.out]
        exact ⟨HB.out, rfl⟩
      | some p =>
        rw [hp] at h
        obtain ⟨rfl, o1, k1, c1, o2, k2, c2, rfl, hn1, hd1⟩ := h
        have b1 := below_alloc w1 (.cells #[.bool p.1, .slice o1 k1 c1, .slice o2 k2 c2] 60)
        have Inv2 : Hid (ListI w L i u4 (w1.alloc (.cells #[.bool p.1, .slice o1 k1 c1, .slice o2 k2 c2] 60))) := by
          obtain ⟨l, h1, h2, h3⟩ := Inv1.out
          exact ⟨l, h1, h2.go b1, bstep h3 b1⟩
        have HN1 := Lib.hid (hn1.go b1); have HD1 := Lib.hid (hd1.go b1); have HP := Lib.hid hp
        obtain ⟨x0, x1, x2, -, -, -⟩ := (BoxQ.new w1 (.bool p.1) (.slice o1 k1 c1) (.slice o2 k2 c2)).facts
        clear hn1 hd1 hp b1 Inv1
        go_wp2_with (at_builtin; refine stop_op 27 rfl ?_)
        apply Lib.hid
        obtain ⟨l, h1, h2, h3⟩ := Inv2.out
        have b2 := below_alloc (w1.alloc (.cells #[.bool p.1, .slice o1 k1 c1, .slice o2 k2 c2] 60)) (.cells #[.bool p.1, .slice o1 k1 c1, .slice o2 k2 c2] 60)
        have hll : l.length ≤ 1000000 := by
          have h5 := readAll_length _ _ h1
          rw [List.length_take] at h5
          have := HN.out; omega
        refine app_q rfl (.tmp 24) (.tmp 26) rfl rfl (h2.go b2) rfl (alloc_two _ _ _) (HN1.out.go b2) (HD1.out.go b2) hll ?_
        intro v' w' hq hbw
        have INV : Hid (ListI w L (i + 1) v' w') := ⟨l ++ [p], by rw [HTK.out]; exact readAll_snoc _ _ _ _ h1 HP.out, hq, hbw w _ (Nat.le_refl _) (bstep h3 b2)⟩
        have HLT := Lib.hid hlt
        clear h1 h2 h3 b2 hll hq hbw Inv2 HN1 HD1 HP HTK HMEM x0 x1 x2 hlt hi
        go_wp2_with fail
        go_roundw
        case rel => exact ⟨i + 1, HLT.out, by first | exact congrArg (Value.int .i64) HW.out | go_num, INV.out⟩
        case measure => have := HLT.out; first | (rw [HW.out]; simp [intOf]; omega) | (simp [intOf]; omega)
    · obtain rfl : i = n := by omega
      have HF : Hid (∃ l, readAll L = some l ∧ QList wr w.heap.size u4 l ∧ Below w.heap.size w wr) := by
        obtain ⟨l, h1, h2, h3⟩ := Inv.out.out
        rw [List.take_of_length_le (by rw [HL.out]; exact Nat.le_refl _)] at h1
        exact ⟨l, h1, h2, h3⟩
      clear Inv
      go_wp2_with fail
      go_ret2
      obtain ⟨l, h1, h2, h3⟩ := HF.out
      rw [h1]
      exact ⟨h3, _, rfl, h2⟩
end Go.Proofs.Ytlkdahgfnfdakaa

namespace Go.Proofs.Ytlkdahgfnfdakaa
open Go Go.RowKit Go.Shelf WN LM

def SumI (w : World) (B : Nat) (q : Q3) (W : World) : Prop := QB W B q ∧ Below w.heap.size w W
/-- the i-th number of a list, wherever it is read -/
theorem QList.load {w : World} {k : Nat} {o : Option Addr} {n c : Nat} {l : List Q3} (h : QList w k (.slice o n c) l) {i : Nat} (hi : i < l.length) : ∃ g, o = some ⟨g, 0, none⟩ ∧ ∀ W, Below w.heap.size w W →
    ∃ o1 k1 c1 o2 k2 c2, (W.cell? ⟨g, i * 3, none⟩ = some (.bool l[i].1) ∧ W.cell? ⟨g, i * 3 + 1, none⟩ = some (.slice o1 k1 c1) ∧ W.cell? ⟨g, i * 3 + 2, none⟩ = some (.slice o2 k2 c2)) ∧ RFrac W (.agg #[.bool l[i].1, .slice o1 k1 c1, .slice o2 k2 c2]) l[i].1 l[i].2.1 l[i].2.2 := by
  obtain ⟨g, cap9, -, -, -, -, -, -, hvg, -, -, -⟩ := h.get hi
  have ho : o = some ⟨g, 0, none⟩ := by injection hvg with h1 h2 h3
  refine ⟨g, ho, fun W hb => ?_⟩
  obtain ⟨g', cap', o1, k1, c1, o2, k2, c2, hv', hc, h1, h2⟩ := (h.go hb).get hi
  have hg : g' = g := by
    rw [ho] at hv'
    injection hv' with h1 h2 h3
    simpa using h1.symm
  subst hg
  exact ⟨_, _, _, _, _, _, hc, ⟨_, _, _, _, _, _, rfl, h1, h2⟩⟩
set_option maxHeartbeats 8000000 in
set_option maxRecDepth 100000 in
theorem rSum_any {w : World} {v : Value} {L : List ByteArray} (hv : Strs w v L) (hn : L.length ≤ 1000000) (hL : readAll L ≠ none → L.length ≤ 240) (hs : ∀ s ∈ L, s.size ≤ 140737488355328) : Calls Try.prog 43 #[v] w (OutS w (sumT L)) := by
  have RL := Lib.hid (rlist_any hv (by omega) hs)
  have HN0 := Lib.hid hL
  obtain ⟨oa, cap, rfl, -⟩ := hv
  clear hs hn hL
  cases hr : readAll L with
  | none =>
    rw [hr] at RL
    have HR : Hid (sumT L = ((⟨#[]⟩ : ByteArray), (1 : Int))) := by show _ = _; unfold sumT; rw [hr]
    clear hr
    go_enter Try.func43, Try.ntmps43
    go_wp2_with fail
    refine RL.out.mono ?_; rintro e w1 ⟨hb1, rfl⟩
    have HB1 := Lib.hid hb1; clear hb1
    go_wp2_with fail
    go_ret2
    exact ⟨by rw [HR.out]; rfl, HB1.out⟩
  | some l =>
    have HN : Hid (L.length ≤ 240) := HN0.out (by rw [hr]; intro h; cases h)
    clear HN0
    rw [hr] at RL
    have HR : Hid (sumT L = out3 (sumQ l)) := by show _ = _; unfold sumT; rw [hr]
    have hok := readAll_ok L l hr
    have hlen := readAll_length L l hr
    obtain ⟨n, hnl⟩ : ∃ n, l.length = n := ⟨_, rfl⟩
    have hn2 : n ≤ 240 := by have := HN.out; omega
    have PL : Hid (∀ i (hi : i < l.length) W v u, RFrac W v (sumQ (l.take i)).1 (sumQ (l.take i)).2.1 (sumQ (l.take i)).2.2 → RFrac W u l[i].1 l[i].2.1 l[i].2.2 → Calls Try.prog 71 #[v, u] W (RRetQ W (sumQ (l.take (i + 1))))) := fun i hi W v u h k => by
      have h1 := sumQ_ok l hok i (by omega)
      rw [List.take_add_one, List.getElem?_eq_getElem hi]
      show Calls _ _ _ _ (RRetQ W (sumQ (l.take i ++ [l[i]])))
      rw [sumQ_snoc]
      exact cPlus4 (h1.up (by have := Nat.mul_le_mul_left (75 + 1) (show i ≤ 240 by omega); omega)) ((hok _ (List.getElem_mem hi)).up (by omega)) h k
    have OT : Hid (∀ W v, RFrac W v (sumQ l).1 (sumQ l).2.1 (sumQ l).2.2 → Calls Try.prog 68 #[v] W (OutS W (out3 (sumQ l)))) := fun W v h => by
      have h1 := sumQ_ok l hok l.length (Nat.le_refl _)
      rw [List.take_length] at h1
      exact cOut4 (h1.up (by have := Nat.mul_le_mul_left (75 + 1) (show l.length ≤ 240 by omega); omega)) h
    have OF0 : Hid (∀ W, Calls Try.prog 66 #[.int .i64 0] W (RRetQ W zeroQ)) := cOf0
    have HNL := Lib.hid hnl; have HN2 := Lib.hid hn2
    clear hr hok hlen hnl hn2 HN
    go_enter Try.func43, Try.ntmps43
    go_wp2_with fail
    refine RL.out.mono ?_; rintro e w1 ⟨hb1, v1, rfl, hq1⟩
    obtain ⟨oq, cq, hvq⟩ := hq1.shape
    rw [HNL.out] at hvq
    subst hvq
    have HB1 := Lib.hid hb1; have HQ1 := Lib.hid hq1
    clear hb1 hq1 RL
    go_wp2_with fail
    refine (OF0.out _).mono ?_; rintro e w2 ⟨v2, rfl, hv2, hb2⟩
    obtain ⟨o1, k1, c1, o2, k2, c2, rfl, hn2, hd2⟩ := hv2
    obtain ⟨qb, bb⟩ := QB.new (W := w2) (q := zeroQ) hn2 hd2
    have I0 : Hid (SumI w w2.heap.size (sumQ (l.take 0)) (w2.alloc (.cells #[.bool zeroQ.1, .slice o1 k1 c1, .slice o2 k2 c2] 60)) ∧ QList (w2.alloc (.cells #[.bool zeroQ.1, .slice o1 k1 c1, .slice o2 k2 c2] 60)) w.heap.size (.slice oq n cq) l) := ⟨⟨by rw [List.take_zero]; exact qb, bstep (bstep HB1.out hb2) bb⟩, (HQ1.out.go hb2).go bb⟩
    have LE : Hid (w.heap.size ≤ w2.heap.size) := (bstep HB1.out hb2).size
    have NE : Hid ((Value.slice oq n cq).ownBlock ≠ some w2.heap.size) := fun h => by
      have := HQ1.out.lt _ h
      have := hb2.size
      omega
    clear hn2 hd2 qb bb hb2 HB1 HQ1 OF0
    go_wp2_with fail
    generalize w2.alloc (.cells #[.bool zeroQ.1, .slice o1 k1 c1, .slice o2 k2 c2] 60) = w3 at *
    generalize w2.heap.size = B6 at *
    go_loopw [7] (fun v7 wr => ∃ i : Nat, i ≤ n ∧ v7 = .int .i64 (i : Nat) ∧ Hid (SumI w B6 (sumQ (l.take i)) wr ∧ QList wr w.heap.size (.slice oq n cq) l)) (fun vi _ => n - (intOf vi).toNat)
    case atStart => exact ⟨0, Nat.zero_le _, rfl, I0.out⟩
    case round =>
      obtain ⟨i, hi, rfl, hinv⟩ := hrel
      have Inv := Lib.hid hinv; clear hinv I0
      rename World => wr
      have hw : wrap64 ((i : Int) + 1) = ((i + 1 : Nat) : Int) := by unfold wrap64; have := HN2.out; omega
      have HW := Lib.hid hw; clear hw
      have QS := Lib.hid Inv.out.out.1.1; have HB := Lib.hid Inv.out.out.1.2; have QLI := Lib.hid Inv.out.out.2
      clear Inv
      by_cases hlt : i < n
      · have hli : i < l.length := by rw [HNL.out]; exact hlt
        have PLI : Hid (∀ W v u, RFrac W v (sumQ (l.take i)).1 (sumQ (l.take i)).2.1 (sumQ (l.take i)).2.2 → RFrac W u l[i].1 l[i].2.1 l[i].2.2 → Calls Try.prog 71 #[v, u] W (RRetQ W (sumQ (l.take (i + 1))))) := fun W v u => PL.out i hli W v u
        obtain ⟨g, rfl, hget⟩ := QLI.out.load hli
        have GET := Lib.hid hget
        obtain ⟨s', hs'⟩ : ∃ s', s' = sumQ (l.take (i + 1)) := ⟨_, rfl⟩
        have HS := Lib.hid hs'
        rw [← hs'] at PLI
        clear hget hs' PL OT
        generalize sumQ (l.take i) = s at *
        generalize l[i] = a at *
        go_wp2_with fail
        refine region_inv 6 32 [(22, IsRF s.1 s.2.1 s.2.2), (23, Is (.slice (some ⟨g, 0, none⟩) n cq)), (24, Is (.int .i64 (i : Nat))), (25, Is (.pointer (some ⟨g, i * 3, none⟩))), (26, IsRF a.1 a.2.1 a.2.2), (27, IsRF s'.1 s'.2.1 s'.2.2)] (by kernel_rfl) rfl (by kernel_rfl) ?_ ?_
        · refine steps_cons rfl (fun A_ W hb hr hg K hK => ?_) <| steps_cons rfl (fun A_ W hb hr hg K hK => ?_) <| steps_cons rfl (fun A_ W hb hr hg K hK => ?_) <| steps_cons rfl (fun A_ W hb hr hg K hK => ?_) <| steps_cons rfl (fun A_ W hb hr hg K hK => ?_) <| steps_cons rfl (fun A_ W hb hr hg K hK => ?_) trivial
          · have e0 : A_.tmps[6]?.getD undef = .pointer (some ⟨B6, 0, none⟩) := hb 6 (by kernel_rfl)
            obtain ⟨o1, k1, c1, o2, k2, c2, ⟨x0, x1, x2⟩, hh⟩ := (QS.out.go hg).open
            have HH := Lib.hid hh
            clear hb hr hh; go_simp; exact hK _ _ (Below.refl _ _) HH.out
          · have e0 : A_.tmps[4]?.getD undef = .slice (some ⟨g, 0, none⟩) n cq := hb 4 (by kernel_rfl)
            clear hb hr; go_simp; exact hK _ _ (Below.refl _ _) rfl
          · have e0 : A_.tmps[7]?.getD undef = .int .i64 (i : Nat) := hb 7 (by kernel_rfl)
            clear hb hr; go_simp; exact hK _ _ (Below.refl _ _) rfl
          · have e0 : A_.tmps[23]?.getD undef = .slice (some ⟨g, 0, none⟩) n cq := hr 23 (by kernel_rfl)
            have e1 : A_.tmps[24]?.getD undef = .int .i64 (i : Nat) := hr 24 (by kernel_rfl)
            clear hb hr; go_simp; exact hK _ _ (Below.refl _ _) rfl
          · have e0 : A_.tmps[25]?.getD undef = .pointer (some ⟨g, i * 3, none⟩) := hr 25 (by kernel_rfl)
            obtain ⟨o1, k1, c1, o2, k2, c2, ⟨x0, x1, x2⟩, hh⟩ := GET.out W hg
            have HH := Lib.hid hh
            clear hb hr hh; go_simp; exact hK _ _ (Below.refl _ _) HH.out
          · have h1 : RFrac W (A_.tmps[22]?.getD undef) s.1 s.2.1 s.2.2 := hr 22 (by kernel_rfl)
            have H1 := Lib.hid h1
            have h2 : RFrac W (A_.tmps[26]?.getD undef) a.1 a.2.1 a.2.2 := hr 26 (by kernel_rfl)
            have H2 := Lib.hid h2
            clear hb hr h1 h2; go_simp
            refine (PLI.out W _ _ H1.out H2.out).mono ?_; rintro e w5 ⟨v5, rfl, hv5, hb5⟩
            exact hK _ _ hb5 hv5
        rintro g4 w14 hb14 ⟨-, -, -, -, -, h20, -⟩
        simp only [List.drop_succ_cons, List.drop_zero, List.take_succ_cons, List.take_zero, putHead, Option.getD_some, Act.put, List.setIfInBounds_toArray, List.set_cons_zero, List.set_cons_succ]
        replace h20 : RFrac w14 (g4 27) s'.1 s'.2.1 s'.2.2 := h20
        generalize g4 27 = v20 at *
        obtain ⟨o7, k7, c7, o8, k8, c8, rfl, hqn, hqd⟩ := h20
        have QS9 := Lib.hid (QS.out.go hb14); have HB9 := Lib.hid (bstep HB.out hb14); have QL9 := Lib.hid (QLI.out.go hb14)
        obtain ⟨_, _, _, _, _, _, ⟨x0, x1, x2, f0, f1, f2⟩, -, -⟩ := QS9.out.all
        obtain ⟨qx, hb⟩ := QS9.out.put (r := s') hqn hqd HB9.out LE.out
        have INV := Lib.hid (And.intro (show SumI w B6 s' _ from ⟨qx, hb⟩) (QL9.out.put QS9.out NE.out (.bool s'.1) (.slice o7 k7 c7) (.slice o8 k8 c8)))
        have HLT := Lib.hid hlt
        clear hb14 hqn hqd qx hb QS HB QLI QS9 HB9 QL9 GET PLI hlt hi hli
        go_wp2_with fail
        go_roundw
        case rel => exact ⟨i + 1, HLT.out, by first | exact congrArg (Value.int .i64) HW.out | go_num, by rw [← HS.out]; exact INV.out⟩
        case measure => have := HLT.out; first | (rw [HW.out]; simp [intOf]; omega) | (simp [intOf]; omega)

      · obtain rfl : i = n := by omega
        have ht : sumQ (l.take i) = sumQ l := by rw [List.take_of_length_le (by rw [HNL.out]; exact Nat.le_refl _)]
        rw [ht] at QS
        clear PL ht
        generalize sumQ l = s at *
        obtain ⟨o7, k7, c7, o8, k8, c8, ⟨x0, x1, x2⟩, hf⟩ := QS.out.open
        have FS := Lib.hid hf; clear hf
        go_wp2_with fail
        refine (OT.out _ _ FS.out).mono ?_; rintro e w20 ⟨rfl, hb20⟩
        have HB20 := Lib.hid (bstep HB.out hb20); clear hb20
        go_wp2_with fail
        go_ret2
        exact ⟨by rw [HR.out]; rfl, HB20.out⟩
end Go.Proofs.Ytlkdahgfnfdakaa

namespace Go.Proofs.Ytlkdahgfnfdakaa
open Go Go.RowKit Go.Shelf WN LM

set_option maxHeartbeats 8000000 in
set_option maxRecDepth 100000 in
theorem rDot_any {w : World} {v u : Value} {L M : List ByteArray} (hv : Strs w v L) (hu : Strs w u M) (hn : L.length ≤ 1000000) (hm : M.length ≤ 1000000) (hL : readAll L ≠ none → L.length ≤ 240) (hs : ∀ s ∈ L, s.size ≤ 140737488355328) (ht : ∀ s ∈ M, s.size ≤ 140737488355328) : Calls Try.prog 45 #[v, u] w (OutS w (dotT L M)) := by
  have RA := Lib.hid (rlist_any hv hn hs)
  have RB : Hid (∀ W, Below w.heap.size w W → Calls Try.prog 88 #[u] W (RetL W (readAll M))) := fun W hb => rlist_any (hu.go hb) hm ht
  have HN := Lib.hid hL
  obtain ⟨oa, cap, rfl, -⟩ := hv
  obtain ⟨ob, cap2, rfl, -⟩ := hu
  clear hs ht hn hm hL
  cases hr : readAll L with
  | none =>
    rw [hr] at RA
    have HR : Hid (dotT L M = ((⟨#[]⟩ : ByteArray), (1 : Int))) := by show _ = _; unfold dotT; rw [hr]
    clear hr HN
    go_enter Try.func45, Try.ntmps45
    go_wp2_with fail
    refine RA.out.mono ?_; rintro e w1 ⟨hb1, rfl⟩
    have HB1 := Lib.hid hb1; clear hb1
    go_wp2_with fail
    refine (RB.out _ HB1.out).mono ?_; rintro e w2 ⟨hb2, hm⟩
    have HB2 := Lib.hid (bstep HB1.out hb2); clear hb2
    cases hr2 : readAll M with
    | none =>
      rw [hr2] at hm
      obtain rfl : e = _ := hm
      clear hr2
      go_wp2_with fail
      go_ret2
      exact ⟨by rw [HR.out]; rfl, HB2.out⟩
    | some m =>
      rw [hr2] at hm
      obtain ⟨v2, rfl, hq2⟩ := hm
      clear hr2 hq2
      go_wp2_with fail
      go_ret2
      exact ⟨by rw [HR.out]; rfl, HB2.out⟩
  | some l =>
    cases hr2 : readAll M with
    | none =>
      rw [hr] at RA
      rw [hr2] at RB
      have HR : Hid (dotT L M = ((⟨#[]⟩ : ByteArray), (1 : Int))) := by show _ = _; unfold dotT; rw [hr, hr2]
      clear hr hr2 HN
      go_enter Try.func45, Try.ntmps45
      go_wp2_with fail
      refine RA.out.mono ?_; rintro e w1 ⟨hb1, v1, rfl, hq1⟩
      have HB1 := Lib.hid hb1; clear hb1 hq1
      go_wp2_with fail
      refine (RB.out _ HB1.out).mono ?_; rintro e w2 ⟨hb2, rfl⟩
      have HB2 := Lib.hid (bstep HB1.out hb2); clear hb2
      go_wp2_with fail
      go_ret2
      exact ⟨by rw [HR.out]; rfl, HB2.out⟩
    | some m =>
      rw [hr] at RA
      rw [hr2] at RB
      have HR0 : Hid (dotT L M = if l.length ≠ m.length then ((⟨#[]⟩ : ByteArray), (3 : Int)) else out3 (dotQ l m)) := by show _ = _; unfold dotT; rw [hr, hr2]
      have hok := readAll_ok L l hr
      have hok2 := readAll_ok M m hr2
      have hlen := readAll_length L l hr
      have hL240 := HN.out (by rw [hr]; intro h; cases h)
      obtain ⟨n, hnl⟩ : ∃ n, l.length = n := ⟨_, rfl⟩
      obtain ⟨n2, hnm⟩ : ∃ n, m.length = n := ⟨_, rfl⟩
      have hn2 : n ≤ 240 := by omega
      have HNL := Lib.hid hnl; have HNM := Lib.hid hnm; have HN2 := Lib.hid hn2
      rw [hnl, hnm] at HR0
      go_enter Try.func45, Try.ntmps45
      go_wp2_with fail
      refine RA.out.mono ?_; rintro e w1 ⟨hb1, v1, rfl, hq1⟩
      obtain ⟨oq, cq, hvq⟩ := hq1.shape
      rw [HNL.out] at hvq
      subst hvq
      have HB1 := Lib.hid hb1; have HQ1 := Lib.hid hq1
      clear hb1 hq1 RA
      go_wp2_with fail
      refine (RB.out _ HB1.out).mono ?_; rintro e w2 ⟨hb2, v2, rfl, hp2⟩
      obtain ⟨or', cr, hvr⟩ := hp2.shape
      rw [HNM.out] at hvr
      subst hvr
      have HB2 := Lib.hid (bstep HB1.out hb2); have HQ2 := Lib.hid (HQ1.out.go hb2); have HP2 := Lib.hid hp2
      obtain ⟨K2, hK2⟩ : ∃ k, k = w1.heap.size := ⟨_, rfl⟩
      rw [← hK2] at HP2
      clear hb2 hp2 RB hK2 HQ1
      by_cases hne : n = n2
      · have HR : Hid (dotT L M = out3 (dotQ l m)) := by show _ = _; rw [HR0.out, if_neg (by omega)]
        obtain ⟨z, hz⟩ : ∃ z, z = List.zipWith mulQ l m := ⟨_, rfl⟩
        have hzl : z.length = n := by rw [hz, List.length_zipWith]; omega
        have hdz : dotQ l m = sumQ z := by rw [hz]; rfl
        rw [hdz] at HR
        have hzk : ∀ q ∈ z, Ok 150 q := by rw [hz]; exact zip_ok hok hok2
        have hzi : ∀ i (h1 : i < l.length) (h2 : i < m.length) (h3 : i < z.length), z[i] = mulQ l[i] m[i] := fun i h1 h2 h3 => by subst hz; rw [List.getElem_zipWith]
        have PL : Hid (∀ i (hi : i < z.length) W v u, RFrac W v (sumQ (z.take i)).1 (sumQ (z.take i)).2.1 (sumQ (z.take i)).2.2 → RFrac W u z[i].1 z[i].2.1 z[i].2.2 → Calls Try.prog 71 #[v, u] W (RRetQ W (sumQ (z.take (i + 1))))) := fun i hi W v u h k => by
          have h1 := sumQ_ok z hzk i (by omega)
          rw [List.take_add_one, List.getElem?_eq_getElem hi]
          show Calls _ _ _ _ (RRetQ W (sumQ (z.take i ++ [z[i]])))
          rw [sumQ_snoc]
          exact cPlus4 (h1.up (by have := Nat.mul_le_mul_left (150 + 1) (show i ≤ 240 by omega); omega)) ((hzk _ (List.getElem_mem hi)).up (by omega)) h k
        have TM : Hid (∀ i (h1 : i < l.length) (h2 : i < m.length) (h3 : i < z.length) W v u, RFrac W v l[i].1 l[i].2.1 l[i].2.2 → RFrac W u m[i].1 m[i].2.1 m[i].2.2 → Calls Try.prog 74 #[v, u] W (RRetQ W z[i])) := fun i h1 h2 h3 W v u h k => by
          rw [hzi i h1 h2 h3]
          exact cTimes ((hok _ (List.getElem_mem h1)).up (by omega)) ((hok2 _ (List.getElem_mem h2)).up (by omega)) h k
        have OT : Hid (∀ W v, RFrac W v (sumQ z).1 (sumQ z).2.1 (sumQ z).2.2 → Calls Try.prog 68 #[v] W (OutS W (out3 (sumQ z)))) := fun W v h => by
          have h1 := sumQ_ok z hzk z.length (Nat.le_refl _)
          rw [List.take_length] at h1
          exact cOut4 (h1.up (by have := Nat.mul_le_mul_left (150 + 1) (show z.length ≤ 240 by omega); omega)) h
        have OF0 : Hid (∀ W, Calls Try.prog 66 #[.int .i64 0] W (RRetQ W zeroQ)) := cOf0
        have HZL := Lib.hid hzl; have HNE := Lib.hid hne
        have tne : ((n : Int) != (n2 : Int)) = false := by rw [bne_eq_false_iff_eq, hne]
        clear hr hr2 hok hok2 hlen hnl hnm hn2 HN hL240 hz hzl hdz hzk hzi hne HR0
        go_wp2_with fail
        refine (OF0.out _).mono ?_; rintro e w3 ⟨v3, rfl, hv3, hb3⟩
        obtain ⟨o1, k1, c1, o2, k2, c2, rfl, hn3, hd3⟩ := hv3
        obtain ⟨qb, bb⟩ := QB.new (W := w3) (q := zeroQ) hn3 hd3
        have I0 : Hid (SumI w w3.heap.size (sumQ (z.take 0)) (w3.alloc (.cells #[.bool zeroQ.1, .slice o1 k1 c1, .slice o2 k2 c2] 60)) ∧ QList (w3.alloc (.cells #[.bool zeroQ.1, .slice o1 k1 c1, .slice o2 k2 c2] 60)) w.heap.size (.slice oq n cq) l ∧ QList (w3.alloc (.cells #[.bool zeroQ.1, .slice o1 k1 c1, .slice o2 k2 c2] 60)) K2 (.slice or' n2 cr) m) := ⟨⟨by rw [List.take_zero]; exact qb, bstep (bstep HB2.out hb3) bb⟩, (HQ2.out.go hb3).go bb, (HP2.out.go hb3).go bb⟩
        have LE : Hid (w.heap.size ≤ w3.heap.size) := (bstep HB2.out hb3).size
        have NE : Hid ((Value.slice oq n cq).ownBlock ≠ some w3.heap.size) := fun h => by
          have := HQ2.out.lt _ h
          have := hb3.size
          omega
        have NE2 : Hid ((Value.slice or' n2 cr).ownBlock ≠ some w3.heap.size) := fun h => by
          have := HP2.out.lt _ h
          have := hb3.size
          omega
        clear hn3 hd3 qb bb hb3 HB1 HB2 HQ2 HP2 OF0
        go_wp2_with fail
        generalize w3.alloc (.cells #[.bool zeroQ.1, .slice o1 k1 c1, .slice o2 k2 c2] 60) = w4 at *
        generalize w3.heap.size = B6 at *
        go_loopw [11] (fun v7 wr => ∃ i : Nat, i ≤ n ∧ v7 = .int .i64 (i : Nat) ∧ Hid (SumI w B6 (sumQ (z.take i)) wr ∧ QList wr w.heap.size (.slice oq n cq) l ∧ QList wr K2 (.slice or' n2 cr) m)) (fun vi _ => n - (intOf vi).toNat)
        case atStart => exact ⟨0, Nat.zero_le _, rfl, I0.out⟩
        case round =>
          obtain ⟨i, hi, rfl, hinv⟩ := hrel
          have Inv := Lib.hid hinv; clear hinv I0
          rename World => wr
          have hw : wrap64 ((i : Int) + 1) = ((i + 1 : Nat) : Int) := by unfold wrap64; have := HN2.out; omega
          have HW := Lib.hid hw; clear hw
          have QS := Lib.hid Inv.out.out.1.1; have HB := Lib.hid Inv.out.out.1.2; have QLI := Lib.hid Inv.out.out.2.1; have QLJ := Lib.hid Inv.out.out.2.2
          clear Inv
          by_cases hlt : i < n
          · have hli : i < l.length := by rw [HNL.out]; exact hlt
            have hlj : i < m.length := by rw [HNM.out]; have := HNE.out; omega
            have hlz : i < z.length := by rw [HZL.out]; exact hlt
            have hlt2 : i < n2 := by have := HNE.out; omega
            have PLI : Hid (∀ W v u, RFrac W v (sumQ (z.take i)).1 (sumQ (z.take i)).2.1 (sumQ (z.take i)).2.2 → RFrac W u z[i].1 z[i].2.1 z[i].2.2 → Calls Try.prog 71 #[v, u] W (RRetQ W (sumQ (z.take (i + 1))))) := fun W v u => PL.out i hlz W v u
            have TMI : Hid (∀ W v u, RFrac W v l[i].1 l[i].2.1 l[i].2.2 → RFrac W u m[i].1 m[i].2.1 m[i].2.2 → Calls Try.prog 74 #[v, u] W (RRetQ W z[i])) := fun W v u => TM.out i hli hlj hlz W v u
            obtain ⟨g, rfl, hget⟩ := QLI.out.load hli
            obtain ⟨g2, rfl, hget2⟩ := QLJ.out.load hlj
            have GET := Lib.hid hget; have GET2 := Lib.hid hget2
            obtain ⟨s', hs'⟩ : ∃ s', s' = sumQ (z.take (i + 1)) := ⟨_, rfl⟩
            have HS := Lib.hid hs'
            rw [← hs'] at PLI
            clear hget hget2 hs' PL TM OT
            generalize sumQ (z.take i) = s at *
            generalize l[i] = a at *
            generalize m[i] = b at *
            generalize z[i] = p at *
            go_wp2_with fail
            refine region_inv 11 55 [(40, IsRF s.1 s.2.1 s.2.2), (41, Is (.slice (some ⟨g, 0, none⟩) n cq)), (42, Is (.int .i64 (i : Nat))), (43, Is (.pointer (some ⟨g, i * 3, none⟩))), (44, IsRF a.1 a.2.1 a.2.2), (45, Is (.slice (some ⟨g2, 0, none⟩) n2 cr)), (46, Is (.int .i64 (i : Nat))), (47, Is (.pointer (some ⟨g2, i * 3, none⟩))), (48, IsRF b.1 b.2.1 b.2.2), (49, IsRF p.1 p.2.1 p.2.2), (50, IsRF s'.1 s'.2.1 s'.2.2)] (by kernel_rfl) rfl (by kernel_rfl) ?_ ?_
            · refine steps_cons rfl (fun A_ W hb hr hg K hK => ?_) <| steps_cons rfl (fun A_ W hb hr hg K hK => ?_) <| steps_cons rfl (fun A_ W hb hr hg K hK => ?_) <| steps_cons rfl (fun A_ W hb hr hg K hK => ?_) <| steps_cons rfl (fun A_ W hb hr hg K hK => ?_) <| steps_cons rfl (fun A_ W hb hr hg K hK => ?_) <| steps_cons rfl (fun A_ W hb hr hg K hK => ?_) <| steps_cons rfl (fun A_ W hb hr hg K hK => ?_) <| steps_cons rfl (fun A_ W hb hr hg K hK => ?_) <| steps_cons rfl (fun A_ W hb hr hg K hK => ?_) <| steps_cons rfl (fun A_ W hb hr hg K hK => ?_) trivial
              · have e0 : A_.tmps[10]?.getD undef = .pointer (some ⟨B6, 0, none⟩) := hb 10 (by kernel_rfl)
                obtain ⟨o1, k1, c1, o2, k2, c2, ⟨x0, x1, x2⟩, hh⟩ := (QS.out.go hg).open
                have HH := Lib.hid hh
                clear hb hr hh; go_simp; exact hK _ _ (Below.refl _ _) HH.out
              · have e0 : A_.tmps[6]?.getD undef = .slice (some ⟨g, 0, none⟩) n cq := hb 6 (by kernel_rfl)
                clear hb hr; go_simp; exact hK _ _ (Below.refl _ _) rfl
              · have e0 : A_.tmps[11]?.getD undef = .int .i64 (i : Nat) := hb 11 (by kernel_rfl)
                clear hb hr; go_simp; exact hK _ _ (Below.refl _ _) rfl
              · have e0 : A_.tmps[41]?.getD undef = .slice (some ⟨g, 0, none⟩) n cq := hr 41 (by kernel_rfl)
                have e1 : A_.tmps[42]?.getD undef = .int .i64 (i : Nat) := hr 42 (by kernel_rfl)
                clear hb hr; go_simp; exact hK _ _ (Below.refl _ _) rfl
              · have e0 : A_.tmps[43]?.getD undef = .pointer (some ⟨g, i * 3, none⟩) := hr 43 (by kernel_rfl)
                obtain ⟨o1, k1, c1, o2, k2, c2, ⟨x0, x1, x2⟩, hh⟩ := GET.out W hg
                have HH := Lib.hid hh
                clear hb hr hh; go_simp; exact hK _ _ (Below.refl _ _) HH.out
              · have e0 : A_.tmps[8]?.getD undef = .slice (some ⟨g2, 0, none⟩) n2 cr := hb 8 (by kernel_rfl)
                clear hb hr; go_simp; exact hK _ _ (Below.refl _ _) rfl
              · have e0 : A_.tmps[11]?.getD undef = .int .i64 (i : Nat) := hb 11 (by kernel_rfl)
                clear hb hr; go_simp; exact hK _ _ (Below.refl _ _) rfl
              · have e0 : A_.tmps[45]?.getD undef = .slice (some ⟨g2, 0, none⟩) n2 cr := hr 45 (by kernel_rfl)
                have e1 : A_.tmps[46]?.getD undef = .int .i64 (i : Nat) := hr 46 (by kernel_rfl)
                clear hb hr; go_simp; exact hK _ _ (Below.refl _ _) rfl
              · have e0 : A_.tmps[47]?.getD undef = .pointer (some ⟨g2, i * 3, none⟩) := hr 47 (by kernel_rfl)
                obtain ⟨o1, k1, c1, o2, k2, c2, ⟨x0, x1, x2⟩, hh⟩ := GET2.out W hg
                have HH := Lib.hid hh
                clear hb hr hh; go_simp; exact hK _ _ (Below.refl _ _) HH.out
              · have h1 : RFrac W (A_.tmps[44]?.getD undef) a.1 a.2.1 a.2.2 := hr 44 (by kernel_rfl)
                have H1 := Lib.hid h1
                have h2 : RFrac W (A_.tmps[48]?.getD undef) b.1 b.2.1 b.2.2 := hr 48 (by kernel_rfl)
                have H2 := Lib.hid h2
                clear hb hr h1 h2; go_simp
                refine (TMI.out W _ _ H1.out H2.out).mono ?_; rintro e w5 ⟨v5, rfl, hv5, hb5⟩
                exact hK _ _ hb5 hv5
              · have h1 : RFrac W (A_.tmps[40]?.getD undef) s.1 s.2.1 s.2.2 := hr 40 (by kernel_rfl)
                have H1 := Lib.hid h1
                have h2 : RFrac W (A_.tmps[49]?.getD undef) p.1 p.2.1 p.2.2 := hr 49 (by kernel_rfl)
                have H2 := Lib.hid h2
                clear hb hr h1 h2; go_simp
                refine (PLI.out W _ _ H1.out H2.out).mono ?_; rintro e w5 ⟨v5, rfl, hv5, hb5⟩
                exact hK _ _ hb5 hv5
            rintro g4 w14 hb14 ⟨-, -, -, -, -, -, -, -, -, -, h20, -⟩
            simp only [List.drop_succ_cons, List.drop_zero, List.take_succ_cons, List.take_zero, putHead, Option.getD_some, Act.put, List.setIfInBounds_toArray, List.set_cons_zero, List.set_cons_succ]
            replace h20 : RFrac w14 (g4 50) s'.1 s'.2.1 s'.2.2 := h20
            generalize g4 50 = v20 at *
            obtain ⟨o7, k7, c7, o8, k8, c8, rfl, hqn, hqd⟩ := h20
            have QS9 := Lib.hid (QS.out.go hb14); have HB9 := Lib.hid (bstep HB.out hb14); have QL9 := Lib.hid (QLI.out.go hb14); have QL8 := Lib.hid (QLJ.out.go hb14)
            obtain ⟨_, _, _, _, _, _, ⟨x0, x1, x2, f0, f1, f2⟩, -, -⟩ := QS9.out.all
            obtain ⟨qx, hb⟩ := QS9.out.put (r := s') hqn hqd HB9.out LE.out
            have INV := Lib.hid (And.intro (show SumI w B6 s' _ from ⟨qx, hb⟩) (And.intro (QL9.out.put QS9.out NE.out (.bool s'.1) (.slice o7 k7 c7) (.slice o8 k8 c8)) (QL8.out.put QS9.out NE2.out (.bool s'.1) (.slice o7 k7 c7) (.slice o8 k8 c8))))
            have HLT := Lib.hid hlt
            clear hb14 hqn hqd qx hb QS HB QLI QLJ QS9 HB9 QL9 QL8 GET GET2 PLI TMI hlt hi hli hlj hlz hlt2
            go_wp2_with fail
            go_roundw
            case rel => exact ⟨i + 1, HLT.out, by first | exact congrArg (Value.int .i64) HW.out | go_num, by rw [← HS.out]; exact INV.out⟩
            case measure => have := HLT.out; first | (rw [HW.out]; simp [intOf]; omega) | (simp [intOf]; omega)

          · obtain rfl : i = n := by omega
            have ht : sumQ (z.take i) = sumQ z := by rw [List.take_of_length_le (by rw [HZL.out]; exact Nat.le_refl _)]
            rw [ht] at QS
            clear PL TM ht
            generalize sumQ z = s at *
            obtain ⟨o7, k7, c7, o8, k8, c8, ⟨x0, x1, x2⟩, hf⟩ := QS.out.open
            have FS := Lib.hid hf; clear hf
            go_wp2_with fail
            refine (OT.out _ _ FS.out).mono ?_; rintro e w20 ⟨rfl, hb20⟩
            have HB20 := Lib.hid (bstep HB.out hb20); clear hb20
            go_wp2_with fail
            go_ret2
            exact ⟨by rw [HR.out]; rfl, HB20.out⟩
      · have HR : Hid (dotT L M = ((⟨#[]⟩ : ByteArray), (3 : Int))) := by show _ = _; rw [HR0.out, if_pos hne]
        have tne : ((n : Int) != (n2 : Int)) = true := by rw [bne_iff_ne]; omega
        clear hr hr2 hok hok2 hlen hnl hnm hn2 HN hL240 hne HR0 HQ2 HP2
        go_wp2_with fail
        go_ret2
        exact ⟨by rw [HR.out]; rfl, HB2.out⟩
end Go.Proofs.Ytlkdahgfnfdakaa

namespace Go.Proofs.Ytlkdahgfnfdakaa
open Go Go.RowKit Go.Shelf WN LM

def comAt : List Q3 → Nat → Q3
  | [], _ => zeroQ
  | q :: l, i => (l.take (i - 1)).foldl comStep q
theorem comAt_one (q : Q3) (l : List Q3) : comAt (q :: l) 1 = q := rfl
theorem comAt_step (q : Q3) (l : List Q3) (i : Nat) (h1 : 1 ≤ i) (hi : i < (q :: l).length) : comAt (q :: l) (i + 1) = comStep (comAt (q :: l) i) (q :: l)[i] := by
  obtain ⟨j, rfl⟩ : ∃ j, i = j + 1 := ⟨i - 1, by omega⟩
  have hj : j < l.length := by simpa using hi
  rw [List.getElem_cons_succ]
  show (l.take (j + 1)).foldl comStep q = comStep ((l.take j).foldl comStep q) l[j]
  rw [List.take_add_one, List.getElem?_eq_getElem hj]
  show (l.take j ++ [l[j]]).foldl comStep q = _
  rw [List.foldl_append]; rfl
theorem comAt_end (q : Q3) (l : List Q3) : comAt (q :: l) (q :: l).length = l.foldl comStep q := by
  show (l.take ((q :: l).length - 1)).foldl comStep q = _
  rw [List.length_cons, Nat.add_sub_cancel, List.take_length]
theorem comAt_ok (q : Q3) (l : List Q3) (h : ∀ a ∈ q :: l, Ok 75 a ∧ 0 < a.2.1) : ∀ i, 1 ≤ i → i ≤ (q :: l).length → Can (comAt (q :: l) i) ∧ 0 < (comAt (q :: l) i).2.1 ∧ RLen (comAt (q :: l) i).2.1 ≤ 75 ∧ RLen (comAt (q :: l) i).2.2 ≤ 75 * i
  | 0, h1, _ => by omega
  | 1, _, _ => by
    rw [comAt_one]
    obtain ⟨h1, h2⟩ := h q (by simp)
    exact ⟨h1.1, h2, h1.2.1, by have := h1.2.2; omega⟩
  | i + 2, _, hi => by
    obtain ⟨h1, h2, h3, h4⟩ := comAt_ok q l h (i + 1) (by omega) (by omega)
    obtain ⟨k1, k2⟩ := h (q :: l)[i + 1] (List.getElem_mem _)
    rw [comAt_step q l (i + 1) (by omega) (by omega)]
    generalize comAt (q :: l) (i + 1) = c at *
    generalize (q :: l)[i + 1] = a at *
    refine ⟨com_can h1.2.1 k1.1.2.1 h1.1 k1.1.1, Nat.gcd_pos_of_pos_left _ h2, Nat.le_trans (rlen_mono (Nat.gcd_le_left _ h2)) h3, ?_⟩
    have e1 := rlen_mul c.2.2 (a.2.2 / Nat.gcd c.2.2 a.2.2)
    have e2 := rlen_mono (Nat.div_le_self a.2.2 (Nat.gcd c.2.2 a.2.2))
    have e3 := k1.2.2
    show RLen (c.2.2 * (a.2.2 / Nat.gcd c.2.2 a.2.2)) ≤ _
    omega

set_option maxHeartbeats 8000000 in
set_option maxRecDepth 100000 in
theorem rCommon_any {w : World} {v : Value} {L : List ByteArray} (hv : Strs w v L) (hn : L.length ≤ 1000000) (hL : readAll L ≠ none → L.length ≤ 240) (hs : ∀ s ∈ L, s.size ≤ 140737488355328) : Calls Try.prog 47 #[v] w (OutS w (comT L)) := by
  have RL := Lib.hid (rlist_any hv (by omega) hs)
  have HN0 := Lib.hid hL
  obtain ⟨oa, cap, rfl, -⟩ := hv
  clear hs hn hL
  cases hr : readAll L with
  | none =>
    rw [hr] at RL
    have HR : Hid (comT L = ((⟨#[]⟩ : ByteArray), (1 : Int))) := by show _ = _; unfold comT; rw [hr]
    clear hr
    go_enter Try.func47, Try.ntmps47
    go_wp2_with fail
    refine RL.out.mono ?_; rintro e w1 ⟨hb1, rfl⟩
    have HB1 := Lib.hid hb1; clear hb1
    go_wp2_with fail
    go_ret2
    exact ⟨by rw [HR.out]; rfl, HB1.out⟩
  | some l =>
    have HN : Hid (L.length ≤ 240) := HN0.out (by rw [hr]; intro h; cases h)
    clear HN0
    rw [hr] at RL
    have HT : Hid (comT L = comF l) := by show _ = _; unfold comT; rw [hr]
    have hok := readAll_ok L l hr
    have hall := readAll_all L l hr
    have hlen := readAll_length L l hr
    have HALL := Lib.hid hall; have HOK := Lib.hid hok; have HLEN := Lib.hid hlen
    clear hr hok hall hlen
    cases l with
    | nil =>
      have HR : Hid (comT L = ((⟨#[]⟩ : ByteArray), (5 : Int))) := by show _ = _; rw [HT.out]; rfl
      go_enter Try.func47, Try.ntmps47
      go_wp2_with fail
      refine RL.out.mono ?_; rintro e w1 ⟨hb1, v1, rfl, hq1⟩
      obtain ⟨oq, cq, hvq⟩ := hq1.shape
      subst hvq
      have HB1 := Lib.hid hb1; clear hb1 hq1
      go_wp2_with fail
      go_ret2
      exact ⟨by rw [HR.out]; rfl, HB1.out⟩
    | cons q l' =>
      obtain ⟨l, hl⟩ : ∃ l, l = q :: l' := ⟨_, rfl⟩
      obtain ⟨n, hnl⟩ : ∃ n, l.length = n := ⟨_, rfl⟩
      have HNL := Lib.hid hnl; have HLE := Lib.hid hl
      have hn2 : n ≤ 240 := by have h1 := HLEN.out; rw [← hl, hnl] at h1; have := HN.out; omega
      have hn1 : 1 ≤ n := by rw [← hnl, hl]; simp
      have HN2 := Lib.hid hn2; have HN1 := Lib.hid hn1
      rw [← hl] at RL HT HALL HOK
      have tnz : ((n : Int) == 0) = false := by rw [beq_eq_false_iff_ne]; omega
      clear hnl hl hn2 hn1 HLEN HN
      go_enter Try.func47, Try.ntmps47
      go_wp2_with fail
      refine RL.out.mono ?_; rintro e w1 ⟨hb1, v1, rfl, hq1⟩
      obtain ⟨oq, cq, hvq⟩ := hq1.shape
      rw [HNL.out] at hvq
      subst hvq
      have HB1 := Lib.hid hb1; have HQ1 := Lib.hid hq1
      clear hb1 hq1 RL
      go_wp2_with fail
      go_loopw [6] (fun v6 wr => ∃ i : Nat, i ≤ n ∧ v6 = .int .i64 (i : Nat) ∧ Hid ((l.take i).any (fun x => decide (signQ x ≤ 0)) = false) ∧ Hid (QList wr w.heap.size (.slice oq n cq) l ∧ Below w.heap.size w wr)) (fun vi _ => n - (intOf vi).toNat)
      case atStart => exact ⟨0, Nat.zero_le _, rfl, by rw [List.take_zero]; rfl, HQ1.out, HB1.out⟩
      case round =>
        obtain ⟨i, hi, rfl, hpos, hinv⟩ := hrel
        have HPO := Lib.hid hpos.out
        have QLI := Lib.hid hinv.out.1; have HB := Lib.hid hinv.out.2
        clear hpos hinv HB1 HQ1
        rename World => wr
        have hw : wrap64 ((i : Int) + 1) = ((i + 1 : Nat) : Int) := by unfold wrap64; have := HN2.out; omega
        have HW := Lib.hid hw; clear hw
        by_cases hlt : i < n
        · have hli : i < l.length := by rw [HNL.out]; exact hlt
          obtain ⟨g, rfl, hget⟩ := QLI.out.load hli
          obtain ⟨o1, k1, c1, o2, k2, c2, ⟨x0, x1, x2⟩, hf⟩ := hget wr (Below.refl _ _)
          have FA := Lib.hid hf
          have SG : Hid (∀ W v, RFrac W v l[i].1 l[i].2.1 l[i].2.2 → Calls Try.prog 86 #[v] W (RetI W (signQ l[i]))) := fun W v h => cSign (HOK.out _ (List.getElem_mem hli)).1 h
          have HMEM : Hid (l[i] ∈ l) := List.getElem_mem hli
          have HTK : Hid (l.take (i + 1) = l.take i ++ [l[i]]) := by show _ = _; rw [List.take_add_one, List.getElem?_eq_getElem hli]; rfl
          clear hget hf
          generalize l[i] = a at *
          by_cases hz : signQ a ≤ 0
          · have hzd : decide (signQ a ≤ 0) = true := decide_eq_true hz
            have HR : Hid (comT L = ((⟨#[]⟩ : ByteArray), (3 : Int))) := by
              show _ = _
              have h1 : l.any (fun x => decide (signQ x ≤ 0)) = true := List.any_eq_true.2 ⟨a, HMEM.out, hzd⟩
              rw [HT.out]
              rw [HLE.out] at h1 ⊢
              rw [comF_cons, if_pos h1]
            clear hz
            generalize signQ a = sg at *
            go_wp2_with fail
            refine (SG.out _ _ FA.out).mono ?_; rintro e w3 ⟨rfl, hb3⟩
            have HB3 := Lib.hid (bstep HB.out hb3)
            clear hb3 x0 x1 x2
            go_wp2_with fail
            go_ret2
            exact ⟨by rw [HR.out]; rfl, HB3.out⟩
          · have hzd : decide (signQ a ≤ 0) = false := decide_eq_false hz
            have HPS : Hid ((l.take (i + 1)).any (fun x => decide (signQ x ≤ 0)) = false) := by
              show _ = _
              rw [HTK.out, List.any_append, HPO.out]
              simpa using hz
            have HLT := Lib.hid hlt
            clear hz HPO HTK hli
            generalize signQ a = sg at *
            go_wp2_with fail
            refine (SG.out _ _ FA.out).mono ?_; rintro e w3 ⟨rfl, hb3⟩
            have INV : Hid (QList w3 w.heap.size (.slice (some ⟨g, 0, none⟩) n cq) l ∧ Below w.heap.size w w3) := ⟨QLI.out.go hb3, bstep HB.out hb3⟩
            clear hb3 x0 x1 x2 FA QLI HB hlt hi
            go_wp2_with fail
            go_roundw
            case rel => exact ⟨i + 1, HLT.out, by first | exact congrArg (Value.int .i64) HW.out | go_num, HPS.out, INV.out⟩
            case measure => have := HLT.out; first | (rw [HW.out]; simp [intOf]; omega) | (simp [intOf]; omega)
        · obtain rfl : i = n := by omega
          have HPOS : Hid (l.any (fun x => decide (signQ x ≤ 0)) = false) := by
            show _ = _
            have := HPO.out
            rwa [List.take_of_length_le (by rw [HNL.out]; exact Nat.le_refl _)] at this
          have hposn : ∀ a ∈ l, Ok 75 a ∧ 0 < a.2.1 := fun a ha => by
            refine ⟨HOK.out a ha, ?_⟩
            have h1 := List.any_eq_false.1 HPOS.out a ha
            have h2 : ¬ signQ a ≤ 0 := by simpa using h1
            exact Nat.pos_of_ne_zero (sgn_pos.1 (show 0 < sgn a.1 a.2.1 by show 0 < signQ a; omega)).2
          have hcn := hposn
          rw [HLE.out] at hcn
          have COK : Hid (∀ j, 1 ≤ j → j ≤ i → Can (comAt l j) ∧ 0 < (comAt l j).2.1 ∧ RLen (comAt l j).2.1 ≤ 75 ∧ RLen (comAt l j).2.2 ≤ 75 * j) := fun j h1 h2 => by
            have := comAt_ok q l' hcn j h1 (by rw [← HLE.out, HNL.out]; exact h2)
            rw [← HLE.out] at this; exact this
          have CST : Hid (∀ j (h1 : 1 ≤ j) (h2 : j < l.length), comAt l (j + 1) = comStep (comAt l j) l[j]) := fun j h1 h2 => by
            have hle := HLE.out
            subst hle
            exact comAt_step q l' j h1 h2
          have HR : Hid (comT L = out3 (comAt l i)) := by
            show _ = _
            have h1 := HPOS.out
            have h2 := hcn q (by simp)
            have h3 := HALL.out q (by rw [HLE.out]; simp)
            have hi' : comAt l i = l'.foldl comStep q := by rw [← HNL.out, HLE.out, comAt_end]
            rw [HT.out, hi']
            rw [HLE.out] at h1 ⊢
            rw [comF_cons, if_neg (by rw [h1]; exact Bool.false_ne_true)]
            exact com_out l' q (fun a ha => (hcn a (by simp [ha])).1.1.1) h2.2 h2.1.1.1 h3.1
          have POS := Lib.hid hposn
          have hl0 : 0 < l.length := by rw [HNL.out]; have := HN1.out; omega
          obtain ⟨g, rfl, hget⟩ := QLI.out.load hl0
          obtain ⟨o1, k1, c1, o2, k2, c2, ⟨x0, x1, x2⟩, ⟨_, _, _, _, _, _, he, hqn, hqd⟩⟩ := hget wr (Below.refl _ _)
          cases he
          have hq0 : l[0] = q := by have hle := HLE.out; subst hle; rfl
          rw [hq0] at x0 hqn hqd
          rw [Nat.zero_mul, Nat.zero_add] at x1 x2
          rw [Nat.zero_mul] at x0
          obtain ⟨qb, bb⟩ := QB.new (W := wr) (q := q) hqn hqd
          have I0 : Hid (QB (wr.alloc (.cells #[.bool q.1, .slice o1 k1 c1, .slice o2 k2 c2] 60)) wr.heap.size (comAt l 1) ∧ QList (wr.alloc (.cells #[.bool q.1, .slice o1 k1 c1, .slice o2 k2 c2] 60)) w.heap.size (.slice (some ⟨g, 0, none⟩) i cq) l ∧ Below w.heap.size w (wr.alloc (.cells #[.bool q.1, .slice o1 k1 c1, .slice o2 k2 c2] 60))) :=
            ⟨by rw [HLE.out, comAt_one]; exact qb, QLI.out.go bb, bstep HB.out bb⟩
          have LE : Hid (w.heap.size ≤ wr.heap.size) := HB.out.size
          have NE : Hid ((Value.slice (some ⟨g, 0, none⟩) i cq).ownBlock ≠ some wr.heap.size) := fun h => Nat.lt_irrefl _ (QLI.out.lt _ h)
          have h1i : 0 < i := by have := HN1.out; omega
          clear hqn hqd qb bb hget hcn hposn HPO QLI HB hi hlt HT HALL HOK HPOS hl0 hq0
          go_wp2_with fail
          clear h1i x0 x1 x2
          generalize wr.alloc (.cells #[.bool q.1, .slice o1 k1 c1, .slice o2 k2 c2] 60) = w3 at *
          generalize wr.heap.size = B7 at *
          obtain ⟨N, hN⟩ : ∃ N, N = i := ⟨_, rfl⟩
          subst hN
          go_loopw [8] (fun v8 wr => ∃ i : Nat, 1 ≤ i ∧ i ≤ N ∧ v8 = .int .i64 (i : Nat) ∧ Hid (QB wr B7 (comAt l i) ∧ QList wr w.heap.size (.slice (some ⟨g, 0, none⟩) N cq) l ∧ Below w.heap.size w wr)) (fun vi _ => N - (intOf vi).toNat)
          case atStart => exact ⟨1, Nat.le_refl _, HN1.out, rfl, I0.out⟩
          case round =>
            obtain ⟨i, hi1, hi, rfl, hinv⟩ := hrel
            have QC := Lib.hid hinv.out.1; have QLI := Lib.hid hinv.out.2.1; have HB := Lib.hid hinv.out.2.2
            clear hinv I0
            rename World => wr
            have hw : wrap64 ((i : Int) + 1) = ((i + 1 : Nat) : Int) := by unfold wrap64; have := HN2.out; omega
            have HW := Lib.hid hw; clear hw
            by_cases hlt : i < N
            · have hli : i < l.length := by rw [HNL.out]; exact hlt
              obtain ⟨kc, kn, kr1, kr2⟩ := COK.out i hi1 (by omega)
              obtain ⟨ka, kan⟩ := POS.out l[i] (List.getElem_mem hli)
              have hst := CST.out i hi1 hli
              obtain ⟨s', hs'⟩ : ∃ s', s' = comAt l (i + 1) := ⟨_, rfl⟩
              rw [← hs'] at hst
              have HS := Lib.hid hs'
              obtain ⟨g', hg', hget⟩ := QLI.out.load hli
              obtain rfl : g = g' := by simpa using hg'
              have GET := Lib.hid hget
              clear hg' hget hs'
              generalize comAt l i = c at *
              generalize l[i] = a at *
              have kr3 : RLen c.2.2 ≤ 20000 := Nat.le_trans kr2 (by have := Nat.mul_le_mul_left 75 (show i ≤ 240 by have := HN2.out; omega); omega)
              have ka1 := ka.2.1; have ka2 := ka.2.2
              have r1 := rlen_mul c.2.2 a.2.2; have r2 := rlen_mul c.2.1 a.2.2; have r3 := rlen_mul a.2.1 c.2.2
              have MUL1 : Hid (∀ W v u, RNum W v (c.2.2) → RNum W u (a.2.2) → Calls Try.prog 85 #[v, u] W (RRet W (c.2.2 * a.2.2))) := fun W v u h k => rmul_any h k (by omega) (by omega)
              have MUL2 : Hid (∀ W v u, RNum W v (c.2.1) → RNum W u (a.2.2) → Calls Try.prog 85 #[v, u] W (RRet W (c.2.1 * a.2.2))) := fun W v u h k => rmul_any h k (by omega) (by omega)
              have MUL3 : Hid (∀ W v u, RNum W v (a.2.1) → RNum W u (c.2.2) → Calls Try.prog 85 #[v, u] W (RRet W (a.2.1 * c.2.2))) := fun W v u h k => rmul_any h k (by omega) (by omega)
              have GCD : Hid (∀ W v u, RNum W v (c.2.1 * a.2.2) → RNum W u (a.2.1 * c.2.2) → Calls Try.prog 93 #[v, u] W (RRet W (Nat.gcd (c.2.1 * a.2.2) (a.2.1 * c.2.2)))) := fun W v u h k => rgcd_any h k (by omega) (by omega)
              have r4 : RLen (Nat.gcd (c.2.1 * a.2.2) (a.2.1 * c.2.2)) ≤ 100000 := Nat.le_trans (rlen_mono (Nat.gcd_le_left _ (Nat.mul_pos kn ka.1.1))) (by omega)
              have LOW : Hid (∀ W v u, RNum W v (Nat.gcd (c.2.1 * a.2.2) (a.2.1 * c.2.2)) → RNum W u (c.2.2 * a.2.2) → Calls Try.prog 92 #[.bool false, v, u] W (RRetQ W s')) := fun W v u h k => by
                rw [hst, ← low_com kc.2.1 ka.1.2.1 kc.1 ka.1.1]
                exact lowest_any false h k (Nat.mul_pos kc.1 ka.1.1) r4 (by omega)
              clear kc kn kr1 kr2 kr3 ka kan ka1 ka2 r1 r2 r3 r4 hst COK CST POS
              go_wp2_with fail
              refine region_inv 8 72 [(41, Is (.pointer (some ⟨B7, 2, none⟩))), (42, IsR c.2.2), (43, Is (.slice (some ⟨g, 0, none⟩) N cq)), (44, Is (.int .i64 (i : Nat))), (45, Is (.pointer (some ⟨g, i * 3, none⟩))), (46, Is (.pointer (some ⟨g, i * 3 + 2, none⟩))), (47, IsR a.2.2), (48, IsR (c.2.2 * a.2.2))] (by kernel_rfl) rfl (by kernel_rfl) ?_ ?_
              · refine steps_cons rfl (fun A_ W hb hr hg K hK => ?_) <| steps_cons rfl (fun A_ W hb hr hg K hK => ?_) <| steps_cons rfl (fun A_ W hb hr hg K hK => ?_) <| steps_cons rfl (fun A_ W hb hr hg K hK => ?_) <| steps_cons rfl (fun A_ W hb hr hg K hK => ?_) <| steps_cons rfl (fun A_ W hb hr hg K hK => ?_) <| steps_cons rfl (fun A_ W hb hr hg K hK => ?_) <| steps_cons rfl (fun A_ W hb hr hg K hK => ?_) trivial
                · have e0 : A_.tmps[7]?.getD undef = .pointer (some ⟨B7, 0, none⟩) := hb 7 (by kernel_rfl)
                  clear hb hr; go_simp; exact hK _ _ (Below.refl _ _) rfl
                · have e0 : A_.tmps[41]?.getD undef = .pointer (some ⟨B7, 2, none⟩) := hr 41 (by kernel_rfl)
                  obtain ⟨o1, k1, c1, o2, k2, c2, ⟨x0, x1, x2, -, -, -⟩, hn, hd⟩ := (QC.out.go hg).all
                  have HNN := Lib.hid hn; have HDD := Lib.hid hd
                  clear hb hr hn hd; go_simp; exact hK _ _ (Below.refl _ _) HDD.out
                · have e0 : A_.tmps[4]?.getD undef = .slice (some ⟨g, 0, none⟩) N cq := hb 4 (by kernel_rfl)
                  clear hb hr; go_simp; exact hK _ _ (Below.refl _ _) rfl
                · have e0 : A_.tmps[8]?.getD undef = .int .i64 (i : Nat) := hb 8 (by kernel_rfl)
                  clear hb hr; go_simp; exact hK _ _ (Below.refl _ _) rfl
                · have e0 : A_.tmps[43]?.getD undef = .slice (some ⟨g, 0, none⟩) N cq := hr 43 (by kernel_rfl)
                  have e1 : A_.tmps[44]?.getD undef = .int .i64 (i : Nat) := hr 44 (by kernel_rfl)
                  clear hb hr; go_simp; exact hK _ _ (Below.refl _ _) rfl
                · have e0 : A_.tmps[45]?.getD undef = .pointer (some ⟨g, i * 3, none⟩) := hr 45 (by kernel_rfl)
                  clear hb hr; go_simp; exact hK _ _ (Below.refl _ _) rfl
                · have e0 : A_.tmps[46]?.getD undef = .pointer (some ⟨g, i * 3 + 2, none⟩) := hr 46 (by kernel_rfl)
                  obtain ⟨o1, k1, c1, o2, k2, c2, ⟨x0, x1, x2⟩, ⟨_, _, _, _, _, _, he, hn, hd⟩⟩ := GET.out W hg
                  cases he
                  have HNN := Lib.hid hn; have HDD := Lib.hid hd
                  clear hb hr hn hd; go_simp; exact hK _ _ (Below.refl _ _) HDD.out
                · have h1 : RNum W (A_.tmps[42]?.getD undef) (c.2.2) := hr 42 (by kernel_rfl)
                  have h2 : RNum W (A_.tmps[47]?.getD undef) (a.2.2) := hr 47 (by kernel_rfl)
                  have H1 := Lib.hid h1; have H2 := Lib.hid h2
                  clear hb hr h1 h2; go_simp
                  refine (MUL1.out W _ _ H1.out H2.out).mono ?_; rintro e w5 ⟨v5, rfl, hv5, hb5⟩
                  exact hK _ _ hb5 hv5
              rintro g4 w9 hb9 ⟨-, -, -, -, -, -, -, h20, -⟩
              simp only [List.drop_succ_cons, List.drop_zero, List.take_succ_cons, List.take_zero, putHead, Option.getD_some, Act.put, List.setIfInBounds_toArray, List.set_cons_zero, List.set_cons_succ]
              replace h20 : RNum w9 (g4 48) (c.2.2 * a.2.2) := h20
              generalize g4 48 = v48 at *
              have HV48 := Lib.hid h20
              have QC9 := Lib.hid (QC.out.go hb9); have QL9 := Lib.hid (QLI.out.go hb9); have HB9 := Lib.hid (bstep HB.out hb9)
              have GET9 : Hid (∀ W, Below w9.heap.size w9 W → ∃ o1 k1 c1 o2 k2 c2, (W.cell? ⟨g, i * 3, none⟩ = some (.bool a.1) ∧ W.cell? ⟨g, i * 3 + 1, none⟩ = some (.slice o1 k1 c1) ∧ W.cell? ⟨g, i * 3 + 2, none⟩ = some (.slice o2 k2 c2)) ∧ RFrac W (.agg #[.bool a.1, .slice o1 k1 c1, .slice o2 k2 c2]) a.1 a.2.1 a.2.2) := fun W hb => GET.out W (bstep hb9 hb)
              clear h20 hb9 GET QC QLI HB MUL1
              go_wp2_with fail
              refine region_inv 19 72 [(49, Is (.pointer (some ⟨B7, 1, none⟩))), (50, IsR c.2.1), (51, Is (.slice (some ⟨g, 0, none⟩) N cq)), (52, Is (.int .i64 (i : Nat))), (53, Is (.pointer (some ⟨g, i * 3, none⟩))), (54, Is (.pointer (some ⟨g, i * 3 + 2, none⟩))), (55, IsR a.2.2), (56, IsR (c.2.1 * a.2.2)), (57, Is (.slice (some ⟨g, 0, none⟩) N cq)), (58, Is (.int .i64 (i : Nat))), (59, Is (.pointer (some ⟨g, i * 3, none⟩))), (60, Is (.pointer (some ⟨g, i * 3 + 1, none⟩))), (61, IsR a.2.1), (62, Is (.pointer (some ⟨B7, 2, none⟩))), (63, IsR c.2.2), (64, IsR (a.2.1 * c.2.2)), (65, IsR (Nat.gcd (c.2.1 * a.2.2) (a.2.1 * c.2.2))), (66, IsR (c.2.2 * a.2.2)), (67, IsRF s'.1 s'.2.1 s'.2.2)] (by kernel_rfl) rfl (by kernel_rfl) ?_ ?_
              · refine steps_cons rfl (fun A_ W hb hr hg K hK => ?_) <| steps_cons rfl (fun A_ W hb hr hg K hK => ?_) <| steps_cons rfl (fun A_ W hb hr hg K hK => ?_) <| steps_cons rfl (fun A_ W hb hr hg K hK => ?_) <| steps_cons rfl (fun A_ W hb hr hg K hK => ?_) <| steps_cons rfl (fun A_ W hb hr hg K hK => ?_) <| steps_cons rfl (fun A_ W hb hr hg K hK => ?_) <| steps_cons rfl (fun A_ W hb hr hg K hK => ?_) <| steps_cons rfl (fun A_ W hb hr hg K hK => ?_) <| steps_cons rfl (fun A_ W hb hr hg K hK => ?_) <| steps_cons rfl (fun A_ W hb hr hg K hK => ?_) <| steps_cons rfl (fun A_ W hb hr hg K hK => ?_) <| steps_cons rfl (fun A_ W hb hr hg K hK => ?_) <| steps_cons rfl (fun A_ W hb hr hg K hK => ?_) <| steps_cons rfl (fun A_ W hb hr hg K hK => ?_) <| steps_cons rfl (fun A_ W hb hr hg K hK => ?_) <| steps_cons rfl (fun A_ W hb hr hg K hK => ?_) <| steps_cons rfl (fun A_ W hb hr hg K hK => ?_) <| steps_cons rfl (fun A_ W hb hr hg K hK => ?_) trivial
                · have e0 : A_.tmps[7]?.getD undef = .pointer (some ⟨B7, 0, none⟩) := hb 7 (by kernel_rfl)
                  clear hb hr; go_simp; exact hK _ _ (Below.refl _ _) rfl
                · have e0 : A_.tmps[49]?.getD undef = .pointer (some ⟨B7, 1, none⟩) := hr 49 (by kernel_rfl)
                  obtain ⟨o1, k1, c1, o2, k2, c2, ⟨x0, x1, x2, -, -, -⟩, hn, hd⟩ := (QC9.out.go hg).all
                  have HNN := Lib.hid hn; have HDD := Lib.hid hd
                  clear hb hr hn hd; go_simp; exact hK _ _ (Below.refl _ _) HNN.out
                · have e0 : A_.tmps[4]?.getD undef = .slice (some ⟨g, 0, none⟩) N cq := hb 4 (by kernel_rfl)
                  clear hb hr; go_simp; exact hK _ _ (Below.refl _ _) rfl
                · have e0 : A_.tmps[8]?.getD undef = .int .i64 (i : Nat) := hb 8 (by kernel_rfl)
                  clear hb hr; go_simp; exact hK _ _ (Below.refl _ _) rfl
                · have e0 : A_.tmps[51]?.getD undef = .slice (some ⟨g, 0, none⟩) N cq := hr 51 (by kernel_rfl)
                  have e1 : A_.tmps[52]?.getD undef = .int .i64 (i : Nat) := hr 52 (by kernel_rfl)
                  clear hb hr; go_simp; exact hK _ _ (Below.refl _ _) rfl
                · have e0 : A_.tmps[53]?.getD undef = .pointer (some ⟨g, i * 3, none⟩) := hr 53 (by kernel_rfl)
                  clear hb hr; go_simp; exact hK _ _ (Below.refl _ _) rfl
                · have e0 : A_.tmps[54]?.getD undef = .pointer (some ⟨g, i * 3 + 2, none⟩) := hr 54 (by kernel_rfl)
                  obtain ⟨o1, k1, c1, o2, k2, c2, ⟨x0, x1, x2⟩, ⟨_, _, _, _, _, _, he, hn, hd⟩⟩ := GET9.out W hg
                  cases he
                  have HNN := Lib.hid hn; have HDD := Lib.hid hd
                  clear hb hr hn hd; go_simp; exact hK _ _ (Below.refl _ _) HDD.out
                · have h1 : RNum W (A_.tmps[50]?.getD undef) (c.2.1) := hr 50 (by kernel_rfl)
                  have h2 : RNum W (A_.tmps[55]?.getD undef) (a.2.2) := hr 55 (by kernel_rfl)
                  have H1 := Lib.hid h1; have H2 := Lib.hid h2
                  clear hb hr h1 h2; go_simp
                  refine (MUL2.out W _ _ H1.out H2.out).mono ?_; rintro e w5 ⟨v5, rfl, hv5, hb5⟩
                  exact hK _ _ hb5 hv5
                · have e0 : A_.tmps[4]?.getD undef = .slice (some ⟨g, 0, none⟩) N cq := hb 4 (by kernel_rfl)
                  clear hb hr; go_simp; exact hK _ _ (Below.refl _ _) rfl
                · have e0 : A_.tmps[8]?.getD undef = .int .i64 (i : Nat) := hb 8 (by kernel_rfl)
                  clear hb hr; go_simp; exact hK _ _ (Below.refl _ _) rfl
                · have e0 : A_.tmps[57]?.getD undef = .slice (some ⟨g, 0, none⟩) N cq := hr 57 (by kernel_rfl)
                  have e1 : A_.tmps[58]?.getD undef = .int .i64 (i : Nat) := hr 58 (by kernel_rfl)
                  clear hb hr; go_simp; exact hK _ _ (Below.refl _ _) rfl
                · have e0 : A_.tmps[59]?.getD undef = .pointer (some ⟨g, i * 3, none⟩) := hr 59 (by kernel_rfl)
                  clear hb hr; go_simp; exact hK _ _ (Below.refl _ _) rfl
                · have e0 : A_.tmps[60]?.getD undef = .pointer (some ⟨g, i * 3 + 1, none⟩) := hr 60 (by kernel_rfl)
                  obtain ⟨o1, k1, c1, o2, k2, c2, ⟨x0, x1, x2⟩, ⟨_, _, _, _, _, _, he, hn, hd⟩⟩ := GET9.out W hg
                  cases he
                  have HNN := Lib.hid hn; have HDD := Lib.hid hd
                  clear hb hr hn hd; go_simp; exact hK _ _ (Below.refl _ _) HNN.out
                · have e0 : A_.tmps[7]?.getD undef = .pointer (some ⟨B7, 0, none⟩) := hb 7 (by kernel_rfl)
                  clear hb hr; go_simp; exact hK _ _ (Below.refl _ _) rfl
                · have e0 : A_.tmps[62]?.getD undef = .pointer (some ⟨B7, 2, none⟩) := hr 62 (by kernel_rfl)
                  obtain ⟨o1, k1, c1, o2, k2, c2, ⟨x0, x1, x2, -, -, -⟩, hn, hd⟩ := (QC9.out.go hg).all
                  have HNN := Lib.hid hn; have HDD := Lib.hid hd
                  clear hb hr hn hd; go_simp; exact hK _ _ (Below.refl _ _) HDD.out
                · have h1 : RNum W (A_.tmps[61]?.getD undef) (a.2.1) := hr 61 (by kernel_rfl)
                  have h2 : RNum W (A_.tmps[63]?.getD undef) (c.2.2) := hr 63 (by kernel_rfl)
                  have H1 := Lib.hid h1; have H2 := Lib.hid h2
                  clear hb hr h1 h2; go_simp
                  refine (MUL3.out W _ _ H1.out H2.out).mono ?_; rintro e w5 ⟨v5, rfl, hv5, hb5⟩
                  exact hK _ _ hb5 hv5
                · have h1 : RNum W (A_.tmps[56]?.getD undef) (c.2.1 * a.2.2) := hr 56 (by kernel_rfl)
                  have h2 : RNum W (A_.tmps[64]?.getD undef) (a.2.1 * c.2.2) := hr 64 (by kernel_rfl)
                  have H1 := Lib.hid h1; have H2 := Lib.hid h2
                  clear hb hr h1 h2; go_simp
                  refine (GCD.out W _ _ H1.out H2.out).mono ?_; rintro e w5 ⟨v5, rfl, hv5, hb5⟩
                  exact hK _ _ hb5 hv5
                · have e0 : A_.tmps[9]?.getD undef = v48 := hb 9 (by kernel_rfl)
                  have H1 := Lib.hid (HV48.out.go hg)
                  clear hb hr; go_simp; exact hK _ _ (Below.refl _ _) H1.out
                · have h1 : RNum W (A_.tmps[65]?.getD undef) (Nat.gcd (c.2.1 * a.2.2) (a.2.1 * c.2.2)) := hr 65 (by kernel_rfl)
                  have h2 : RNum W (A_.tmps[66]?.getD undef) (c.2.2 * a.2.2) := hr 66 (by kernel_rfl)
                  have H1 := Lib.hid h1; have H2 := Lib.hid h2
                  clear hb hr h1 h2; go_simp
                  refine (LOW.out W _ _ H1.out H2.out).mono ?_; rintro e w5 ⟨v5, rfl, hv5, hb5⟩
                  exact hK _ _ hb5 hv5
              rintro g4 w14 hb14 ⟨-, -, -, -, -, -, -, -, -, -, -, -, -, -, -, -, -, -, h20, -⟩
              simp only [List.drop_succ_cons, List.drop_zero, List.take_succ_cons, List.take_zero, putHead, Option.getD_some, Act.put, List.setIfInBounds_toArray, List.set_cons_zero, List.set_cons_succ]
              replace h20 : RFrac w14 (g4 67) s'.1 s'.2.1 s'.2.2 := h20
              generalize g4 67 = v20 at *
              obtain ⟨o7, k7, c7, o8, k8, c8, rfl, hqn, hqd⟩ := h20
              have QS9 := Lib.hid (QC9.out.go hb14); have HB8 := Lib.hid (bstep HB9.out hb14); have QL8 := Lib.hid (QL9.out.go hb14)
              obtain ⟨_, _, _, _, _, _, ⟨x0, x1, x2, f0, f1, f2⟩, -, -⟩ := QS9.out.all
              obtain ⟨qx, hb⟩ := QS9.out.put (r := s') hqn hqd HB8.out LE.out
              have INV := Lib.hid (And.intro qx (And.intro (QL8.out.put QS9.out NE.out (.bool s'.1) (.slice o7 k7 c7) (.slice o8 k8 c8)) hb))
              have HLT := Lib.hid hlt
              clear hb14 hqn hqd qx hb QS9 HB8 HB9 QL9 QL8 QC9 GET9 MUL2 MUL3 GCD LOW HV48 hlt hi hli
              go_wp2_with fail
              go_roundw
              case rel => exact ⟨i + 1, Nat.succ_le_succ (Nat.zero_le _), HLT.out, by first | exact congrArg (Value.int .i64) HW.out | go_num, by rw [← HS.out]; exact INV.out⟩
              case measure => have := HLT.out; first | (rw [HW.out]; simp [intOf]; omega) | (simp [intOf]; omega)

            · obtain rfl : i = N := by omega
              obtain ⟨kc, kn, kr1, kr2⟩ := COK.out i hi1 (Nat.le_refl _)
              have kr3 : RLen (comAt l i).2.2 ≤ 20000 := Nat.le_trans kr2 (by have := Nat.mul_le_mul_left 75 (show i ≤ 240 by have := HN2.out; omega); omega)
              have OT : Hid (∀ W v, RFrac W v (comAt l i).1 (comAt l i).2.1 (comAt l i).2.2 → Calls Try.prog 68 #[v] W (OutS W (out3 (comAt l i)))) := fun W v h => rout_any h (by omega) (by omega)
              clear kc kn kr1 kr2 kr3 COK CST POS
              generalize comAt l i = s at *
              obtain ⟨o7, k7, c7, o8, k8, c8, ⟨x0, x1, x2⟩, hf⟩ := QC.out.open
              have FS := Lib.hid hf; clear hf
              go_wp2_with fail
              refine (OT.out _ _ FS.out).mono ?_; rintro e w20 ⟨rfl, hb20⟩
              have HB20 := Lib.hid (bstep HB.out hb20); clear hb20
              go_wp2_with fail
              go_ret2
              exact ⟨by rw [HR.out]; rfl, HB20.out⟩
end Go.Proofs.Ytlkdahgfnfdakaa
