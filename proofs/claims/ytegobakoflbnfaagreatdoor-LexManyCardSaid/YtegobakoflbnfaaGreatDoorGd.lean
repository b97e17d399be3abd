/- Scan's list of tokens; what is read is never longer than the text. Scan. SameTokens: two lists of tokens, one against the other. alive: the law's own four scans. IsWord: a word is what is read as one. The reference's letter, digit, run, in, keys. The reference's IsWord; both say the same; LexWords. -/
import Derived.Test.YtegobakoflbnfaaGreatDoorGc
import Derived.Laws.AppendOwn
import Derived.OwnWalk
import Derived.Deep.QuietTactic
import Derived.BigQuiet
namespace Go.Proofs.YtegobakoflbnfaaGreatDoor
open Go Go.RowKit

/-- a token: its kind, its text, where it begins -/
abbrev Tk := Int × ByteArray × Nat
def tkC (t : Tk) : List Value := [.int .i64 t.1, .string t.2.1, .int .i64 (t.2.2 : Int)]
def tkL (L : List Tk) : List Value := L.flatMap tkC
theorem tkL_len : ∀ L : List Tk, (tkL L).length = L.length * 3
  | [] => rfl
  | t :: L => by
    have := tkL_len L
    unfold tkL at *
    rw [List.flatMap_cons, List.length_append, this, List.length_cons]
    simp [tkC]; omega
theorem tkL_app (L : List Tk) (t : Tk) : tkL (L ++ [t]) = tkL L ++ tkC t := by
  unfold tkL
  rw [List.flatMap_append]; simp
def OwnT (w : World) (B : Nat) (v : Value) (L : List Tk) : Prop := w.ownsRow B 37 3 v L.length (tkL L) ∧ B ≤ w.heap.size
theorem OwnT.nil {w : World} {B : Nat} (h : B ≤ w.heap.size) : OwnT w B (.slice none 0 0) [] := ⟨World.ownsRow_nil _ _ _ _, h⟩
theorem OwnT.go {w w' : World} {B : Nat} {v : Value} {L : List Tk} (h : OwnT w B v L) (hb : Below w.heap.size w w') : OwnT w' B v L := by
  obtain ⟨⟨h1, h2⟩, h3⟩ := h
  refine ⟨⟨h1, ?_⟩, Nat.le_trans h3 hb.size⟩
  rcases h2 with h2 | ⟨g, cap, cur, rfl, a1, a2, a3⟩
  · exact Or.inl h2
  · exact Or.inr ⟨g, cap, cur, rfl, a1, (hb.block g (lt_of_block a2)).trans a2, a3⟩
theorem OwnT.shape {w : World} {B : Nat} {v : Value} {L : List Tk} (h : OwnT w B v L) : ∃ o cap, v = .slice o L.length cap := by
  obtain ⟨⟨h1, h2⟩, h3⟩ := h
  rcases h2 with ⟨rfl, h2⟩ | ⟨g, cap, cur, rfl, _⟩
  · rw [h2]; exact ⟨_, _, rfl⟩
  · exact ⟨_, _, rfl⟩
theorem tok_info : (Tryz.prog.info? 37).map (fun i => (i.zero, i.size, i.bytes)) = some (some (.agg #[.int .i64 0, .string ⟨#[]⟩, .int .i64 0]), 3, 32) := by kernel_rfl
set_option maxRecDepth 100000 in
theorem tok_app {ops : Array Oper} {rest : List Oper} {o : Oper} {a : Act} {w : World} {Q : Exit → Act → World → Prop} (hgd : o.guard = none) (s x : Operand)
    (ho : o.op = .call { callee := .builtin .append, args := #[s, x], argTypes := #[22, 22] }) {B g : Nat} {v : Value} {L : List Tk} {t : Tk} (hs : a.eval s = v) (hown : OwnT w B v L)
    (hx : a.eval x = .slice (some ⟨g, 0, none⟩) 1 1) (hc : BoxT w g (.int .i64 t.1) (.string t.2.1) (.int .i64 (t.2.2 : Int))) (hL : L.length ≤ 2000)
    (h : ∀ v' w', OwnT w' B v' (L ++ [t]) → (∀ W C, C ≤ B → Below C W w → Below C W w') → wpList Tryz.prog ops Q rest (a.put o.dst v') w') : wpList Tryz.prog ops Q (o :: rest) a w := by
  obtain ⟨i0, hi, hz0, hz1, hz2⟩ := info_parts tok_info
  refine wpList_append_own w hgd s x 22 ho B 37 i0 (.agg #[.int .i64 0, .string ⟨#[]⟩, .int .i64 0]) 3 32 Tryz.underlying22 hi hz0 hz1 hz2 rfl (by omega) v L.length (tkL L) hs hown.1 ⟨g, 0, none⟩ 1 1 (tkC t) hx rfl ?_ (by intro u hu; simp [tkC] at hu; rcases hu with rfl | rfl | rfl <;> rfl) (by unfold maxLen; omega) (by omega) hown.2 ?_
  · obtain ⟨c0, c1, c2, -⟩ := hc.facts
    intro j u hu
    match j, hu with
    | 0, hu => simp [tkC] at hu; subst hu; exact c0
    | 1, hu => simp [tkC] at hu; subst hu; exact c1
    | 2, hu => simp [tkC] at hu; subst hu; exact c2
  · intro v' w' h1 h2 _
    refine h v' w' ⟨?_, Nat.le_trans hown.2 ((Below.refl B w).grown h2 hown.2 (fun k hk => (World.ownsRow.lt hown.1 k hk).1)).size⟩ fun W C hC hb => hb.grown h2 (Nat.le_trans hC hown.2) (fun k hk => Nat.le_trans hC (World.ownsRow.lt hown.1 k hk).1)
    rw [List.length_append, tkL_app]
    exact h1
theorem word_le (s : ByteArray) : (wordT s).2.2 ≤ s.size := by
  have h := pre_le (inC [3, 4, 5]) s.data.toList
  rw [Array.length_toList] at h
  have h2 : s.data.size = s.size := rfl
  unfold wordT
  split
  · exact Nat.zero_le _
  · split <;> (show pre (inC [3, 4, 5]) s.data.toList ≤ s.size; omega)
theorem number_le (s : ByteArray) : (numberT s).2.2 ≤ s.size := by
  have h := places_le s.data.toList (pre (inC digC) s.data.toList) (pre_le _ _)
  rw [Array.length_toList] at h
  unfold numberT
  split
  · exact Nat.zero_le _
  · exact h
theorem quoted_le (s : ByteArray) : (quotedT s).2.2 ≤ s.size := by
  unfold quotedT
  split
  · exact Nat.zero_le _
  · rename_i h
    have hp : Lib.hasPrefix (s.data.toList.drop (1 + pre (inC strC) (s.data.toList.drop 1))) [34] = true := by
      cases hk : Lib.hasPrefix (s.data.toList.drop (1 + pre (inC strC) (s.data.toList.drop 1))) [34]
      · exact absurd (Or.inr hk) h
      · rfl
    obtain ⟨u, hu⟩ := has_one hp
    have h2 : (s.data.toList.drop (1 + pre (inC strC) (s.data.toList.drop 1))).length = u.length + 1 := by rw [hu]; rfl
    rw [List.length_drop, Array.length_toList] at h2
    have h3 : s.data.size = s.size := rfl
    show pre (inC strC) (s.data.toList.drop 1) + 2 ≤ s.size
    omega
theorem first_le (s : ByteArray) : (firstT s).2.2 ≤ s.size := by
  unfold firstT
  split
  · exact word_le s
  · split
    · exact number_le s
    · split
      · exact quoted_le s
      · split
        · rename_i h7
          have : 0 < s.size := by
            rcases Nat.eq_zero_or_pos s.size with h0 | h0
            · exfalso
              have : s = ⟨#[]⟩ := by apply ByteArray.ext; exact Array.eq_empty_of_size_eq_zero h0
              subst this
              revert h7; decide
            · exact h0
          exact symN_le this
        · exact Nat.zero_le _
theorem tail_le : ∀ (f : Nat) (t : List UInt8), tailG f t ≤ t.length
  | 0, _ => Nat.zero_le _
  | f + 1, t => by
    rw [tailG]
    split
    · have h1 := line_le t
      have h2 := pre_le (inC wsC) (t.drop (lineLen t))
      have h3 := tail_le f (t.drop (lineLen t + pre (inC wsC) (t.drop (lineLen t))))
      rw [List.length_drop] at h2 h3
      omega
    · exact Nat.zero_le _
theorem gap_le (s : List UInt8) : gapT s ≤ s.length := by
  unfold gapT
  have h1 := pre_le (inC wsC) s
  have h3 := tail_le (s.length + 1) (s.drop (pre (inC wsC) s))
  rw [List.length_drop] at h3
  omega
/-- what Scan answers: the tokens, a place, a code -/
abbrev R3 := List Tk × Nat × Int
def scanL (s : ByteArray) : Nat → Nat → List Tk → R3
  | 0, _, acc => (acc, 0, 0)
  | f + 1, at_, acc =>
    if at_ < s.size then
      if (firstT (s.extract at_ s.size)).2.2 = 0 then ([], at_, 1)
      else if acc.length = 2000 then ([], 0, 2)
      else scanL s f (at_ + (firstT (s.extract at_ s.size)).2.2 + gapT (s.data.toList.drop (at_ + (firstT (s.extract at_ s.size)).2.2))) (acc ++ [((firstT (s.extract at_ s.size)).1, (firstT (s.extract at_ s.size)).2.1, at_)])
    else (acc, 0, 0)
def scanT (s : ByteArray) : R3 := if 8000 < s.size then ([], 0, 2) else scanL s (s.size + 1) (gapT s.data.toList) []
def RetScan (w : World) (x : R3) (e : Ending) (w' : World) : Prop := ∃ v, e = .returned (.tuple #[v, .int .i64 (x.2.1 : Int), .int .i64 x.2.2]) ∧ OwnT w' w.heap.size v x.1 ∧ Below w.heap.size w w'
end Go.Proofs.YtegobakoflbnfaaGreatDoor

namespace Go.Proofs.YtegobakoflbnfaaGreatDoor
open Go Go.RowKit

set_option maxHeartbeats 6400000 in
set_option maxRecDepth 100000 in
theorem scan_any (w : World) (s : ByteArray) (hs2 : s.size ≤ 140737488355328) (hm : MaxL w) (ht : Pow10 w) : Calls Tryz.prog 6 #[.string s] w (RetScan w (scanT s)) := by
  obtain ⟨x, hx⟩ : ∃ x, x = scanT s := ⟨_, rfl⟩
  rw [← hx]
  unfold scanT at hx
  by_cases h8 : 8000 < s.size
  · have HR : Hid (x = ([], 0, 2)) := by show _ = _; rw [hx, if_pos h8]
    clear hx hm ht
    go_enter Tryz.func6, Tryz.ntmps6
    go_wp2_with fail
    refine bodyPost_ret (v := .tuple #[.slice none 0 0, .int .i64 0, .int .i64 2]) (by simp [results, Tryz.f6, go_sem]) rfl ⟨.slice none 0 0, by rw [HR.out]; rfl, by rw [HR.out]; exact OwnT.nil (Nat.le_refl _), Below.refl _ _⟩
  · rw [if_neg h8] at hx
    have FI : Hid (∀ W, Below w.heap.size w W → ∀ t : ByteArray, t.size ≤ 8000 → Calls Tryz.prog 13 #[.string t] W (RetTok W (firstT t))) := fun W hb t h => first_any W t (by omega) (hm.go hb) (ht.go hb)
    have GA : Hid (∀ W, Below w.heap.size w W → ∀ t : ByteArray, t.size ≤ 8000 → Calls Tryz.prog 12 #[.string t] W fun e w' => e = .returned (.int .i64 (gapT t.data.toList : Nat)) ∧ Below W.heap.size W w') := fun W hb t h => gap_any W t (by omega) (by omega) (hm.go hb)
    have hs8 : s.size ≤ 8000 := by omega
    have G0 := Lib.hid (GA.out w (Below.refl _ _) s hs8)
    have hg := gap_le s.data.toList
    rw [Array.length_toList] at hg
    obtain ⟨g, hge⟩ : ∃ g, g = gapT s.data.toList := ⟨_, rfl⟩
    rw [← hge] at hx hg G0
    have HX := Lib.hid hx
    have HG : Hid (g ≤ s.size) := hg
    clear hm ht hx hge hg h8 hs2
    go_enter Tryz.func6, Tryz.ntmps6
    go_wp2_with fail
    refine G0.out.mono ?_; rintro e w2 ⟨rfl, hb⟩
    have HB := Lib.hid hb; clear hb
    go_wp2_with fail
    go_loopw [5, 6] (fun v5 v6 wr => ∃ (n f : Nat) (L : List Tk), v6 = .int .i64 (n : Int) ∧ n ≤ s.size ∧ s.size - n < f ∧ Hid (x = scanL s f n L) ∧ Hid (OwnT wr w.heap.size v5 L) ∧ Hid (Below w.heap.size w wr) ∧ L.length ≤ 2000) (fun _ v6 _ => s.size - (intOf v6).toNat)
    case atStart => exact ⟨g, s.size + 1, [], rfl, HG.out, by omega, HX, OwnT.nil HB.out.size, HB, Nat.zero_le _⟩
    case round =>
      clear HB HX HG G0
      obtain ⟨n, f, L, rfl, hn, hf, HXn, HOn, HBn, hL⟩ := hrel
      obtain ⟨o5, c5, rfl⟩ := HOn.out.shape
      obtain ⟨f, rfl⟩ : ∃ k, f = k + 1 := ⟨f - 1, by omega⟩
      by_cases hlt : n < s.size
      · obtain ⟨t, hte⟩ : ∃ t, t = s.extract n s.size := ⟨_, rfl⟩
        have hts : t.size = s.size - n := by rw [hte]; simp [ByteArray.size_extract]
        have FT := Lib.hid (FI.out wr HBn.out t (by omega))
        have hfl := first_le t
        have hX2 := HXn.out
        rw [scanL, if_pos hlt, ← hte] at hX2
        obtain ⟨y, hy⟩ : ∃ y, y = firstT t := ⟨_, rfl⟩
        rw [← hy] at FT hfl hX2
        obtain ⟨yk, ys, yn⟩ := y
        simp only [] at FT hfl hX2
        have HT := Lib.hid hte
        rw [hte] at FT
        clear hte hy HXn
        by_cases h0 : yn = 0
        · have HR : Hid (x = ([], n, 1)) := by show _ = _; rw [hX2, if_pos h0]
          subst h0
          clear hX2 hfl hts
          go_wp2_with fail
          refine FT.out.mono ?_; rintro e w3 ⟨rfl, hb3⟩
          have HB3 := Lib.hid (bstep HBn.out hb3); clear hb3
          go_wp2_with fail
          refine bodyPost_ret (v := .tuple #[.slice none 0 0, .int .i64 (n : Int), .int .i64 1]) (by simp [results, Tryz.f6, go_sem]) rfl ⟨.slice none 0 0, by rw [HR.out], by rw [HR.out]; exact OwnT.nil (Nat.le_trans HB3.out.size (by simp)), HB3.out.trans ((below_alloc _ _).mono HB3.out.size)⟩
        · have y0 : ((yn : Int) == 0) = false := by rw [beq_eq_false_iff_ne]; omega
          rw [if_neg h0] at hX2
          by_cases hl : L.length = 2000
          · have HR : Hid (x = ([], 0, 2)) := by show _ = _; rw [hX2, if_pos hl]
            have l0 : ((L.length : Int) == 2000) = true := by rw [beq_iff_eq]; omega
            clear hX2 hfl hts
            go_wp2_with fail
            refine FT.out.mono ?_; rintro e w3 ⟨rfl, hb3⟩
            have HB3 := Lib.hid (bstep HBn.out hb3); clear hb3
            go_wp2_with fail
            refine bodyPost_ret (v := .tuple #[.slice none 0 0, .int .i64 0, .int .i64 2]) (by simp [results, Tryz.f6, go_sem]) rfl ⟨.slice none 0 0, by rw [HR.out]; rfl, by rw [HR.out]; exact OwnT.nil (Nat.le_trans HB3.out.size (by simp)), HB3.out.trans ((below_alloc _ _).mono HB3.out.size)⟩
          · have l0 : ((L.length : Int) == 2000) = false := by rw [beq_eq_false_iff_ne]; omega
            rw [if_neg hl] at hX2
            go_wp2_with fail
            refine FT.out.mono ?_; rintro e w3 ⟨rfl, hb3⟩
            have HB3 := Lib.hid (bstep HBn.out hb3)
            have HO3 := Lib.hid (HOn.out.go hb3); clear hb3
            have hny : n + yn ≤ s.size := by omega
            have hg2 := gap_le (s.data.toList.drop (n + yn))
            rw [List.length_drop, Array.length_toList] at hg2
            have hsd : s.data.size = s.size := rfl
            obtain ⟨g2, hg2e⟩ : ∃ g, g = gapT (s.data.toList.drop (n + yn)) := ⟨_, rfl⟩
            rw [← hg2e] at hg2 hX2
            have hn2 : n + yn + g2 ≤ s.size := by omega
            have W1 := Lib.hid (wadd (a := n) (b := yn) (by omega))
            have W2 := Lib.hid (wadd (a := n + yn) (b := g2) (by omega))
            have GA2 : Hid (∀ W, Below w.heap.size w W → Calls Tryz.prog 12 #[.string (s.extract (n + yn) s.size)] W fun e w' => e = .returned (.int .i64 (g2 : Int)) ∧ Below W.heap.size W w') := fun W hb => by
              have h1 : (s.extract (n + yn) s.size).size ≤ 8000 := by simp [ByteArray.size_extract]; omega
              have := GA.out W hb (s.extract (n + yn) s.size) h1
              rw [toList_from, ← hg2e] at this
              exact this
            have HM : Hid (s.size - (n + yn + g2) < f ∧ s.size - (n + yn + g2) < s.size - n) := ⟨by omega, by omega⟩
            have HX3 := Lib.hid hX2
            have HLL : Hid (L.length + 1 ≤ 2000) := by show _ ≤ _; omega
            have e1 : (w3.alloc (.cells #[.int .i64 yk, .string ys, .int .i64 (n : Int)] 37)).heap.size = w3.heap.size + 1 := by simp
            have BX4 := BoxT.new (w3.alloc (.cells #[.int .i64 yk, .string ys, .int .i64 (n : Int)] 37)) (.int .i64 yk) (.string ys) (.int .i64 (n : Int))
            rw [e1] at BX4
            have B4 : Below w3.heap.size w3 ((w3.alloc (.cells #[.int .i64 yk, .string ys, .int .i64 (n : Int)] 37)).alloc (.cells #[.int .i64 yk, .string ys, .int .i64 (n : Int)] 37)) := bstep (below_alloc _ _) (below_alloc _ _)
            have HB4 := Lib.hid (bstep HB3.out B4)
            have HO4 := Lib.hid (HO3.out.go B4)
            have HBX4 := Lib.hid BX4
            clear e1 BX4 B4 hX2 hg2 hg2e hsd hfl hts
            go_wp2_with (at_builtin; refine tok_app rfl (.tmp 33) (.tmp 35) rfl (t := (yk, ys, n)) rfl HO4.out rfl HBX4.out hL ?_; intro v' w4 hown4 hkeep)
            have HO5 := Lib.hid hown4
            have HB5 := Lib.hid (hkeep w w.heap.size (Nat.le_refl _) HB4.out)
            clear hown4 hkeep
            go_wp2_with fail
            refine (GA2.out _ HB5.out).mono ?_; rintro e w5 ⟨rfl, hb5⟩
            have HB6 := Lib.hid (bstep HB5.out hb5)
            have HO6 := Lib.hid (HO5.out.go hb5); clear hb5
            go_wp2_with fail
            go_roundw
            case rel => exact ⟨n + yn + g2, f, L ++ [(yk, ys, n)], congrArg (Value.int .i64) (by omega), hn2, HM.out.1, HX3, HO6, HB6, by have h9 := HLL.out; rw [List.length_append]; exact h9⟩
            case measure => have := HM.out.2; simp [intOf]; omega
      · have hX2 := HXn.out
        rw [scanL, if_neg hlt] at hX2
        have HR := Lib.hid hX2
        clear hX2 HXn
        go_wp2_with fail
        refine bodyPost_ret (v := .tuple #[.slice o5 L.length c5, .int .i64 0, .int .i64 0]) (by simp [results, Tryz.f6, go_sem]) rfl ⟨.slice o5 L.length c5, by rw [HR.out]; rfl, by rw [HR.out]; exact HOn.out, HBn.out⟩
end Go.Proofs.YtegobakoflbnfaaGreatDoor

namespace Go.Proofs.YtegobakoflbnfaaGreatDoor
open Go Go.RowKit

/-- a list of tokens that lies in memory -/
def TokAt (w : World) (v : Value) (L : List Tk) : Prop :=
  ∃ o cap, v = .slice o L.length cap ∧ (0 < L.length → ∃ g, o = some ⟨g, 0, none⟩ ∧ ∀ i (hi : i < L.length), w.cell? ⟨g, i * 3, none⟩ = some (.int .i64 L[i].1) ∧ w.cell? ⟨g, i * 3 + 1, none⟩ = some (.string L[i].2.1) ∧ w.cell? ⟨g, i * 3 + 2, none⟩ = some (.int .i64 (L[i].2.2 : Int)))
theorem TokAt.go {w w' : World} {v : Value} {L : List Tk} (h : TokAt w v L) (hb : Below w.heap.size w w') : TokAt w' v L := by
  obtain ⟨o, cap, rfl, h⟩ := h
  refine ⟨o, cap, rfl, fun h0 => ?_⟩
  obtain ⟨g, rfl, hc⟩ := h h0
  refine ⟨g, rfl, fun i hi => ?_⟩
  obtain ⟨a, b, c⟩ := hc i hi
  have hg : g < w.heap.size := World.block_lt_of_cell? w _ a
  exact ⟨(hb.cell hg).trans a, (hb.cell hg).trans b, (hb.cell hg).trans c⟩
theorem tkL_at : ∀ (L : List Tk) (i : Nat) (hi : i < L.length), (tkL L)[i * 3]? = some (.int .i64 L[i].1) ∧ (tkL L)[i * 3 + 1]? = some (.string L[i].2.1) ∧ (tkL L)[i * 3 + 2]? = some (.int .i64 (L[i].2.2 : Int))
  | t :: L, 0, _ => ⟨rfl, rfl, rfl⟩
  | t :: L, i + 1, hi => by
    have h := tkL_at L i (by simpa using hi)
    have e : tkL (t :: L) = .int .i64 t.1 :: .string t.2.1 :: .int .i64 (t.2.2 : Int) :: tkL L := rfl
    rw [e, show (i + 1) * 3 = i * 3 + 3 by omega]
    exact h
theorem OwnT.tokAt {w : World} {B : Nat} {v : Value} {L : List Tk} (h : OwnT w B v L) : TokAt w v L := by
  obtain ⟨o, cap, rfl⟩ := h.shape
  refine ⟨o, cap, rfl, fun h0 => ?_⟩
  obtain ⟨⟨h1, h2⟩, h3⟩ := h
  rcases h2 with ⟨_, h2⟩ | ⟨g, cap', cur, e, a1, a2, a3, a4, a5, a6⟩
  · omega
  · injection e with e1 e2 e3
    subst e1
    refine ⟨g, rfl, fun i hi => ?_⟩
    obtain ⟨b0, b1, b2⟩ := tkL_at L i hi
    rw [← a6] at b0 b1 b2
    rw [List.getElem?_take, if_pos (by omega)] at b0 b1 b2
    refine ⟨?_, ?_, ?_⟩ <;> (rw [cell_of_row _ _ _ _ _ _ a2]; first | simpa using b0 | simpa using b1 | simpa using b2)
def sameB (st : Bool) : List Tk → List Tk → Bool
  | [], [] => true
  | a :: l, b :: m => (a.1 == b.1) && (a.2.1.toList == b.2.1.toList) && (!st || a.2.2 == b.2.2) && sameB st l m
  | _, _ => false
theorem sameB_len {st : Bool} : ∀ {L M : List Tk}, sameB st L M = true → L.length = M.length
  | [], [], _ => rfl
  | a :: l, b :: m, h => by
    rw [sameB, Bool.and_eq_true] at h
    rw [List.length_cons, List.length_cons, sameB_len h.2]

set_option maxHeartbeats 6400000 in
set_option maxRecDepth 100000 in
theorem same_any (w : World) (v1 v2 : Value) (L M : List Tk) (st : Bool) (h1 : TokAt w v1 L) (h2 : TokAt w v2 M) (hL : L.length ≤ 2000) (hM : M.length ≤ 2000) : Calls Tryz.prog 8 #[v1, v2, .bool st] w fun e w' => e = .returned (.bool (sameB st L M)) ∧ Below w.heap.size w w' := by
  have H1 := Lib.hid h1; have H2 := Lib.hid h2
  obtain ⟨o1, c1, rfl, hc1⟩ := h1
  obtain ⟨o2, c2, rfl, hc2⟩ := h2
  have HC1 := Lib.hid hc1; have HC2 := Lib.hid hc2
  clear hc1 hc2
  by_cases hlen : L.length = M.length
  · have n0 : ((L.length : Int) != (M.length : Int)) = false := by rw [hlen]; simp
    obtain ⟨n, hn⟩ : ∃ n, n = L.length := ⟨_, rfl⟩
    have HN := Lib.hid hn; have HNM : Hid (n = M.length) := hn.trans hlen
    rw [← hlen] at n0 ⊢
    rw [← hn] at n0 hL ⊢
    clear hlen hn hM
    go_enter Tryz.func8, Tryz.ntmps8
    go_wp2_with fail
    go_loopw [7] (fun v7 wr => ∃ i : Nat, v7 = .int .i64 (i : Int) ∧ i ≤ n ∧ Hid (sameB st L M = sameB st (L.drop i) (M.drop i)) ∧ Hid (Below w.heap.size w wr)) (fun v7 _ => n - (intOf v7).toNat)
    case atStart => exact ⟨0, rfl, Nat.zero_le _, rfl, Below.refl _ _⟩
    case round =>
      obtain ⟨i, rfl, hi, HS, HB⟩ := hrel
      by_cases hlt : i < n
      · have HLT := Lib.hid hlt
        obtain ⟨g1, rfl, hd1⟩ := HC1.out (by have := HN.out; omega)
        obtain ⟨g2, rfl, hd2⟩ := HC2.out (by have := HNM.out; omega)
        obtain ⟨x0, x1, x2⟩ := hd1 i (by have := HN.out; omega)
        obtain ⟨y0, y1, y2⟩ := hd2 i (by have := HNM.out; omega)
        have gl1 := World.block_lt_of_cell? w _ x0
        have gl2 := World.block_lt_of_cell? w _ y0
        replace x0 := (HB.out.cell (p := ⟨g1, i * 3, none⟩) gl1).trans x0
        replace x1 := (HB.out.cell (p := ⟨g1, i * 3 + 1, none⟩) gl1).trans x1
        replace x2 := (HB.out.cell (p := ⟨g1, i * 3 + 2, none⟩) gl1).trans x2
        replace y0 := (HB.out.cell (p := ⟨g2, i * 3, none⟩) gl2).trans y0
        replace y1 := (HB.out.cell (p := ⟨g2, i * 3 + 1, none⟩) gl2).trans y1
        replace y2 := (HB.out.cell (p := ⟨g2, i * 3 + 2, none⟩) gl2).trans y2
        generalize hta : L[i]'(by have := HN.out; omega) = ta at x0 x1 x2
        generalize htb : M[i]'(by have := HNM.out; omega) = tb at y0 y1 y2
        obtain ⟨ka, sa, pa⟩ := ta
        obtain ⟨kb, sb, pb⟩ := tb
        simp only [] at x0 x1 x2 y0 y1 y2
        have HST : Hid (sameB st (L.drop i) (M.drop i) = ((ka == kb) && (sa.toList == sb.toList) && (!st || pa == pb) && sameB st (L.drop (i + 1)) (M.drop (i + 1)))) := by
          show _ = _
          rw [List.drop_eq_getElem_cons (by have := HN.out; omega), List.drop_eq_getElem_cons (l := M) (by have := HNM.out; omega), hta, htb]
          rfl
        clear hd1 hd2 hta htb
        have hii : (i : Int) < (n : Int) := by omega
        by_cases hk : ka = kb
        · subst hk
          have k1 : (ka == ka) = true := beq_self_eq_true ka
          cases s0 : (sa.toList == sb.toList)
          · have HF : Hid (sameB st L M = false) := by show _ = _; rw [HS.out, HST.out, k1, s0]; rfl
            clear k1
            clear HST HS
            go_wp2_with fail
            go_quiet (fail)
            go_wp2_with fail
            go_ret
            exact ⟨by rw [HF.out]; rfl, HB.out.trans (below_drewN _ _ _)⟩
          · cases st
            · clear k1
              have HS2 : Hid (sameB false L M = sameB false (L.drop (i + 1)) (M.drop (i + 1))) := by show _ = _; rw [HS.out, HST.out, s0]; simp
              clear HST HS
              have HW := Lib.hid (wadd (a := i) (b := 1) (by have := HLT.out; omega))
              go_wp2_with fail
              go_quiet (fail)
              go_wp2_with fail
              go_roundw
              case rel => exact ⟨i + 1, by first | exact congrArg (Value.int .i64) HW.out | go_num, HLT.out, HS2, HB.out.trans (below_drewN _ _ _)⟩
              case measure => have := HLT.out; first | (rw [HW.out]; simp [intOf]; omega) | (simp [intOf]; omega)
            · by_cases hp : pa = pb
              · subst hp
                clear k1
                have HS2 : Hid (sameB true L M = sameB true (L.drop (i + 1)) (M.drop (i + 1))) := by show _ = _; rw [HS.out, HST.out, s0]; simp
                clear HST HS
                have HW := Lib.hid (wadd (a := i) (b := 1) (by have := HLT.out; omega))
                go_wp2_with fail
                go_quiet (fail)
                go_wp2_with fail
                go_roundw
                case rel => exact ⟨i + 1, by first | exact congrArg (Value.int .i64) HW.out | go_num, HLT.out, HS2, HB.out.trans (below_drewN _ _ _)⟩
                case measure => have := HLT.out; first | (rw [HW.out]; simp [intOf]; omega) | (simp [intOf]; omega)
              · have p0 : ((pa : Int) != (pb : Int)) = true := by rw [bne_iff_ne]; omega
                have p1 : (pa == pb) = false := by rw [beq_eq_false_iff_ne]; exact hp
                have HF : Hid (sameB true L M = false) := by show _ = _; rw [HS.out, HST.out, k1, s0, p1]; rfl
                clear k1 p1 hp
                clear HST HS
                go_wp2_with fail
                go_quiet (fail)
                go_wp2_with fail
                go_ret
                exact ⟨by rw [HF.out]; rfl, HB.out.trans (below_drewN _ _ _)⟩
        · have k0 : (ka != kb) = true := by rw [bne_iff_ne]; exact hk
          have k1 : (ka == kb) = false := by rw [beq_eq_false_iff_ne]; exact hk
          have HF : Hid (sameB st L M = false) := by show _ = _; rw [HS.out, HST.out, k1]; rfl
          clear hk
          clear HST HS
          go_wp2_with fail
          go_quiet (fail)
          go_wp2_with fail
          go_ret
          exact ⟨by rw [HF.out]; rfl, HB.out.trans (below_drewN _ _ _)⟩
      · have hin : i = n := by omega
        subst hin
        have HR : Hid (sameB st L M = true) := by
          show _ = _
          rw [HS.out, List.drop_eq_nil_of_le (by rw [← HN.out]; exact Nat.le_refl _), List.drop_eq_nil_of_le (by rw [← HNM.out]; exact Nat.le_refl _)]; rfl
        go_wp2_with fail
        go_ret
        exact ⟨by rw [HR.out]; rfl, HB.out⟩
  · have n0 : ((L.length : Int) != (M.length : Int)) = true := by rw [bne_iff_ne]; omega
    have HR : Hid (sameB st L M = false) := by
      show _ = _
      cases hs : sameB st L M
      · rfl
      · exact absurd (sameB_len hs) hlen
    go_enter Tryz.func8, Tryz.ntmps8
    go_wp2_with fail
    go_ret
    exact ⟨by rw [HR.out]; rfl, Below.refl _ _⟩
end Go.Proofs.YtegobakoflbnfaaGreatDoor

namespace Go.Proofs.YtegobakoflbnfaaGreatDoor
open Go Go.RowKit

def lit1 : ByteArray := ⟨#[120, 49, 61, 50, 46, 53, 48, 42, 121, 59]⟩
def lit2 : ByteArray := ⟨#[97, 60, 62, 98, 47, 47, 99]⟩
def lit3 : ByteArray := ⟨#[49, 46]⟩
def lit4 : ByteArray := ⟨#[34, 97]⟩
def half : ByteArray := ⟨(fracL [50] [53, 48]).toArray⟩
def one1 : ByteArray := ⟨(fracL [49] []).toArray⟩
def out1 : List Tk := [(1, ⟨#[120, 49]⟩, 0), (5, ⟨#[61]⟩, 2), (3, half, 3), (5, ⟨#[42]⟩, 7), (1, ⟨#[121]⟩, 8), (5, ⟨#[59]⟩, 9)]
def out2 : List Tk := [(1, ⟨#[97]⟩, 0), (5, ⟨#[60, 62]⟩, 1), (1, ⟨#[98]⟩, 3)]
def out3 : List Tk := [(3, one1, 0), (5, ⟨#[46]⟩, 1)]
theorem scan4 : scanT lit4 = ([], 0, 1) := by kernel_rfl
theorem scan2 : scanT lit2 = (out2, 0, 0) := by kernel_rfl
theorem scan3 : scanT lit3 = (out3, 0, 0) := by kernel_rfl
theorem scan1 : scanT lit1 = (out1, 0, 0) := by kernel_rfl
theorem half_eq : half = ⟨#[53, 47, 50]⟩ := by kernel_rfl
theorem one_eq : one1 = ⟨#[49]⟩ := by kernel_rfl
theorem TokAt.new (w : World) (L : List Tk) : TokAt (w.alloc (.cells (tkL L).toArray 37)) (.slice (some ⟨w.heap.size, 0, none⟩) L.length L.length) L := by
  refine ⟨_, _, rfl, fun _ => ⟨w.heap.size, rfl, fun i hi => ?_⟩⟩
  obtain ⟨b0, b1, b2⟩ := tkL_at L i hi
  refine ⟨?_, ?_, ?_⟩ <;> (rw [cell_of_row _ _ _ _ _ _ (heap_alloc_new w _)]; simp only [List.getElem?_toArray]; assumption)
def exp1 : List Tk := [(1, ⟨#[120, 49]⟩, 0), (5, ⟨#[61]⟩, 0), (3, ⟨#[53, 47, 50]⟩, 0), (5, ⟨#[42]⟩, 0), (1, ⟨#[121]⟩, 0), (5, ⟨#[59]⟩, 0)]
def exp2 : List Tk := [(1, ⟨#[97]⟩, 0), (5, ⟨#[60, 62]⟩, 0), (1, ⟨#[98]⟩, 0)]
def exp3 : List Tk := [(3, ⟨#[49]⟩, 0), (5, ⟨#[46]⟩, 0)]
theorem same1 : sameB false out1 exp1 = true := by unfold out1; rw [half_eq]; kernel_rfl
theorem same2 : sameB false out2 exp2 = true := by kernel_rfl
theorem same3 : sameB false out3 exp3 = true := by unfold out3; rw [one_eq]; kernel_rfl

set_option maxHeartbeats 6400000 in
set_option maxRecDepth 100000 in
theorem alive_any (w : World) (hm : MaxL w) (ht : Pow10 w) : Calls Tryz.prog 9 #[] w fun e w' => e = .returned (.bool true) ∧ Below w.heap.size w w' := by
  have SC : Hid (∀ W, Below w.heap.size w W → ∀ t : ByteArray, t.size ≤ 8000 → Calls Tryz.prog 6 #[.string t] W (RetScan W (scanT t))) := fun W hb t h => scan_any W t (by omega) (hm.go hb) (ht.go hb)
  have S1 : Hid (∀ W, Below w.heap.size w W → Calls Tryz.prog 6 #[.string lit1] W (RetScan W (out1, 0, 0))) := fun W hb => by rw [← scan1]; exact SC.out W hb lit1 (by decide)
  have S2 : Hid (∀ W, Below w.heap.size w W → Calls Tryz.prog 6 #[.string lit2] W (RetScan W (out2, 0, 0))) := fun W hb => by rw [← scan2]; exact SC.out W hb lit2 (by decide)
  have S3 : Hid (∀ W, Below w.heap.size w W → Calls Tryz.prog 6 #[.string lit3] W (RetScan W (out3, 0, 0))) := fun W hb => by rw [← scan3]; exact SC.out W hb lit3 (by decide)
  have S4 : Hid (∀ W, Below w.heap.size w W → Calls Tryz.prog 6 #[.string lit4] W (RetScan W ([], 0, 1))) := fun W hb => by rw [← scan4]; exact SC.out W hb lit4 (by decide)
  have SA : Hid (∀ W v1 v2 L M, TokAt W v1 L → TokAt W v2 M → L.length ≤ 2000 → M.length ≤ 2000 → sameB false L M = true → Calls Tryz.prog 8 #[v1, v2, .bool false] W fun e w' => e = .returned (.bool true) ∧ Below W.heap.size W w') := fun W v1 v2 L M h1 h2 h3 h4 h5 => by
    have := same_any W v1 v2 L M false h1 h2 h3 h4
    rw [h5] at this
    exact this
  clear hm ht SC
  go_enter Tryz.func9, Tryz.ntmps9
  go_wp2_with fail
  refine (S1.out _ (Below.refl _ _)).mono ?_; rintro e w1 ⟨v1, rfl, ho1, hb1⟩
  have B1 := Lib.hid hb1; have T1 := Lib.hid ho1.tokAt; clear ho1 hb1
  go_wp2_with fail
  refine (S2.out _ B1.out).mono ?_; rintro e w2 ⟨v2, rfl, ho2, hb2⟩
  have B2 := Lib.hid (bstep B1.out hb2); have T1 := Lib.hid (T1.out.go hb2); have T2 := Lib.hid ho2.tokAt; clear ho2 hb2 B1
  go_wp2_with fail
  refine (S3.out _ B2.out).mono ?_; rintro e w3 ⟨v3, rfl, ho3, hb3⟩
  have B3 := Lib.hid (bstep B2.out hb3); have T1 := Lib.hid (T1.out.go hb3); have T2 := Lib.hid (T2.out.go hb3); have T3 := Lib.hid ho3.tokAt; clear ho3 hb3 B2
  go_wp2_with fail
  refine (S4.out _ B3.out).mono ?_; rintro e w4 ⟨v4, rfl, ho4, hb4⟩
  have B4 := Lib.hid (bstep B3.out hb4); have T1 := Lib.hid (T1.out.go hb4); have T2 := Lib.hid (T2.out.go hb4); have T3 := Lib.hid (T3.out.go hb4); clear ho4 hb4 B3
  obtain ⟨W5, hW5⟩ : ∃ W, W = ((w4.alloc (.cells (tkL exp1).toArray 37)).alloc (.cells (tkL exp2).toArray 37)).alloc (.cells (tkL exp3).toArray 37) := ⟨_, rfl⟩
  have e1 : (w4.alloc (.cells (tkL exp1).toArray 37)).heap.size = w4.heap.size + 1 := by simp
  have e2 : ((w4.alloc (.cells (tkL exp1).toArray 37)).alloc (.cells (tkL exp2).toArray 37)).heap.size = w4.heap.size + 1 + 1 := by simp
  have X1 : TokAt W5 (.slice (some ⟨w4.heap.size, 0, none⟩) 6 6) exp1 := by rw [hW5]; exact ((TokAt.new w4 exp1).go (below_alloc _ _)).go (below_alloc _ _)
  have X2 : TokAt W5 (.slice (some ⟨w4.heap.size + 1, 0, none⟩) 3 3) exp2 := by
    have := (TokAt.new (w4.alloc (.cells (tkL exp1).toArray 37)) exp2).go (below_alloc _ (.cells (tkL exp3).toArray 37))
    rw [e1] at this
    rw [hW5]; exact this
  have X3 : TokAt W5 (.slice (some ⟨w4.heap.size + 1 + 1, 0, none⟩) 2 2) exp3 := by
    have := TokAt.new ((w4.alloc (.cells (tkL exp1).toArray 37)).alloc (.cells (tkL exp2).toArray 37)) exp3
    rw [e2] at this
    rw [hW5]; exact this
  have b5 : Below w4.heap.size w4 W5 := by rw [hW5]; exact bstep (bstep (below_alloc _ _) (below_alloc _ _)) (below_alloc _ _)
  have B5 := Lib.hid (bstep B4.out b5)
  have T1 := Lib.hid (T1.out.go b5); have T2 := Lib.hid (T2.out.go b5); have T3 := Lib.hid (T3.out.go b5)
  have X1 := Lib.hid X1; have X2 := Lib.hid X2; have X3 := Lib.hid X3
  have HW5 := Lib.hid hW5
  have C1 := Lib.hid (SA.out W5 _ _ _ _ T1.out X1.out (by decide) (by decide) same1)
  clear e1 e2 b5 hW5 B4
  go_wp2_with fail
  have hw : ∀ {v2 : Value} {K : Ending → World → Prop}, Calls Tryz.prog 8 #[v1, v2, .bool false] W5 K → Calls Tryz.prog 8 #[v1, v2, .bool false] (((w4.alloc (.cells (tkL exp1).toArray 37)).alloc (.cells (tkL exp2).toArray 37)).alloc (.cells (tkL exp3).toArray 37)) K := fun h => by rw [← HW5.out]; exact h
  refine hw (C1.out.mono ?_)
  clear hw; rintro e w6 ⟨rfl, hb6⟩
  have B6 := Lib.hid (bstep B5.out hb6)
  have C2 := Lib.hid (SA.out w6 _ _ _ _ (T2.out.go hb6) (X2.out.go hb6) (by decide) (by decide) same2)
  have T3 := Lib.hid (T3.out.go hb6); have X3 := Lib.hid (X3.out.go hb6)
  clear hb6
  go_wp2_with fail
  refine C2.out.mono ?_; rintro e w7 ⟨rfl, hb7⟩
  have B7 := Lib.hid (bstep B6.out hb7)
  have C3 := Lib.hid (SA.out w7 _ _ _ _ (T3.out.go hb7) (X3.out.go hb7) (by decide) (by decide) same3)
  clear hb7
  go_wp2_with fail
  refine C3.out.mono ?_; rintro e w8 ⟨rfl, hb8⟩
  have B8 := Lib.hid (bstep B7.out hb8); clear hb8
  go_wp2_with fail
  go_ret
  exact ⟨rfl, B8.out⟩
end Go.Proofs.YtegobakoflbnfaaGreatDoor

namespace Go.Proofs.YtegobakoflbnfaaGreatDoor
open Go Go.RowKit

set_option maxHeartbeats 4000000 in
set_option maxRecDepth 100000 in
theorem written_word (w : World) (s : ByteArray) : Calls Tryz.prog 17 #[.agg #[.int .i64 1, .string s, .int .i64 0]] w fun e w' => e = .returned (.string s) ∧ Below w.heap.size w w' := by
  have HB := Lib.hid (below_alloc w (.cells #[.int .i64 1, .string s, .int .i64 0] 37))
  go_enter Tryz.func17, Tryz.ntmps17
  go_wp2_with fail
  go_ret
  exact ⟨rfl, HB.out⟩
def isWordB (s : ByteArray) : Bool := decide (0 < (firstT s).2.2) && decide ((firstT s).2.2 = s.size) && ((firstT s).1 == 1) && ((firstT s).2.1.toList == s.toList)

set_option maxHeartbeats 4000000 in
set_option maxRecDepth 100000 in
theorem token_word (w : World) (s : ByteArray) (hs : s.size ≤ 140737488355328) (hm : MaxL w) (ht : Pow10 w) : Calls Tryz.prog 16 #[.agg #[.int .i64 1, .string s, .int .i64 0]] w fun e w' => e = .returned (.bool (isWordB s)) ∧ Below w.heap.size w w' := by
  have BX0 := BoxT.new w (.int .i64 1) (.string s) (.int .i64 0)
  have B0 := below_alloc w (.cells #[.int .i64 1, .string s, .int .i64 0] 37)
  have WR := Lib.hid (fun W => written_word W s)
  have FI : Hid (∀ W, Below w.heap.size w W → Calls Tryz.prog 13 #[.string s] W (RetTok W (firstT s))) := fun W hb => first_any W s hs (hm.go hb) (ht.go hb)
  obtain ⟨b, hb⟩ : ∃ b, b = isWordB s := ⟨_, rfl⟩
  rw [← hb]
  unfold isWordB at hb
  obtain ⟨x, hx⟩ : ∃ x, x = firstT s := ⟨_, rfl⟩
  rw [← hx] at hb FI
  obtain ⟨k, t, n⟩ := x
  simp only [] at hb
  have HB := Lib.hid B0; have BX := Lib.hid BX0; have HBB := Lib.hid hb
  clear hx hb BX0 B0 hm ht hs
  obtain ⟨x0, x1, x2, f0, f1, f2⟩ := BX.out.facts
  go_enter Tryz.func16, Tryz.ntmps16
  go_wp2_with fail
  refine (WR.out _).mono ?_; rintro e w2 ⟨rfl, hb2⟩
  have BX2 := Lib.hid (BX.out.go hb2); have HB2 := Lib.hid (bstep HB.out hb2); clear hb2 HB BX
  go_wp2_with fail
  refine (FI.out _ HB2.out).mono ?_; rintro e w3 ⟨rfl, hb3⟩
  have BX3 := Lib.hid (BX2.out.go hb3); have HB3 := Lib.hid (bstep HB2.out hb3); clear hb3 HB2 BX2
  have BX4 := Lib.hid (BX3.out.go (below_alloc w3 (.cells #[.int .i64 k, .string t, .int .i64 0] 37)))
  have HB4 := Lib.hid (bstep HB3.out (below_alloc w3 (.cells #[.int .i64 k, .string t, .int .i64 0] 37)))
  clear x0 x1 x2 f0 f1 f2
  obtain ⟨x0, x1, x2, f0, f1, f2⟩ := BX4.out.facts
  by_cases h0 : 0 < n
  · by_cases h1 : n = s.size
    · subst h1
      by_cases h2 : k = 1
      · subst h2
        have HR : Hid (b = (t.toList == s.toList)) := by show _ = _; rw [HBB.out]; simp [h0]
        go_wp2_with fail
        go_ret
        exact ⟨by rw [HR.out]; rfl, HB4.out⟩
      · have HR : Hid (b = false) := by show _ = _; rw [HBB.out, show (k == 1) = false from by rw [beq_eq_false_iff_ne]; exact h2]; simp
        have k0 : (k == 1) = false := by rw [beq_eq_false_iff_ne]; exact h2
        go_wp2_with fail
        go_ret
        exact ⟨by rw [HR.out]; rfl, HB4.out⟩
    · have HR : Hid (b = false) := by show _ = _; rw [HBB.out, decide_eq_false h1]; simp
      have k0 : ((n : Int) == (s.size : Int)) = false := by rw [beq_eq_false_iff_ne]; omega
      go_wp2_with fail
      go_ret
      exact ⟨by rw [HR.out]; rfl, HB4.out⟩
  · have HR : Hid (b = false) := by show _ = _; rw [HBB.out, decide_eq_false h0]; simp
    obtain rfl : n = 0 := by omega
    go_wp2_with fail
    go_ret
    exact ⟨by rw [HR.out]; rfl, HB4.out⟩

end Go.Proofs.YtegobakoflbnfaaGreatDoor

namespace Go.Proofs.YtegobakoflbnfaaGreatDoor
open Go Go.RowKit

def isLet (c : Nat) : Bool := decide ((97 ≤ c ∧ c ≤ 122) ∨ (65 ≤ c ∧ c ≤ 90))
def isDg (c : Nat) : Bool := decide (48 ≤ c ∧ c ≤ 57)
set_option maxRecDepth 100000 in
theorem digit_any (w : World) (c : Nat) : Calls Tryz.prog 32 #[.int .u8 (c : Int)] w fun e w' => e = .returned (.bool (isDg c)) ∧ w' = w := by
  go_enter Tryz.func32, Tryz.ntmps32
  go_wp2_with fail
  all_goals go_ret
  all_goals refine ⟨congrArg (fun b => Ending.returned (Value.bool b)) (?_ : _ = isDg c), rfl⟩
  all_goals (rw [Bool.eq_iff_iff]; simp [isDg]; omega)
set_option maxRecDepth 100000 in
theorem letter_any (w : World) (c : Nat) : Calls Tryz.prog 28 #[.int .u8 (c : Int)] w fun e w' => e = .returned (.bool (isLet c)) ∧ w' = w := by
  go_enter Tryz.func28, Tryz.ntmps28
  go_wp2_with fail
  all_goals go_ret
  all_goals refine ⟨congrArg (fun b => Ending.returned (Value.bool b)) (?_ : _ = isLet c), rfl⟩
  all_goals (rw [Bool.eq_iff_iff]; simp [isLet]; omega)
def wordP (b : UInt8) : Bool := isDg b.toNat || isLet b.toNat || decide (b.toNat = 95)

set_option maxHeartbeats 4000000 in
set_option maxRecDepth 100000 in
theorem rrun_any (w : World) (s : ByteArray) (hs : s.size ≤ 140737488355328) : Calls Tryz.prog 29 #[.string s, .int .i64 0, .bool false] w fun e w' => e = .returned (.int .i64 (pre wordP s.data.toList : Nat)) ∧ w' = w := by
  have DA := Lib.hid (fun c => digit_any w c)
  have LA := Lib.hid (fun c => letter_any w c)
  go_enter Tryz.func29, Tryz.ntmps29
  go_wp2_with fail
  go_loopw [7] (fun v7 wr => ∃ n : Nat, v7 = .int .i64 (n : Int) ∧ n ≤ s.size ∧ wr = w ∧ Hid ((s.data.toList.take n).all wordP = true)) (fun v7 _ => s.size - (intOf v7).toNat)
  case atStart => exact ⟨0, rfl, Nat.zero_le _, rfl, rfl⟩
  case round =>
    obtain ⟨n, rfl, hn, rfl, HA⟩ := hrel
    have hsz : s.data.toList.length = s.size := Array.length_toList
    by_cases hlt : n < s.size
    · have hb := Lib.data_getElem? s n hlt
      obtain ⟨b, hbe⟩ : ∃ b, b = s[n] := ⟨_, rfl⟩
      rw [← hbe] at hb
      have hbi : (s[n].toNat : Int) = (b.toNat : Int) := by rw [hbe]
      have HEND : Hid (wordP b = false → n = pre wordP s.data.toList) := fun h => (pre_at wordP _ n HA.out (by omega) (.inr ⟨b, hb, h⟩)).symm
      have HGO : Hid (wordP b = true → (s.data.toList.take (n + 1)).all wordP = true) := fun h => by
        rw [List.take_add_one, hb, List.all_append, HA.out]; simp [h]
      have HW := Lib.hid (wadd (a := n) (b := 1) (by omega))
      have HLT := Lib.hid hlt
      have D := Lib.hid (DA.out b.toNat)
      have L := Lib.hid (LA.out b.toNat)
      have hl2 : (n : Int) < (s.size : Int) := by omega
      clear hb hsz
      cases hd : isDg b.toNat
      · rw [hd] at D
        cases hl : isLet b.toNat
        · rw [hl] at L
          by_cases h95 : b.toNat = 95
          · have h0 : ((b.toNat : Int) == 95) = true := by rw [beq_iff_eq]; omega
            have HG2 := Lib.hid (HGO.out (by unfold wordP; rw [hd, hl, h95]; rfl))
            clear hd hl h95
            go_wp2_with fail
            refine D.out.mono ?_; rintro e w2 ⟨rfl, rfl⟩
            go_wp2_with fail
            refine L.out.mono ?_; rintro e w2 ⟨rfl, rfl⟩
            go_wp2_with fail
            go_roundw
            case rel => exact ⟨n + 1, by first | exact congrArg (Value.int .i64) (by omega) | go_num, HLT.out, trivial, HG2⟩
            case measure => have := HLT.out; simp [intOf]; omega
          · have h0 : ((b.toNat : Int) == 95) = false := by rw [beq_eq_false_iff_ne]; omega
            have HG2 := Lib.hid (HEND.out (by unfold wordP; rw [hd, hl, decide_eq_false h95]; rfl))
            clear hd hl h95
            go_wp2_with fail
            refine D.out.mono ?_; rintro e w2 ⟨rfl, rfl⟩
            go_wp2_with fail
            refine L.out.mono ?_; rintro e w2 ⟨rfl, rfl⟩
            go_wp2_with fail
            go_ret
            exact ⟨by rw [← HG2.out]; rfl, rfl⟩
        · rw [hl] at L
          have HG2 := Lib.hid (HGO.out (by unfold wordP; rw [hd, hl]; rfl))
          clear hd hl
          go_wp2_with fail
          refine D.out.mono ?_; rintro e w2 ⟨rfl, rfl⟩
          go_wp2_with fail
          refine L.out.mono ?_; rintro e w2 ⟨rfl, rfl⟩
          go_wp2_with fail
          go_roundw
          case rel => exact ⟨n + 1, by first | exact congrArg (Value.int .i64) (by omega) | go_num, HLT.out, trivial, HG2⟩
          case measure => have := HLT.out; simp [intOf]; omega
      · rw [hd] at D
        have HG2 := Lib.hid (HGO.out (by unfold wordP; rw [hd]; rfl))
        clear hd
        go_wp2_with fail
        refine D.out.mono ?_; rintro e w2 ⟨rfl, rfl⟩
        go_wp2_with fail
        go_roundw
        case rel => exact ⟨n + 1, by first | exact congrArg (Value.int .i64) (by omega) | go_num, HLT.out, trivial, HG2⟩
        case measure => have := HLT.out; simp [intOf]; omega
    · have hns : n = s.size := by omega
      have HG2 : Hid (n = pre wordP s.data.toList) := (pre_at wordP _ n HA.out (by omega) (.inl (by rw [List.getElem?_eq_none (by omega)]))).symm
      have hl2 : ¬ (n : Int) < (s.size : Int) := by omega
      subst hns
      clear hlt hsz
      go_wp2_with fail
      go_ret
      exact ⟨by rw [← HG2.out]; rfl, rfl⟩

/-- a list of strings that lies in memory -/
def StrAt (w : World) (v : Value) (L : List ByteArray) : Prop := ∃ g, v = .slice (some ⟨g, 0, none⟩) L.length L.length ∧ ∀ i (hi : i < L.length), w.cell? ⟨g, i, none⟩ = some (.string L[i])
def anyS (L : List ByteArray) (s : ByteArray) : Bool := L.any fun k => k.toList == s.toList

set_option maxHeartbeats 4000000 in
set_option maxRecDepth 100000 in
theorem in_any (w : World) (v : Value) (L : List ByteArray) (s : ByteArray) (hv : StrAt w v L) (hL : L.length ≤ 1000) : Calls Tryz.prog 30 #[v, .string s] w fun e w' => e = .returned (.bool (anyS L s)) ∧ w' = w := by
  obtain ⟨g, rfl, hc⟩ := hv
  have HC := Lib.hid hc
  obtain ⟨n, hn⟩ : ∃ n, n = L.length := ⟨_, rfl⟩
  rw [← hn] at hL ⊢
  have HN := Lib.hid hn
  clear hc hn
  go_enter Tryz.func30, Tryz.ntmps30
  go_wp2_with fail
  go_loopw [5] (fun v5 wr => ∃ i : Nat, v5 = .int .i64 (i : Int) ∧ i ≤ n ∧ wr = w ∧ Hid (anyS L s = anyS (L.drop i) s)) (fun v5 _ => n - (intOf v5).toNat)
  case atStart => exact ⟨0, rfl, Nat.zero_le _, rfl, rfl⟩
  case round =>
    obtain ⟨i, rfl, hi, rfl, HA⟩ := hrel
    by_cases hlt : i < n
    · have hil : i < L.length := by have := HN.out; omega
      have x0 := HC.out i hil
      have hst : anyS (L.drop i) s = ((L[i].toList == s.toList) || anyS (L.drop (i + 1)) s) := by
        rw [List.drop_eq_getElem_cons hil]; rfl
      generalize L[i] = k at x0 hst
      have HST := Lib.hid hst
      have HLT := Lib.hid hlt
      have HW := Lib.hid (wadd (a := i) (b := 1) (by omega))
      clear hst hil
      cases hk : (k.toList == s.toList)
      · have HA2 : Hid (anyS L s = anyS (L.drop (i + 1)) s) := by show _ = _; rw [HA.out, HST.out, hk]; rfl
        go_wp2_with fail
        go_roundw
        case rel => exact ⟨i + 1, by first | exact congrArg (Value.int .i64) (by omega) | go_num, HLT.out, trivial, HA2⟩
        case measure => have := HLT.out; simp [intOf]; omega
      · have HA2 : Hid (anyS L s = true) := by show _ = _; rw [HA.out, HST.out, hk]; rfl
        go_wp2_with fail
        go_ret
        exact ⟨by rw [HA2.out]; rfl, rfl⟩
    · have HA2 : Hid (anyS L s = false) := by show _ = _; rw [HA.out, List.drop_eq_nil_of_le (by have := HN.out; omega)]; rfl
      obtain rfl : i = n := by omega
      clear hlt
      go_wp2_with fail
      go_ret
      exact ⟨by rw [HA2.out]; rfl, rfl⟩
def keysB : List ByteArray := keysL.map fun l => ⟨l.toArray⟩
theorem keys_cells : (keysB.map Value.string).toArray.size = 32 := by decide
set_option maxHeartbeats 4000000 in
set_option maxRecDepth 100000 in
theorem keys_any (w : World) : Calls Tryz.prog 31 #[] w fun e w' => ∃ v, e = .returned v ∧ StrAt w' v keysB ∧ Below w.heap.size w w' := by
  have HB := Lib.hid (below_alloc w (.cells (keysB.map Value.string).toArray 9))
  have HS : Hid (StrAt (w.alloc (.cells (keysB.map Value.string).toArray 9)) (.slice (some ⟨w.heap.size, 0, none⟩) 32 32) keysB) := by
    refine ⟨w.heap.size, rfl, fun i hi => ?_⟩
    rw [cell_of_row _ _ _ _ _ _ (heap_alloc_new w _)]
    simp [hi]
  go_enter Tryz.func31, Tryz.ntmps31
  go_wp2_with fail
  go_ret
  exact ⟨_, rfl, HS.out, HB.out⟩
end Go.Proofs.YtegobakoflbnfaaGreatDoor

namespace Go.Proofs.YtegobakoflbnfaaGreatDoor
open Go Go.RowKit

def headLet (l : List UInt8) : Bool := match l with
  | [] => false
  | b :: _ => isLet b.toNat
def refWordB (s : ByteArray) : Bool := decide (1 ≤ s.size) && decide (s.size ≤ 20) && headLet s.data.toList && decide (pre wordP s.data.toList = s.size) && !anyS keysB s
theorem let_cl : ∀ n : Fin 256, isLet n.val = decide (classN n.val = 3) := by decide +kernel
theorem let_class (b : UInt8) : isLet b.toNat = decide (classN b.toNat = 3) := let_cl ⟨b.toNat, b.toNat_lt⟩
theorem word_cl : ∀ n : Fin 256, (isDg n.val || isLet n.val || decide (n.val = 95)) = decide (classN n.val ∈ ([3, 4, 5] : List Int)) := by decide +kernel
theorem word_class : wordP = inC [3, 4, 5] := by
  funext b
  exact word_cl ⟨b.toNat, b.toNat_lt⟩
theorem any_key (s : ByteArray) : anyS keysB s = isKey s.toList := by
  unfold anyS keysB isKey
  rw [List.any_map]
  congr 1
  funext k
  show ((⟨k.toArray⟩ : ByteArray).toList == s.toList) = (s.toList == k)
  rw [Lib.toList_data (⟨k.toArray⟩ : ByteArray)]
  show (k == s.toList) = _
  rw [Bool.eq_iff_iff, beq_iff_eq, beq_iff_eq]
  exact eq_comm
theorem extract_all (s : ByteArray) : s.extract 0 s.size = s := by
  apply ByteArray.ext
  rw [ByteArray.data_extract]
  exact Array.extract_size
theorem same_word (s : ByteArray) : isWordB s = refWordB s := by
  unfold isWordB refWordB
  have hsz : s.data.toList.length = s.size := Array.length_toList
  cases hl : s.data.toList with
  | nil =>
    have h0 : s.size = 0 := by rw [← hsz, hl]; rfl
    have hc : cl0 s = -1 := by unfold cl0; rw [hl]
    have hf : firstT s = noT := by unfold firstT; rw [hc]; rfl
    rw [hf, h0]; rfl
  | cons b l =>
    have hs1 : 1 ≤ s.size := by rw [← hsz, hl]; simp
    have hc : cl0 s = classN b.toNat := by unfold cl0; rw [hl]
    have hh : headLet (b :: l) = decide (classN b.toNat = 3) := let_class b
    rw [hh]
    by_cases h3 : classN b.toNat = 3
    · have hf : firstT s = wordT s := by unfold firstT; rw [hc, if_pos h3]
      rw [hf, decide_eq_true h3, decide_eq_true hs1, word_class, ← hl]
      have hle := pre_le (inC [3, 4, 5]) s.data.toList
      unfold wordT
      generalize hp : pre (inC [3, 4, 5]) s.data.toList = p at *
      by_cases h20 : 20 < p
      · rw [if_pos h20]
        have : ¬ (s.size ≤ 20 ∧ p = s.size) := by omega
        by_cases hps : p = s.size
        · rw [decide_eq_false (show ¬ s.size ≤ 20 by omega)]; rfl
        · rw [decide_eq_false hps]; simp [noT]
      · rw [if_neg h20]
        by_cases hps : p = s.size
        · subst hps
          rw [extract_all, any_key]
          have : s.size ≤ 20 := by omega
          rw [decide_eq_true this]
          cases hk : isKey s.toList
          · simp; omega
          · simp
        · rw [decide_eq_false hps]
          split <;> simp [hps]
    · have hk : (firstT s).1 ≠ 1 := by
        unfold firstT
        rw [hc, if_neg h3]
        split
        · unfold numberT; split; exact (by decide : (0 : Int) ≠ 1); exact (by decide : (3 : Int) ≠ 1)
        · split
          · unfold quotedT; split; exact (by decide : (0 : Int) ≠ 1); exact (by decide : (4 : Int) ≠ 1)
          · split
            · show (5 : Int) ≠ 1; decide
            · decide
      rw [decide_eq_false h3, show ((firstT s).1 == 1) = false from by rw [beq_eq_false_iff_ne]; exact hk]
      simp

set_option maxHeartbeats 4000000 in
set_option maxRecDepth 100000 in
theorem refword_any (w : World) (s : ByteArray) (hs : s.size ≤ 140737488355328) : Calls Tryz.prog 40 #[.string s] w fun e w' => e = .returned (.bool (refWordB s)) ∧ Below w.heap.size w w' := by
  obtain ⟨x, hx⟩ : ∃ x, x = refWordB s := ⟨_, rfl⟩
  rw [← hx]
  unfold refWordB at hx
  have HX := Lib.hid hx
  clear hx
  by_cases h1 : 1 ≤ s.size
  · by_cases h20 : s.size ≤ 20
    · have hs0 : 0 < s.size := h1
      obtain ⟨b, hbe⟩ : ∃ b, b = s[0] := ⟨_, rfl⟩
      obtain ⟨l, hl⟩ : ∃ l, s.data.toList = b :: l := by
        have h1 := Lib.data_getElem? s 0 hs0
        cases hd : s.data.toList with
        | nil => rw [hd] at h1; simp at h1
        | cons a l => rw [hd] at h1; simp at h1; exact ⟨l, by rw [h1, hbe]⟩
      have hbi : (s[0].toNat : Int) = (b.toNat : Int) := by rw [hbe]
      have hh : headLet s.data.toList = isLet b.toNat := by rw [hl]; rfl
      have LA := Lib.hid (letter_any w b.toNat)
      have RU := Lib.hid (rrun_any w s hs)
      have KE := Lib.hid (keys_any w)
      have IN : Hid (∀ W v, StrAt W v keysB → Calls Tryz.prog 30 #[v, .string s] W fun e w' => e = .returned (.bool (anyS keysB s)) ∧ w' = W) := fun W v h => in_any W v keysB s h (by decide)
      have hple := pre_le wordP s.data.toList
      obtain ⟨p, hp⟩ : ∃ p, p = pre wordP s.data.toList := ⟨_, rfl⟩
      rw [← hp] at RU
      have HX2 : Hid (x = (isLet b.toNat && decide (p = s.size) && !anyS keysB s)) := by show _ = _; rw [HX.out, decide_eq_true h1, decide_eq_true h20, hh, ← hp]; rfl
      clear HX hl hbe hh hp hple hs
      cases hll : isLet b.toNat
      · rw [hll] at LA
        have HR : Hid (x = false) := by show _ = _; rw [HX2.out, hll]; rfl
        clear hll HX2
        go_enter Tryz.func40, Tryz.ntmps40
        go_wp2_with fail
        refine LA.out.mono ?_; rintro e w2 ⟨rfl, rfl⟩
        go_wp2_with fail
        go_ret
        exact ⟨by rw [HR.out]; rfl, Below.refl _ _⟩
      · rw [hll] at LA
        by_cases hps : p = s.size
        · have HR : Hid (x = !anyS keysB s) := by show _ = _; rw [HX2.out, hll, decide_eq_true hps]; rfl
          subst hps
          clear hll HX2
          go_enter Tryz.func40, Tryz.ntmps40
          go_wp2_with fail
          refine LA.out.mono ?_; rintro e w2 ⟨rfl, rfl⟩
          go_wp2_with fail
          refine RU.out.mono ?_; rintro e w2 ⟨rfl, rfl⟩
          go_wp2_with fail
          refine KE.out.mono ?_; rintro e w3 ⟨v, rfl, hv, hb⟩
          have HB := Lib.hid hb
          have IV := Lib.hid (IN.out w3 v hv)
          clear hb hv
          go_wp2_with fail
          refine IV.out.mono ?_; rintro e w4 ⟨rfl, rfl⟩
          go_wp2_with fail
          go_ret
          exact ⟨by rw [HR.out]; rfl, HB.out⟩
        · have HR : Hid (x = false) := by show _ = _; rw [HX2.out, hll, decide_eq_false hps]; rfl
          have p0 : ((p : Int) == (s.size : Int)) = false := by rw [beq_eq_false_iff_ne]; omega
          clear hll HX2
          go_enter Tryz.func40, Tryz.ntmps40
          go_wp2_with fail
          refine LA.out.mono ?_; rintro e w2 ⟨rfl, rfl⟩
          go_wp2_with fail
          refine RU.out.mono ?_; rintro e w2 ⟨rfl, rfl⟩
          go_wp2_with fail
          go_ret
          exact ⟨by rw [HR.out]; rfl, Below.refl _ _⟩
    · have HR : Hid (x = false) := by show _ = _; rw [HX.out, decide_eq_false h20]; simp
      go_enter Tryz.func40, Tryz.ntmps40
      go_wp2_with fail
      go_ret
      exact ⟨by rw [HR.out]; rfl, Below.refl _ _⟩
  · have HR : Hid (x = false) := by show _ = _; rw [HX.out, decide_eq_false h1]; rfl
    go_enter Tryz.func40, Tryz.ntmps40
    go_wp2_with fail
    go_ret
    exact ⟨by rw [HR.out]; rfl, Below.refl _ _⟩

end Go.Proofs.YtegobakoflbnfaaGreatDoor
