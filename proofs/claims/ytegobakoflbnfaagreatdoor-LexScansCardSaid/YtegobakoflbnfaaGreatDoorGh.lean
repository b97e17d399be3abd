/- The reference's divNat. The reference's gcdNat. The reference's Read. The reference's Read, without a sign, and of all texts. -/
import Derived.Test.YtegobakoflbnfaaGreatDoorGg
import Derived.Test.YtegobakoflbnfaaGreatDoorMA
namespace Go.Proofs.YtegobakoflbnfaaGreatDoor.QA
open Go Go.RowKit Go.Shelf WN LM

def RRet2 (w : World) (n m : Nat) (e : Ending) (w' : World) : Prop := ∃ v1 v2, e = .returned (.tuple #[v1, v2]) ∧ RNum w' v1 n ∧ RNum w' v2 m ∧ Below w.heap.size w w'
theorem quo_op (P b : Int) (h0 : 0 ≤ P) (hb : 0 < b) (hP : P ≤ 9000000000000000000) (w : World) :
    (Op.intDiv .quo .i64 P b).run Tryz.prog w = .ok (.int .i64 (P / b)) w := by
  have hne : ¬ b = 0 := by omega
  have hq : P.tdiv b = P / b := Int.tdiv_eq_ediv_of_nonneg h0
  have h1 : P / b ≤ P := Int.ediv_le_self b h0
  have h2 : 0 ≤ P / b := Int.ediv_nonneg h0 (by omega)
  have hw : IntKind.i64.wrap (P / b) = P / b := IntWalk.i64_in _ ⟨by omega, by omega⟩
  simp [Op.intDiv, go_sem, hne, hq, hw]
/-- the first guess is never too great -/
theorem div_guess {r m f D : Nat} (hD : D = m / 10000 ^ f + (if 0 < f then 1 else 0)) : r / 10000 ^ f / D * m ≤ r := by
  rcases Nat.eq_zero_or_pos f with h | h
  · subst h
    simp only [Nat.pow_zero, Nat.div_one, Nat.lt_irrefl, if_false, Nat.add_zero] at *
    subst hD
    exact Nat.div_mul_le_self _ _
  · rw [if_pos h] at hD
    have h1 : m ≤ D * 10000 ^ f := by
      subst hD
      have := Nat.lt_mul_div_succ m (b := 10000 ^ f) (Nat.pow_pos (by omega))
      rw [Nat.mul_comm]; omega
    have h2 : r / 10000 ^ f / D * m ≤ r / 10000 ^ f / D * (D * 10000 ^ f) := Nat.mul_le_mul_left _ h1
    have h3 : r / 10000 ^ f / D * D ≤ r / 10000 ^ f := Nat.div_mul_le_self _ _
    have h4 : r / 10000 ^ f / D * D * 10000 ^ f ≤ r / 10000 ^ f * 10000 ^ f := Nat.mul_le_mul_right _ h3
    have h5 := Nat.div_mul_le_self r (10000 ^ f)
    rw [← Nat.mul_assoc] at h2
    omega
theorem div_top {r m M f : Nat} (hm : m < 10000 ^ M) (hf : f = M - 2) (hr : r < 10000 * m) : r / 10000 ^ f < 1000000000000 := by
  have h1 : r < 10000 ^ (M + 1) := by rw [Nat.pow_succ]; omega
  have h2 : 10000 ^ (M + 1) ≤ 10000 ^ (f + 3) := Nat.pow_le_pow_right (by omega) (by omega)
  have h3 : (10000 : Nat) ^ (f + 3) = 10000 ^ f * 1000000000000 := by rw [Nat.pow_add]
  exact Nat.div_lt_of_lt_mul (by omega)
def DivJ (la : List Nat) (m : Nat) (w wk : World) (g j r : Nat) (qs : List Nat) : Prop :=
  Row wk g .i64 3 (List.replicate j 0 ++ qs) ∧ j + qs.length = la.length ∧ Digs 10000 qs ∧ val 10000 (la.drop j) = val 10000 qs * m + r ∧ r < m ∧ w.heap.size ≤ g ∧ Below w.heap.size w wk
theorem DivJ.go {la : List Nat} {m : Nat} {w wk wx : World} {g j r : Nat} {qs : List Nat} (h : DivJ la m w wk g j r qs) (hb : Below wk.heap.size wk wx) : DivJ la m w wx g j r qs :=
  ⟨h.1.below hb h.1.lt, h.2.1, h.2.2.1, h.2.2.2.1, h.2.2.2.2.1, h.2.2.2.2.2.1, bstep h.2.2.2.2.2.2 hb⟩
theorem replicate_set (i x : Nat) (qs : List Nat) : (List.replicate (i + 1) 0 ++ qs).set i x = List.replicate i 0 ++ x :: qs := by
  rw [List.replicate_succ', List.append_assoc, List.set_append_right _ _ (by rw [List.length_replicate]; exact Nat.le_refl _), List.length_replicate, Nat.sub_self]
  rfl
theorem DivJ.step {la : List Nat} {m : Nat} {w wk : World} {g i r x : Nat} {qs : List Nat} {z : Int} (h : DivJ la m w wk g (i + 1) r qs) (hm : 0 < m) (hx : la[i]? = some x) (hx1 : x < 10000) (hz : z = (((x + 10000 * r) / m : Nat) : Int)) :
    DivJ la m w (wk.setCell ⟨g, i, none⟩ (.int .i64 z)) g i ((x + 10000 * r) % m) ((x + 10000 * r) / m :: qs) := by
  obtain ⟨h1, h2, h3, h4, h5, h6, h7⟩ := h
  subst hz
  have hil : i < la.length := by omega
  have hq : (x + 10000 * r) / m < 10000 := Nat.div_lt_of_lt_mul (by rw [Nat.mul_comm]; omega)
  refine ⟨?_, by rw [List.length_cons]; omega, h3.cons hq, ?_, Nat.mod_lt _ hm, h6, h7.setCell (p := ⟨g, i, none⟩) h6 _⟩
  · have := h1.set i ((x + 10000 * r) / m)
    rw [replicate_set] at this
    exact this
  · rw [List.getElem?_eq_getElem hil] at hx
    have hx := Option.some.inj hx
    rw [val_drop _ _ _ hil, h4, hx, val_cons]
    have := Nat.div_add_mod (x + 10000 * r) m
    generalize (x + 10000 * r) / m = q at *
    generalize (x + 10000 * r) % m = r2 at *
    generalize val 10000 qs = Q at *
    grind
def CopyI (lr : List Nat) (x : Nat) (W wr : World) (k : Nat) : Prop :=
  Row wr W.heap.size .i64 3 ((x :: lr.take k) ++ List.replicate (lr.length + 1 - (k + 1)) 0) ∧ Below W.heap.size W wr
theorem CopyI.step {lr : List Nat} {x : Nat} {W wr : World} {k y : Nat} {z : Int} (h : CopyI lr x W wr k) (hk : k < lr.length) (hy : lr[k]? = some y) (hz : z = (y : Int)) :
    CopyI lr x W (wr.setCell ⟨W.heap.size, k + 1, none⟩ (.int .i64 z)) (k + 1) := by
  obtain ⟨h1, h2⟩ := h
  subst hz
  refine ⟨?_, h2.setCell (p := ⟨W.heap.size, k + 1, none⟩) (Nat.le_refl _) _⟩
  have := h1.set (k + 1) y
  rw [set_next (s := x :: lr.take k) (by rw [List.length_cons, List.length_take]; omega) (by omega)] at this
  rw [List.take_add_one, hy]
  simpa using this
theorem CopyI.done {lr : List Nat} {x : Nat} {W wr : World} (h : CopyI lr x W wr lr.length) : Row wr W.heap.size .i64 3 (x :: lr) ∧ Below W.heap.size W wr := by
  obtain ⟨h1, h2⟩ := h
  rw [List.take_of_length_le (Nat.le_refl _), Nat.sub_self, List.replicate_zero, List.append_nil] at h1
  exact ⟨h1, h2⟩
theorem DivJ.start {la : List Nat} {m M : Nat} {w wk : World} {g j : Nat} (hj : j + (M - 1) = la.length) (hM : 1 ≤ M) (da : Digs 10000 la) (hm : 10000 ^ (M - 1) ≤ m) (hrow : Row wk g .i64 3 (List.replicate la.length 0)) (hg : w.heap.size ≤ g) (hb : Below w.heap.size w wk) :
    DivJ la m w wk g j (val 10000 (la.drop j)) (List.replicate (M - 1) 0) := by
  refine ⟨by rw [List.replicate_append_replicate, hj]; exact hrow, by rw [List.length_replicate]; exact hj, ?_, by rw [val_replicate_zero]; omega, ?_, hg, hb⟩
  · intro x hx
    rw [List.mem_replicate] at hx
    omega
  · have := val_lt (B := 10000) (by omega) (da.drop j)
    rw [List.length_drop, show la.length - j = M - 1 from by omega] at this
    omega
theorem DivJ.done {la : List Nat} {m : Nat} {w wk : World} {g r : Nat} {qs : List Nat} (h : DivJ la m w wk g 0 r qs) : Row wk g .i64 3 qs ∧ qs.length = la.length ∧ Digs 10000 qs ∧ val 10000 qs = val 10000 la / m ∧ r = val 10000 la % m := by
  obtain ⟨h1, h2, h3, h4, h5, h6, h7⟩ := h
  rw [List.drop_zero] at h4
  have h8 : val 10000 la / m = val 10000 qs ∧ val 10000 la % m = r := by
    rw [Nat.div_mod_unique (by omega)]
    constructor
    · rw [h4, Nat.mul_comm]; omega
    · exact h5
  refine ⟨by simpa using h1, by omega, h3, h8.1.symm, h8.2.symm⟩
theorem rsub_drop {oa : Option Addr} {l : List Nat} {cap : Nat} {w : World} (h : Rep w .i64 (.slice oa l.length cap) l) {b f : Nat} (ho : oa = some ⟨b, f, none⟩) (k : Nat) :
    ∀ j u, (nl .i64 (l.drop k))[j]? = some u → w.cell? ((⟨b, f + k, none⟩ : Addr).add j) = some u := by
  intro j u hu
  rw [nl, List.getElem?_map, List.getElem?_drop] at hu
  obtain ⟨x, hx, rfl⟩ := Option.map_eq_some_iff.1 hu
  have hkl : k + j < l.length := by
    rcases Nat.lt_or_ge (k + j) l.length with h | h
    · exact h
    · rw [List.getElem?_eq_none h] at hx; cases hx
  obtain ⟨b2, f2, e, -, hc⟩ := h.at' (Below.refl _ _) (k + j) hkl
  subst ho
  cases e
  rw [List.getElem?_eq_getElem hkl] at hx
  cases hx
  rw [show (⟨b, f + k, none⟩ : Addr).add j = ⟨b, f + (k + j), none⟩ from by unfold Addr.add; split <;> simp <;> omega]
  exact hc

theorem stop_rg {P : Program} {Q : Exit → Act → World → Prop} {r : Nat} {ops : Array Oper} {b : Bool} {a : Act} {w : World} (h : Hid ((Code.region r ops b).wp P Q a w)) : (Code.region r ops b).wp P Q a w := h.out
theorem stop_op {P : Program} {ops : Array Oper} {Q : Exit → Act → World → Prop} {o : Oper} {rest : List Oper} {a : Act} {w : World} (d : Nat) (_ : o.dst = some d) (h : Hid (wpList P ops Q (o :: rest) a w)) : wpList P ops Q (o :: rest) a w := h.out
theorem rtrim_rep {v : Value} {l : List Nat} {w : World} (h : Rep w .i64 v l) (hl : l.length ≤ 1000000000000) : Calls Tryz.prog 100 #[v] w fun e w' => ∃ v', e = .returned v' ∧ Rep w .i64 v' (trim l) ∧ w' = w := by
  obtain ⟨oa, cap, rfl, -, -⟩ := id h
  exact rtrim_any hl h
theorem rtrim_repN {v : Value} {l : List Nat} {w : World} {g : Nat} (h : Rep w .i64 v l) (hn : NotIn g v) (hl : l.length ≤ 1000000000000) : Calls Tryz.prog 100 #[v] w fun e w' => ∃ v', e = .returned v' ∧ Rep w .i64 v' (trim l) ∧ w' = w ∧ NotIn g v' := by
  obtain ⟨oa, cap, rfl, -, -⟩ := id h
  refine (rtrim_at hl h).mono fun e w' ⟨v, h1, h2, h3, k, hk⟩ => ⟨v, h1, h2, h3, fun b off n c e => ?_⟩
  rw [hk] at e
  cases e
  exact hn b off _ _ rfl
theorem own_new (w : World) (B : Nat) (hB : w.heap.size = B) : (w.alloc (.cells #[] 3)).ownsRow B 3 1 (.slice (some ⟨B, 0, none⟩) 0 0) 0 [] := by
  subst hB
  exact ⟨rfl, Or.inr ⟨w.heap.size, 0, #[], rfl, Nat.le_refl _, alloc_at _ _ _ rfl, Nat.le_refl _, by unfold maxLen; omega, rfl, rfl⟩⟩

set_option maxHeartbeats 16000000 in
set_option maxRecDepth 100000 in
theorem rdiv_any {va vb : Value} {n m : Nat} {w : World} (ha : RNum w va n) (hb : RNum w vb m) (h0 : 0 < m) (ln : RLen n ≤ 100000) (lm : RLen m ≤ 100000) : Calls Tryz.prog 92 #[va, vb] w (RRet2 w (n / m) (n % m)) := by
  have CMP : Hid (∀ w' v' r, Below w.heap.size w w' → RNum w' v' r → RLen r ≤ 100001 → Calls Tryz.prog 76 #[v', vb] w' fun e w2 => e = .returned (.int .i64 (cmpN r m)) ∧ Below w'.heap.size w' w2) := fun w' v' r h1 h2 h3 => rcmp_any h2 (hb.go h1) (by omega) (by omega)
  have SUBB : Hid (∀ w' v' r, Below w.heap.size w w' → RNum w' v' r → RLen r ≤ 100001 → m ≤ r → Calls Tryz.prog 77 #[v', vb] w' fun e w2 => ∃ v, e = .returned v ∧ RNum w2 v (r - m) ∧ Below w'.heap.size w' w2 ∧ ∃ k c, v = .slice (some ⟨w'.heap.size, 0, none⟩) k c) := fun w' v' r h1 h2 h3 h4 => rsub_at h2 (hb.go h1) h4 (by omega)
  have MULD : Hid (∀ w' (q : Nat), Below w.heap.size w w' → q < 9223372036854775808 → Calls Tryz.prog 116 #[vb, .int .i64 (q : Nat)] w' (RRet w' (m * q))) := fun w' q h1 h2 => rmuld_any (hb.go h1) (by omega) h2
  have TOPB : Hid (∀ w' (f : Nat), Below w.heap.size w w' → f ≤ 1000000 → m / 10000 ^ f < 1000000000000 → Calls Tryz.prog 115 #[vb, .int .i64 (f : Nat)] w' fun e w2 => e = .returned (.int .i64 ((m / 10000 ^ f : Nat) : Int)) ∧ w2 = w') := fun w' f h1 h2 h3 => rtop_any (hb.go h1) (by omega) h2 h3
  have HA := Lib.hid ha
  have HM0 := Lib.hid h0
  by_cases hlt : n < m
  · have hc : Hid (cmpN n m = -1) := by show _ = _; unfold cmpN; rw [if_pos hlt]
    have HLT := Lib.hid hlt
    obtain ⟨oa, capa, rfl⟩ := ha.shape
    obtain ⟨ob, capb, rfl⟩ := hb.shape
    clear ha hb h0 hlt lm
    have LN := Lib.hid ln; clear ln
    go_enter Tryz.func92, Tryz.ntmps92
    go_wp2_with fail
    refine (CMP.out w _ _ (Below.refl _ _) HA.out (by have := LN.out; omega)).mono ?_; rintro e w1 ⟨rfl, hb1⟩; rw [hc.out]
    go_wp2_with fail
    go_ret2
    exact ⟨_, _, rfl, by rw [Nat.div_eq_of_lt HLT.out]; exact RNum.nil _, by rw [Nat.mod_eq_of_lt HLT.out]; exact HA.out.go hb1, hb1⟩
  have HGE : Hid (m ≤ n) := by show _ ≤ _; omega
  have hrl := rlen_mono HGE.out
  have hcx : ∃ r : Int, cmpN n m = r ∧ 0 ≤ r ∧ r ≤ 1 := by
    unfold cmpN
    rw [if_neg hlt]
    split
    · exact ⟨_, rfl, by omega, by omega⟩
    · exact ⟨_, rfl, by omega, by omega⟩
  obtain ⟨rc, hrc, hrc0, hrc1⟩ := hcx
  have HRC := Lib.hid hrc
  have LNN : Hid (RLen n ≤ 100000) := ln
  have LMM : Hid (RLen m ≤ 100000) := lm
  have hM1 := rlen_pos h0
  obtain ⟨oa, capa, la, rfl, ra, ca, hva, hla⟩ := ha.open
  obtain ⟨ob, capb, lb, rfl, rb, cb, hvb, hlb⟩ := hb.open
  obtain ⟨N, hN⟩ : ∃ N, RLen n = N := ⟨_, rfl⟩
  obtain ⟨M, hM⟩ : ∃ M, RLen m = M := ⟨_, rfl⟩
  have hmlt : m < 10000 ^ M := by rw [← hM]; exact lt_rlen m
  have hmge : 10000 ^ (M - 1) ≤ m := by rw [← hM]; exact rlen_le h0
  have hnlt : n < 10000 ^ N := by rw [← hN]; exact lt_rlen n
  rw [hN] at ra hla ln hrl
  rw [hM] at rb hlb lm hM1 hrl
  rw [hN] at HA ⊢
  rw [hM] at CMP SUBB MULD TOPB ⊢
  have hNc := ra.len.2
  obtain ⟨b1, f1, hoa, -, -⟩ := ra.at' (Below.refl _ _) 0 (by omega)
  subst hoa
  have RA := Lib.hid ra; have CA := Lib.hid ca; have HLA := Lib.hid hla; have HVA := Lib.hid hva
  have LN := Lib.hid ln; have LM := Lib.hid lm; have HRL := Lib.hid hrl; have HM1 := Lib.hid hM1
  have HMLT := Lib.hid hmlt; have HMGE := Lib.hid hmge
  have hmkN := fun w => make_ints w (N : Int) (N : Int) (by omega) (by omega) (by omega)
  simp only [Int.toNat_natCast] at hmkN
  obtain ⟨K, hK⟩ : ∃ K, N - M + 1 = K := ⟨_, rfl⟩
  have hKN : K ≤ N := by omega
  have e1 : (N : Int) - (M : Int) + 1 = (K : Int) := by omega
  have HK := Lib.hid hK; have HKN := Lib.hid hKN; have E1 := Lib.hid e1
  have HSRC : Hid (∀ W, Below w.heap.size w W → ∀ j u, (nl .i64 (la.drop K))[j]? = some u → W.cell? ((⟨b1, f1 + K, none⟩ : Addr).add j) = some u) := fun W hW => by
    have h := RA.out.below hW (Nat.le_refl _)
    rw [← hla] at h
    exact rsub_drop h rfl K
  clear ha hb h0 hlt ra ca hla hva rb cb hvb hlb hN hM hmlt hmge hnlt hrc hK
  obtain ⟨i0, hi, hz0, hz1, hz2⟩ := info_parts Tryz.info3
  by_cases hM2 : 2 < M
  · have hKc : K < capa := by omega
    obtain ⟨f, hf⟩ : ∃ f, M - 2 = f := ⟨_, rfl⟩
    have hMf : (M : Int) - 2 = (f : Int) := by omega
    have hf0 : 0 < f := by omega
    have HF := Lib.hid hf; have HF0 := Lib.hid hf0
    have HMT : Hid (m / 10000 ^ f < 1000000000000) := div_top HMLT.out hf.symm (by have := HM0.out; omega)
    obtain ⟨D, hD⟩ : ∃ D, D = m / 10000 ^ f + (if 0 < f then 1 else 0) := ⟨_, rfl⟩
    have HD := Lib.hid hD
    have HDB : Hid (D ≤ 1000000000000) := by
      have := HMT.out
      show _ ≤ _
      rw [hD]; generalize m / 10000 ^ f = q at *; split <;> omega
    have HDP : Hid (0 < D) := by
      show 0 < D
      rw [hD]
      by_cases h : 0 < f
      · rw [if_pos h]; exact Nat.succ_pos _
      · have : f = 0 := by omega
        rw [if_neg h, this, Nat.pow_zero, Nat.div_one]
        exact HM0.out
    clear hf hD
    go_enter Tryz.func92, Tryz.ntmps92
    go_wp2_with fail
    refine (CMP.out w _ _ (Below.refl _ _) HA.out (by have := LNN.out; omega)).mono ?_; rintro e w1 ⟨rfl, hb1⟩; rw [HRC.out]
    have HB1 := Lib.hid hb1; clear hb1
    go_wp2_with (at_builtin; refine stop_op 31 rfl ?_)
    apply Lib.hid
    refine wpList_append_own _ rfl (.tmp 22) (.tmp 30) 74 rfl (w1.heap.size + 1) 3 i0 (.int .i64 0) 1 8 Tryz.underlying74 hi hz0 hz1 hz2 rfl (by decide) (.slice (some ⟨w1.heap.size + 1, 0, none⟩) 0 0) 0 [] rfl (own_new _ _ (by simp)) ⟨b1, f1 + K, none⟩ (N - K) (capa - K) (nl .i64 (la.drop K)) rfl (by rw [nl_length, List.length_drop, HLA.out, Nat.mul_one]) (HSRC.out _ ((HB1.out.alloc HB1.out.size _).alloc (by simp; have := HB1.out.size; omega) _)) (by intro u hu; rw [nl, List.mem_map] at hu; obtain ⟨x, -, rfl⟩ := hu; rfl) (by unfold maxLen; have := LN.out; omega) (by have := LN.out; omega) (by simp) ?_
    intro v' w2 hown1 hgrow1 _
    rw [List.nil_append] at hown1
    have HRV := Lib.hid (Rep.own hown1)
    have HNV : Hid (NotIn w1.heap.size v') := fun b off n c h => by
      obtain ⟨-, h2⟩ := hown1
      rcases h2 with ⟨h2, -⟩ | ⟨g, cap, cur, h2, h3, -⟩
      · rw [h2] at h; cases h
      · rw [h2] at h; cases h; omega
    have HRW : Hid (Row w2 w1.heap.size .i64 3 (List.replicate N 0)) := (hgrow1.block w1.heap.size (by simp; omega) (by simp [Value.ownBlock])).trans ((Row.new w1 .i64 3 _).alloc _)
    have HB2 : Hid (Below w.heap.size w w2) := ((HB1.out.alloc HB1.out.size _).alloc (by simp; have := HB1.out.size; omega) _).grown hgrow1 (by simp; have := HB1.out.size; omega) (fun k hk => by simp [Value.ownBlock] at hk; have := HB1.out.size; omega)
    go_wp2_with fail
    refine (rtrim_repN HRV.out HNV.out (by rw [List.length_drop]; have := HLA.out; have := LN.out; omega)).mono ?_; rintro e w3 ⟨v3, rfl, hv3, rfl, hn3⟩
    have HN3 := Lib.hid hn3; clear hn3
    have HR0 : Hid (RNum w3 v3 (val 10000 (la.drop K))) := ⟨_, hv3, canon_trim (CA.out.1.drop K), val_trim _ _⟩
    clear hv3 hown1 hgrow1
    obtain ⟨D0, hD0⟩ : ∃ D0, D0 = m / 10000 ^ f := ⟨_, rfl⟩
    have hD0b : D0 ≤ 1000000000000 := by have := HMT.out; rw [hD0]; omega
    have TB : Hid (Calls Tryz.prog 115 #[.slice ob M capb, .int .i64 ((f : Nat) : Int)] w3 fun e w2 => e = .returned (.int .i64 (D0 : Int)) ∧ w2 = w3) := by
      have := TOPB.out w3 f HB2.out (by have := HF.out; have := LM.out; omega) HMT.out
      skip
      rw [hD0]; exact this
    have hDD : (D : Int) = (D0 : Int) + 1 := by rw [HD.out, hD0]; rw [if_pos HF0.out]; rfl
    have HDD := Lib.hid hDD; have HD0B := Lib.hid hD0b
    clear hDD hD0
    go_wp2_with fail
    refine TB.out.mono ?_; rintro e w4 ⟨rfl, rfl⟩
    go_wp2_with fail
    rw [← HDD.out]
    clear hD0b
    have TOPR : Hid (∀ W v r, RNum W v r → RLen r ≤ 1000000 → r < 10000 * m → Calls Tryz.prog 115 #[v, .int .i64 ((f : Nat) : Int)] W fun e w2 => e = .returned (.int .i64 ((r / 10000 ^ f : Nat) : Int)) ∧ w2 = W) := fun W v r h1 h2 h3 => by
      have := rtop_any h1 h2 (f := f) (by have := HF.out; have := LM.out; omega) (div_top HMLT.out HF.out.symm h3)
      skip
      exact this
    go_loopw [7, 10] (fun v7 v10 wk => ∃ (j r : Nat), j ≤ K ∧ v10 = .int .i64 ((j : Int) - 1) ∧ Hid (RNum wk v7 r) ∧ Hid (NotIn w1.heap.size v7) ∧ Hid (∃ qs, DivJ la m w wk w1.heap.size j r qs)) (fun _ v10 _ => (intOf v10 + 1).toNat)
    case atStart =>
      refine ⟨K, _, Nat.le_refl _, ?_, HR0.out, HN3.out, ?_⟩
      · rw [show ((K : Nat) : Int) - 1 = (N : Int) - (M : Int) from by have := E1.out; omega]
      · exact ⟨_, DivJ.start (M := M) (by have := HK.out; have := HLA.out; have := HRL.out; have := HM1.out; omega) HM1.out CA.out.1 HMGE.out (by rw [HLA.out]; exact HRW.out) HB1.out.size HB2.out⟩
    case round =>
      obtain ⟨j, r, hj, rfl, hvr, -, hdj⟩ := hrel
      rename World => wk
      obtain ⟨qs, hdj0⟩ := hdj.out
      have DJ := Lib.hid hdj0; clear hdj hdj0
      have hbel : Hid (Below w.heap.size w wk) := DJ.out.2.2.2.2.2.2
      have HJ := Lib.hid hj; clear hj
      cases j with
      | zero =>
        have e0 : ((0 : Nat) : Int) - 1 = -1 := rfl
        rw [e0]
        obtain ⟨k1, k2, k3, k4, k5⟩ := DJ.out.done
        have hrep := Rep.rowAll k1 N (by rw [k2, HLA.out]; exact Nat.le_refl _)
        rw [k2, HLA.out] at hrep
        have HREP := Lib.hid hrep; have K3 := Lib.hid k3; have K4 := Lib.hid k4; have K5 := Lib.hid k5
        have K2 : Hid (qs.length ≤ 1000000000000) := by have := HLA.out; have := LN.out; show _ ≤ _; omega
        clear k1 k2 k3 k4 k5 hrep DJ e0
        go_wp2_with fail
        refine (rtrim_rep HREP.out K2.out).mono ?_; rintro e w5 ⟨v5, rfl, hv5, rfl⟩
        have HV5 := Lib.hid hv5; clear hv5
        go_wp2_with fail
        go_ret2
        exact ⟨_, _, rfl, ⟨_, HV5.out, canon_trim K3.out, by rw [val_trim, K4.out, HVA.out]⟩, by have := hvr.out; rwa [K5.out, HVA.out] at this, hbel.out⟩
      | succ i =>
        have e0 : ((i + 1 : Nat) : Int) - 1 = (i : Int) := by omega
        rw [e0]
        clear e0
        have hin : i < N := by have := HKN.out; have := HJ.out; omega
        have hil : i < la.length := by have := HLA.out; omega
        obtain ⟨b3, f3, hoa3, -, hx⟩ := RA.out.at' hbel.out i hil
        cases hoa3
        have GX : Hid (la[i]? = some la[i]) := List.getElem?_eq_getElem hil
        have hx1 : la[i] < 10000 := CA.out.1.get i hil
        generalize la[i] = x at *
        clear hil
        have hrb : r < m := DJ.out.2.2.2.2.1
        obtain ⟨orr, capr, lr, rfl, rr, cr, hvr2, hlr⟩ := hvr.out.open
        have hrlen : RLen r ≤ 100000 := Nat.le_trans (rlen_mono (Nat.le_of_lt hrb)) LMM.out
        obtain ⟨R, hR⟩ : ∃ R, RLen r = R := ⟨_, rfl⟩
        rw [hR] at rr hlr hrlen ⊢
        have RR := Lib.hid rr; have CR := Lib.hid cr; have HVR2 := Lib.hid hvr2; have HLR := Lib.hid hlr
        have HR9 : Hid (x + 10000 * r < 10000 * m) := by show _ < _; omega
        have HX1 := Lib.hid hx1
        clear hvr rr cr hvr2 hlr hR hrb hx1
        obtain ⟨T, hT⟩ : ∃ T, R + 1 = T := ⟨_, rfl⟩
        have hTi : (R : Int) + 1 = (T : Int) := by omega
        have hT0 : 0 < T := by omega
        have HTW : Hid (wrap64 ((R : Int) + 1) = (T : Int)) := by show _ = _; rw [hTi]; exact IntWalk.wrap64_in _ ⟨by omega, by omega⟩
        have hmkT := fun w => make_ints w (T : Int) (T : Int) (by omega) (by omega) (by omega)
        simp only [Int.toNat_natCast] at hmkT
        have HT := Lib.hid hT
        have HLEN : Hid (R ≤ 100000) := hrlen
        have HIN := Lib.hid hin
        have HX := Lib.hid hx
        have HTI := Lib.hid hTi; have HT0 := Lib.hid hT0
        clear hT hx hTi hT0 hrlen
        have HIQ : wrap64 ((i : Int) - 1) = (i : Int) - 1 := by unfold wrap64; have := LN.out; omega
        have HIQ2 := Lib.hid HIQ; clear HIQ
        have hTw := HTW.out
        try simp only []
        repeat (first | with_reducible apply stop_rg (r := 13) | go_step)
        apply Lib.hid
        clear hmkT hTw
        have hT0 := HT0.out
        have HRN := Lib.hid (Row.new wk .i64 3 (List.replicate T 0))
        have HBN := Lib.hid (below_alloc wk (.cells (ns .i64 (List.replicate T 0)) 3))
        generalize wk.alloc (.cells (ns .i64 (List.replicate T 0)) 3) = wn at *
        have hc1 : wn.cell? ⟨b1, f1 + i, none⟩ = some (.int .i64 (x : Nat)) := keepc HX.out HBN.out
        obtain ⟨cc, hcc, hff⟩ : ∃ v0, wn.cell? ⟨wk.heap.size, 0, none⟩ = some v0 ∧ wn.frozen? ⟨wk.heap.size, 0, none⟩ = false := by
          have h1 := HRN.out
          exact ⟨_, h1.cell 0 (by rw [List.length_replicate]; omega), h1.free _⟩
        have START : Hid (CopyI lr x wk (wn.setCell ⟨wk.heap.size, 0, none⟩ (.int .i64 (x : Int))) 0) := by
          refine ⟨?_, HBN.out.setCell (p := ⟨wk.heap.size, 0, none⟩) (Nat.le_refl _) _⟩
          have := HRN.out.set 0 x
          rw [← HT.out, List.replicate_succ, List.set_cons_zero] at this
          rw [HLR.out, List.take_zero, Nat.zero_add, Nat.add_sub_cancel]
          exact this
        go_wp2_with fail
        clear hc1 hcc hff
        go_loopw [12] (fun v12 wr => ∃ k : Nat, k ≤ R ∧ v12 = .int .i64 (k : Nat) ∧ Hid (CopyI lr x wk wr k)) (fun v12 _ => R - (intOf v12).toNat)
        case atStart => exact ⟨0, Nat.zero_le _, rfl, START.out⟩
        case round =>
          clear START
          rename World => wr
          obtain ⟨k, hk, rfl, hcp⟩ := hrel
          have CP := Lib.hid hcp.out; clear hcp
          by_cases hkR : k < R
          · have hkl : k < lr.length := by have := HLR.out; omega
            obtain ⟨b4, f4, ho4, -, hy⟩ := RR.out.at' CP.out.2 k hkl
            subst ho4
            have GY : Hid (lr[k]? = some lr[k]) := List.getElem?_eq_getElem hkl
            have HLK := Lib.hid hkl
            generalize lr[k] = y at *
            clear hkl
            have HKR := Lib.hid hkR
            obtain ⟨k1, hk1⟩ : ∃ k1, k1 = k + 1 := ⟨_, rfl⟩
            obtain ⟨cc, hcc, hff⟩ : ∃ v0, wr.cell? ⟨wk.heap.size, k1, none⟩ = some v0 ∧ wr.frozen? ⟨wk.heap.size, k1, none⟩ = false := by
              have h1 := CP.out.1
              exact ⟨_, h1.cell k1 (by have := HLR.out; simp; omega), h1.free _⟩
            have hkT : k1 < T := by have := HT.out; omega
            have HW : Hid (wrap64 ((k : Int) + 1) = (k1 : Int)) := by
              show _ = _
              rw [hk1]; exact IntWalk.wrap64_in _ ⟨by omega, by have := HLEN.out; omega⟩
            have ST : Hid (CopyI lr x wk (wr.setCell ⟨wk.heap.size, k1, none⟩ (.int .i64 (y : Int))) k1) := by rw [hk1]; exact CP.out.step HLK.out GY.out (z := (y : Int)) rfl
            have HK1 := Lib.hid hk1
            clear CP hk1 hk
            have hw := HW.out
            go_wp2_with fail
            clear hw
            go_roundw
            case rel => exact ⟨k1, by have := HK1.out; have := HKR.out; omega, congrArg (Value.int .i64) HW.out, ST.out⟩
            case measure => rw [HW.out]; have := HK1.out; have := HKR.out; simp [intOf]; omega
          · have hkR2 : k = lr.length := by have := HLR.out; omega
            have CP2 : CopyI lr x wk wr lr.length := by have := CP.out; rwa [hkR2] at this
            obtain ⟨c1, c2⟩ := CP2.done
            have hlx : (x :: lr).length = T := by rw [List.length_cons, HLR.out]; exact HT.out
            have hrep := Rep.rowAll c1 T (by omega)
            rw [hlx] at hrep
            have HREP := Lib.hid hrep; have C2 := Lib.hid c2
            have HLX : Hid ((x :: lr).length ≤ 1000000000000) := by show _ ≤ _; rw [hlx]; have := HT.out; have := HLEN.out; omega
            clear CP CP2 c1 c2 hlx hrep hkR2
            obtain ⟨r2, hr2⟩ : ∃ r2, r2 = x + 10000 * r := ⟨_, rfl⟩
            have HR2 := Lib.hid hr2
            have hr2m : r2 < 10000 * m := by rw [hr2]; exact HR9.out
            have HR2M := Lib.hid hr2m
            have HR2L : Hid (RLen r2 ≤ 100001) := by
              have h1 : r2 < 10000 ^ (M + 1) := by rw [Nat.pow_succ]; have := HMLT.out; omega
              have := rlen_lt h1
              have := LM.out
              show _ ≤ _; omega
            obtain ⟨P, hP⟩ : ∃ P, P = r2 / 10000 ^ f := ⟨_, rfl⟩
            have HPB : Hid (P < 1000000000000) := by show _ < _; rw [hP]; exact div_top HMLT.out HF.out.symm hr2m
            obtain ⟨q0, hq0⟩ : ∃ q0, q0 = P / D := ⟨_, rfl⟩
            have HQ0B : Hid (q0 < 1000000000000) := by show _ < _; rw [hq0]; exact Nat.lt_of_le_of_lt (Nat.div_le_self _ _) HPB.out
            have HQM : Hid (m * q0 ≤ r2) := by show _ ≤ _; rw [hq0, hP, Nat.mul_comm]; exact div_guess HD.out
            have hquo : wrap64 ((P : Int) / (D : Int)) = (q0 : Int) := by
              rw [← Int.natCast_ediv, ← hq0]; exact IntWalk.wrap64_in _ ⟨by omega, by have := HQ0B.out; omega⟩
            have HQUO := Lib.hid hquo
            have HP := Lib.hid hP
            clear hr2 hr2m hP hq0 hquo
            go_wp2_with fail
            refine (rtrim_rep HREP.out HLX.out).mono ?_; rintro e w5 ⟨v5, rfl, hv5, rfl⟩
            have HV5 : Hid (RNum w5 v5 r2) := ⟨_, hv5, canon_trim (CR.out.1.cons HX1.out), by rw [val_trim, val_cons, HVR2.out]; exact HR2.out.symm⟩
            clear hv5
            go_wp2_with fail
            refine (TOPR.out w5 v5 r2 HV5.out (by have := HR2L.out; omega) HR2M.out).mono ?_; rintro e w6 ⟨rfl, rfl⟩
            rw [← HP.out]
            have hDn : ¬ (D : Int) = 0 := by have := HDP.out; omega
            go_wp2_with fail
            rw [HQUO.out]
            clear hDn
            refine (MULD.out w6 q0 (bstep hbel.out C2.out) (by have := HQ0B.out; omega)).mono ?_; rintro e w7 ⟨v7, rfl, hv7, hb7⟩
            have HV7 := Lib.hid hv7; have HB7 := Lib.hid hb7; clear hv7 hb7
            go_wp2_with fail
            refine (rsub_at (HV5.out.go HB7.out) HV7.out HQM.out (by have := HR2L.out; omega)).mono ?_; rintro e w8 ⟨v8, rfl, hv8, hb8, k8, c8, hk8⟩
            have HN8 : Hid (NotIn w1.heap.size v8) := fun b off n c h => by
              rw [hk8] at h; cases h
              have h1 := DJ.out.1.lt; have h2 := C2.out.size; have h3 := HB7.out.size; omega
            clear hk8
            have HV8 := Lib.hid hv8; have HB8 := Lib.hid (bstep C2.out (bstep HB7.out hb8)); clear hv8 hb8
            go_wp2_with fail
            go_loopw [7, 13] (fun vr vq wt => ∃ q r1 : Nat, vq = .int .i64 (q : Nat) ∧ Hid (RNum wt vr r1) ∧ Hid (NotIn w1.heap.size vr) ∧ Hid (q * m + r1 = r2) ∧ Hid (Below wk.heap.size wk wt)) (fun _ vq _ => 10000 - (intOf vq).toNat)
            case atStart => exact ⟨q0, r2 - m * q0, rfl, HV8.out, HN8.out, by have := HQM.out; rw [Nat.mul_comm q0]; show _ = _; omega, HB8.out⟩
            case round =>
              clear HV8 HB8 HV7 HB7
              obtain ⟨q, r1, rfl, hv9, hn9, hqr, hb9⟩ := hrel
              rename World => wt
              have hqb : (q + 1) * m ≤ r2 → q + 1 < 10000 := fun h => by
                rcases Nat.lt_or_ge (q + 1) 10000 with h1 | h1
                · exact h1
                · have := Nat.mul_le_mul_right m h1
                  have := HR2M.out; omega
              have HQB := Lib.hid hqb; clear hqb
              have HR1 : Hid (RLen r1 ≤ 100001) := Nat.le_trans (rlen_mono (by have := hqr.out; omega)) HR2L.out
              by_cases hge : m ≤ r1
              · have hcx : ∃ c : Int, cmpN r1 m = c ∧ 0 ≤ c ∧ c ≤ 1 := by
                  unfold cmpN
                  rw [if_neg (by omega)]
                  split
                  · exact ⟨_, rfl, by omega, by omega⟩
                  · exact ⟨_, rfl, by omega, by omega⟩
                obtain ⟨c, hc, hc0, hc1⟩ := hcx
                have HC := Lib.hid hc; clear hc
                have HGE2 := Lib.hid hge; clear hge
                have hq1 : q + 1 < 10000 := HQB.out (by have := hqr.out; have := HGE2.out; rw [Nat.add_mul, Nat.one_mul]; omega)
                have HQ1 := Lib.hid hq1
                have hw : wrap64 ((q : Int) + 1) = ((q + 1 : Nat) : Int) := by unfold wrap64; omega
                have HW := Lib.hid hw
                clear hw hq1
                go_wp2_with fail
                refine (CMP.out wt _ r1 (bstep hbel.out hb9.out) hv9.out HR1.out).mono ?_; rintro e w9 ⟨rfl, hb10⟩; rw [HC.out]
                have HB10 := Lib.hid hb10; clear hb10
                go_wp2_with fail
                refine (SUBB.out w9 _ r1 (bstep (bstep hbel.out hb9.out) HB10.out) (hv9.out.go HB10.out) HR1.out HGE2.out).mono ?_; rintro e w10 ⟨v10, rfl, hv10, hb11, k10, c10, hk10⟩
                have HN10 : Hid (NotIn w1.heap.size v10) := fun b off n c h => by
                  rw [hk10] at h; cases h
                  have h1 := DJ.out.1.lt; have h2 := hb9.out.size; have h3 := HB10.out.size; omega
                clear hk10
                have HV10 := Lib.hid hv10; have HB11 := Lib.hid hb11; clear hv10 hb11
                go_wp2_with fail
                go_roundw
                case rel => exact ⟨q + 1, r1 - m, congrArg (Value.int .i64) HW.out, HV10.out, HN10.out, by have := hqr.out; have := HGE2.out; show _ = _; rw [Nat.add_mul, Nat.one_mul]; omega, bstep hb9.out (bstep HB10.out HB11.out)⟩
                case measure => rw [HW.out]; have := HQ1.out; simp [intOf]; omega
              · have hc : Hid (cmpN r1 m = -1) := by show _ = _; unfold cmpN; rw [if_pos (by omega)]
                have HDM : Hid (q = r2 / m ∧ r1 = r2 % m) := by
                  have h9 := hqr.out
                  have h8 : r2 / m = q ∧ r2 % m = r1 := by
                    rw [Nat.div_mod_unique HM0.out]
                    exact ⟨by rw [Nat.mul_comm]; omega, by omega⟩
                  exact ⟨h8.1.symm, h8.2.symm⟩
                clear hge
                go_wp2_with fail
                refine (CMP.out wt _ r1 (bstep hbel.out hb9.out) hv9.out HR1.out).mono ?_; rintro e w9 ⟨rfl, hb10⟩; rw [hc.out]
                have HB10 := Lib.hid hb10; clear hb10
                have DJ2 := Lib.hid (DJ.out.go (bstep hb9.out HB10.out))
                obtain ⟨cc, hcc, hff⟩ : ∃ v0, w9.cell? ⟨w1.heap.size, i, none⟩ = some v0 ∧ w9.frozen? ⟨w1.heap.size, i, none⟩ = false := by
                  have h1 := DJ2.out.1
                  exact ⟨_, h1.cell i (by rw [List.length_append, List.length_replicate]; omega), h1.free _⟩
                have ST := Lib.hid (DJ2.out.step HM0.out GX.out HX1.out (z := (q : Int)) (by rw [HDM.out.1, HR2.out]))
                have HRN := Lib.hid (((hv9.out.go HB10.out).set_far (i := i) (x := .int .i64 (q : Int)) hn9.out))
                have HRN2 : Hid (r1 = (x + 10000 * r) % m) := by show _ = _; rw [← HR2.out]; exact HDM.out.2
                go_wp2_with fail
                go_roundw
                case rel => exact ⟨i, _, by have := HJ.out; omega, by first | with_reducible rfl | exact congrArg (Value.int .i64) HIQ2.out, by have := HRN.out; rwa [HRN2.out] at this, hn9.out, _, ST.out⟩
                case measure => first | (rw [HIQ2.out]; simp [intOf]) | simp [intOf]
  · by_cases hKc : K < capa
    · obtain ⟨f, hf⟩ : ∃ f, M - 2 = f := ⟨_, rfl⟩
      have hf0 : ¬ 0 < f := by omega
      have hfz : f = 0 := by omega
      have hfi : ((f : Nat) : Int) = 0 := by omega
      have HFI := Lib.hid hfi; clear hfz hfi
      have HF := Lib.hid hf; have HF0 := Lib.hid hf0
      have HMT : Hid (m / 10000 ^ f < 1000000000000) := div_top HMLT.out hf.symm (by have := HM0.out; omega)
      obtain ⟨D, hD⟩ : ∃ D, D = m / 10000 ^ f + (if 0 < f then 1 else 0) := ⟨_, rfl⟩
      have HD := Lib.hid hD
      have HDB : Hid (D ≤ 1000000000000) := by
        have := HMT.out
        show _ ≤ _
        rw [hD]; generalize m / 10000 ^ f = q at *; split <;> omega
      have HDP : Hid (0 < D) := by
        show 0 < D
        rw [hD]
        by_cases h : 0 < f
        · rw [if_pos h]; exact Nat.succ_pos _
        · have : f = 0 := by omega
          rw [if_neg h, this, Nat.pow_zero, Nat.div_one]
          exact HM0.out
      clear hf hD
      go_enter Tryz.func92, Tryz.ntmps92
      go_wp2_with fail
      refine (CMP.out w _ _ (Below.refl _ _) HA.out (by have := LNN.out; omega)).mono ?_; rintro e w1 ⟨rfl, hb1⟩; rw [HRC.out]
      have HB1 := Lib.hid hb1; clear hb1
      go_wp2_with (at_builtin; refine stop_op 31 rfl ?_)
      apply Lib.hid
      refine wpList_append_own _ rfl (.tmp 22) (.tmp 30) 74 rfl (w1.heap.size + 1) 3 i0 (.int .i64 0) 1 8 Tryz.underlying74 hi hz0 hz1 hz2 rfl (by decide) (.slice (some ⟨w1.heap.size + 1, 0, none⟩) 0 0) 0 [] rfl (own_new _ _ (by simp)) ⟨b1, f1 + K, none⟩ (N - K) (capa - K) (nl .i64 (la.drop K)) rfl (by rw [nl_length, List.length_drop, HLA.out, Nat.mul_one]) (HSRC.out _ ((HB1.out.alloc HB1.out.size _).alloc (by simp; have := HB1.out.size; omega) _)) (by intro u hu; rw [nl, List.mem_map] at hu; obtain ⟨x, -, rfl⟩ := hu; rfl) (by unfold maxLen; have := LN.out; omega) (by have := LN.out; omega) (by simp) ?_
      intro v' w2 hown1 hgrow1 _
      rw [List.nil_append] at hown1
      have HRV := Lib.hid (Rep.own hown1)
      have HNV : Hid (NotIn w1.heap.size v') := fun b off n c h => by
        obtain ⟨-, h2⟩ := hown1
        rcases h2 with ⟨h2, -⟩ | ⟨g, cap, cur, h2, h3, -⟩
        · rw [h2] at h; cases h
        · rw [h2] at h; cases h; omega
      have HRW : Hid (Row w2 w1.heap.size .i64 3 (List.replicate N 0)) := (hgrow1.block w1.heap.size (by simp; omega) (by simp [Value.ownBlock])).trans ((Row.new w1 .i64 3 _).alloc _)
      have HB2 : Hid (Below w.heap.size w w2) := ((HB1.out.alloc HB1.out.size _).alloc (by simp; have := HB1.out.size; omega) _).grown hgrow1 (by simp; have := HB1.out.size; omega) (fun k hk => by simp [Value.ownBlock] at hk; have := HB1.out.size; omega)
      go_wp2_with fail
      refine (rtrim_repN HRV.out HNV.out (by rw [List.length_drop]; have := HLA.out; have := LN.out; omega)).mono ?_; rintro e w3 ⟨v3, rfl, hv3, rfl, hn3⟩
      have HN3 := Lib.hid hn3; clear hn3
      have HR0 : Hid (RNum w3 v3 (val 10000 (la.drop K))) := ⟨_, hv3, canon_trim (CA.out.1.drop K), val_trim _ _⟩
      clear hv3 hown1 hgrow1
      obtain ⟨D0, hD0⟩ : ∃ D0, D0 = m / 10000 ^ f := ⟨_, rfl⟩
      have hD0b : D0 ≤ 1000000000000 := by have := HMT.out; rw [hD0]; omega
      have TB : Hid (Calls Tryz.prog 115 #[.slice ob M capb, .int .i64 0] w3 fun e w2 => e = .returned (.int .i64 (D0 : Int)) ∧ w2 = w3) := by
        have := TOPB.out w3 f HB2.out (by have := HF.out; have := LM.out; omega) HMT.out
        rw [HFI.out] at this
        rw [hD0]; exact this
      have hDD : (D : Int) = (D0 : Int) := by rw [HD.out, hD0]; rw [if_neg HF0.out]; rfl
      have HDD := Lib.hid hDD; have HD0B := Lib.hid hD0b
      clear hDD hD0
      go_wp2_with fail
      refine TB.out.mono ?_; rintro e w4 ⟨rfl, rfl⟩
      go_wp2_with fail
      rw [← HDD.out]
      clear hD0b
      have TOPR : Hid (∀ W v r, RNum W v r → RLen r ≤ 1000000 → r < 10000 * m → Calls Tryz.prog 115 #[v, .int .i64 0] W fun e w2 => e = .returned (.int .i64 ((r / 10000 ^ f : Nat) : Int)) ∧ w2 = W) := fun W v r h1 h2 h3 => by
        have := rtop_any h1 h2 (f := f) (by have := HF.out; have := LM.out; omega) (div_top HMLT.out HF.out.symm h3)
        rw [HFI.out] at this
        exact this
      go_loopw [7, 10] (fun v7 v10 wk => ∃ (j r : Nat), j ≤ K ∧ v10 = .int .i64 ((j : Int) - 1) ∧ Hid (RNum wk v7 r) ∧ Hid (NotIn w1.heap.size v7) ∧ Hid (∃ qs, DivJ la m w wk w1.heap.size j r qs)) (fun _ v10 _ => (intOf v10 + 1).toNat)
      case atStart =>
        refine ⟨K, _, Nat.le_refl _, ?_, HR0.out, HN3.out, ?_⟩
        · rw [show ((K : Nat) : Int) - 1 = (N : Int) - (M : Int) from by have := E1.out; omega]
        · exact ⟨_, DivJ.start (M := M) (by have := HK.out; have := HLA.out; have := HRL.out; have := HM1.out; omega) HM1.out CA.out.1 HMGE.out (by rw [HLA.out]; exact HRW.out) HB1.out.size HB2.out⟩
      case round =>
        obtain ⟨j, r, hj, rfl, hvr, -, hdj⟩ := hrel
        rename World => wk
        obtain ⟨qs, hdj0⟩ := hdj.out
        have DJ := Lib.hid hdj0; clear hdj hdj0
        have hbel : Hid (Below w.heap.size w wk) := DJ.out.2.2.2.2.2.2
        have HJ := Lib.hid hj; clear hj
        cases j with
        | zero =>
          have e0 : ((0 : Nat) : Int) - 1 = -1 := rfl
          rw [e0]
          obtain ⟨k1, k2, k3, k4, k5⟩ := DJ.out.done
          have hrep := Rep.rowAll k1 N (by rw [k2, HLA.out]; exact Nat.le_refl _)
          rw [k2, HLA.out] at hrep
          have HREP := Lib.hid hrep; have K3 := Lib.hid k3; have K4 := Lib.hid k4; have K5 := Lib.hid k5
          have K2 : Hid (qs.length ≤ 1000000000000) := by have := HLA.out; have := LN.out; show _ ≤ _; omega
          clear k1 k2 k3 k4 k5 hrep DJ e0
          go_wp2_with fail
          refine (rtrim_rep HREP.out K2.out).mono ?_; rintro e w5 ⟨v5, rfl, hv5, rfl⟩
          have HV5 := Lib.hid hv5; clear hv5
          go_wp2_with fail
          go_ret2
          exact ⟨_, _, rfl, ⟨_, HV5.out, canon_trim K3.out, by rw [val_trim, K4.out, HVA.out]⟩, by have := hvr.out; rwa [K5.out, HVA.out] at this, hbel.out⟩
        | succ i =>
          have e0 : ((i + 1 : Nat) : Int) - 1 = (i : Int) := by omega
          rw [e0]
          clear e0
          have hin : i < N := by have := HKN.out; have := HJ.out; omega
          have hil : i < la.length := by have := HLA.out; omega
          obtain ⟨b3, f3, hoa3, -, hx⟩ := RA.out.at' hbel.out i hil
          cases hoa3
          have GX : Hid (la[i]? = some la[i]) := List.getElem?_eq_getElem hil
          have hx1 : la[i] < 10000 := CA.out.1.get i hil
          generalize la[i] = x at *
          clear hil
          have hrb : r < m := DJ.out.2.2.2.2.1
          obtain ⟨orr, capr, lr, rfl, rr, cr, hvr2, hlr⟩ := hvr.out.open
          have hrlen : RLen r ≤ 100000 := Nat.le_trans (rlen_mono (Nat.le_of_lt hrb)) LMM.out
          obtain ⟨R, hR⟩ : ∃ R, RLen r = R := ⟨_, rfl⟩
          rw [hR] at rr hlr hrlen ⊢
          have RR := Lib.hid rr; have CR := Lib.hid cr; have HVR2 := Lib.hid hvr2; have HLR := Lib.hid hlr
          have HR9 : Hid (x + 10000 * r < 10000 * m) := by show _ < _; omega
          have HX1 := Lib.hid hx1
          clear hvr rr cr hvr2 hlr hR hrb hx1
          obtain ⟨T, hT⟩ : ∃ T, R + 1 = T := ⟨_, rfl⟩
          have hTi : (R : Int) + 1 = (T : Int) := by omega
          have hT0 : 0 < T := by omega
          have HTW : Hid (wrap64 ((R : Int) + 1) = (T : Int)) := by show _ = _; rw [hTi]; exact IntWalk.wrap64_in _ ⟨by omega, by omega⟩
          have hmkT := fun w => make_ints w (T : Int) (T : Int) (by omega) (by omega) (by omega)
          simp only [Int.toNat_natCast] at hmkT
          have HT := Lib.hid hT
          have HLEN : Hid (R ≤ 100000) := hrlen
          have HIN := Lib.hid hin
          have HX := Lib.hid hx
          have HTI := Lib.hid hTi; have HT0 := Lib.hid hT0
          clear hT hx hTi hT0 hrlen
          have HIQ : wrap64 ((i : Int) - 1) = (i : Int) - 1 := by unfold wrap64; have := LN.out; omega
          have HIQ2 := Lib.hid HIQ; clear HIQ
          have hTw := HTW.out
          try simp only []
          repeat (first | with_reducible apply stop_rg (r := 13) | go_step)
          apply Lib.hid
          clear hmkT hTw
          have hT0 := HT0.out
          have HRN := Lib.hid (Row.new wk .i64 3 (List.replicate T 0))
          have HBN := Lib.hid (below_alloc wk (.cells (ns .i64 (List.replicate T 0)) 3))
          generalize wk.alloc (.cells (ns .i64 (List.replicate T 0)) 3) = wn at *
          have hc1 : wn.cell? ⟨b1, f1 + i, none⟩ = some (.int .i64 (x : Nat)) := keepc HX.out HBN.out
          obtain ⟨cc, hcc, hff⟩ : ∃ v0, wn.cell? ⟨wk.heap.size, 0, none⟩ = some v0 ∧ wn.frozen? ⟨wk.heap.size, 0, none⟩ = false := by
            have h1 := HRN.out
            exact ⟨_, h1.cell 0 (by rw [List.length_replicate]; omega), h1.free _⟩
          have START : Hid (CopyI lr x wk (wn.setCell ⟨wk.heap.size, 0, none⟩ (.int .i64 (x : Int))) 0) := by
            refine ⟨?_, HBN.out.setCell (p := ⟨wk.heap.size, 0, none⟩) (Nat.le_refl _) _⟩
            have := HRN.out.set 0 x
            rw [← HT.out, List.replicate_succ, List.set_cons_zero] at this
            rw [HLR.out, List.take_zero, Nat.zero_add, Nat.add_sub_cancel]
            exact this
          go_wp2_with fail
          clear hc1 hcc hff
          go_loopw [12] (fun v12 wr => ∃ k : Nat, k ≤ R ∧ v12 = .int .i64 (k : Nat) ∧ Hid (CopyI lr x wk wr k)) (fun v12 _ => R - (intOf v12).toNat)
          case atStart => exact ⟨0, Nat.zero_le _, rfl, START.out⟩
          case round =>
            clear START
            rename World => wr
            obtain ⟨k, hk, rfl, hcp⟩ := hrel
            have CP := Lib.hid hcp.out; clear hcp
            by_cases hkR : k < R
            · have hkl : k < lr.length := by have := HLR.out; omega
              obtain ⟨b4, f4, ho4, -, hy⟩ := RR.out.at' CP.out.2 k hkl
              subst ho4
              have GY : Hid (lr[k]? = some lr[k]) := List.getElem?_eq_getElem hkl
              have HLK := Lib.hid hkl
              generalize lr[k] = y at *
              clear hkl
              have HKR := Lib.hid hkR
              obtain ⟨k1, hk1⟩ : ∃ k1, k1 = k + 1 := ⟨_, rfl⟩
              obtain ⟨cc, hcc, hff⟩ : ∃ v0, wr.cell? ⟨wk.heap.size, k1, none⟩ = some v0 ∧ wr.frozen? ⟨wk.heap.size, k1, none⟩ = false := by
                have h1 := CP.out.1
                exact ⟨_, h1.cell k1 (by have := HLR.out; simp; omega), h1.free _⟩
              have hkT : k1 < T := by have := HT.out; omega
              have HW : Hid (wrap64 ((k : Int) + 1) = (k1 : Int)) := by
                show _ = _
                rw [hk1]; exact IntWalk.wrap64_in _ ⟨by omega, by have := HLEN.out; omega⟩
              have ST : Hid (CopyI lr x wk (wr.setCell ⟨wk.heap.size, k1, none⟩ (.int .i64 (y : Int))) k1) := by rw [hk1]; exact CP.out.step HLK.out GY.out (z := (y : Int)) rfl
              have HK1 := Lib.hid hk1
              clear CP hk1 hk
              have hw := HW.out
              go_wp2_with fail
              clear hw
              go_roundw
              case rel => exact ⟨k1, by have := HK1.out; have := HKR.out; omega, congrArg (Value.int .i64) HW.out, ST.out⟩
              case measure => rw [HW.out]; have := HK1.out; have := HKR.out; simp [intOf]; omega
            · have hkR2 : k = lr.length := by have := HLR.out; omega
              have CP2 : CopyI lr x wk wr lr.length := by have := CP.out; rwa [hkR2] at this
              obtain ⟨c1, c2⟩ := CP2.done
              have hlx : (x :: lr).length = T := by rw [List.length_cons, HLR.out]; exact HT.out
              have hrep := Rep.rowAll c1 T (by omega)
              rw [hlx] at hrep
              have HREP := Lib.hid hrep; have C2 := Lib.hid c2
              have HLX : Hid ((x :: lr).length ≤ 1000000000000) := by show _ ≤ _; rw [hlx]; have := HT.out; have := HLEN.out; omega
              clear CP CP2 c1 c2 hlx hrep hkR2
              obtain ⟨r2, hr2⟩ : ∃ r2, r2 = x + 10000 * r := ⟨_, rfl⟩
              have HR2 := Lib.hid hr2
              have hr2m : r2 < 10000 * m := by rw [hr2]; exact HR9.out
              have HR2M := Lib.hid hr2m
              have HR2L : Hid (RLen r2 ≤ 100001) := by
                have h1 : r2 < 10000 ^ (M + 1) := by rw [Nat.pow_succ]; have := HMLT.out; omega
                have := rlen_lt h1
                have := LM.out
                show _ ≤ _; omega
              obtain ⟨P, hP⟩ : ∃ P, P = r2 / 10000 ^ f := ⟨_, rfl⟩
              have HPB : Hid (P < 1000000000000) := by show _ < _; rw [hP]; exact div_top HMLT.out HF.out.symm hr2m
              obtain ⟨q0, hq0⟩ : ∃ q0, q0 = P / D := ⟨_, rfl⟩
              have HQ0B : Hid (q0 < 1000000000000) := by show _ < _; rw [hq0]; exact Nat.lt_of_le_of_lt (Nat.div_le_self _ _) HPB.out
              have HQM : Hid (m * q0 ≤ r2) := by show _ ≤ _; rw [hq0, hP, Nat.mul_comm]; exact div_guess HD.out
              have hquo : wrap64 ((P : Int) / (D : Int)) = (q0 : Int) := by
                rw [← Int.natCast_ediv, ← hq0]; exact IntWalk.wrap64_in _ ⟨by omega, by have := HQ0B.out; omega⟩
              have HQUO := Lib.hid hquo
              have HP := Lib.hid hP
              clear hr2 hr2m hP hq0 hquo
              go_wp2_with fail
              refine (rtrim_rep HREP.out HLX.out).mono ?_; rintro e w5 ⟨v5, rfl, hv5, rfl⟩
              have HV5 : Hid (RNum w5 v5 r2) := ⟨_, hv5, canon_trim (CR.out.1.cons HX1.out), by rw [val_trim, val_cons, HVR2.out]; exact HR2.out.symm⟩
              clear hv5
              go_wp2_with fail
              refine (TOPR.out w5 v5 r2 HV5.out (by have := HR2L.out; omega) HR2M.out).mono ?_; rintro e w6 ⟨rfl, rfl⟩
              rw [← HP.out]
              have hDn : ¬ (D : Int) = 0 := by have := HDP.out; omega
              go_wp2_with fail
              rw [HQUO.out]
              clear hDn
              refine (MULD.out w6 q0 (bstep hbel.out C2.out) (by have := HQ0B.out; omega)).mono ?_; rintro e w7 ⟨v7, rfl, hv7, hb7⟩
              have HV7 := Lib.hid hv7; have HB7 := Lib.hid hb7; clear hv7 hb7
              go_wp2_with fail
              refine (rsub_at (HV5.out.go HB7.out) HV7.out HQM.out (by have := HR2L.out; omega)).mono ?_; rintro e w8 ⟨v8, rfl, hv8, hb8, k8, c8, hk8⟩
              have HN8 : Hid (NotIn w1.heap.size v8) := fun b off n c h => by
                rw [hk8] at h; cases h
                have h1 := DJ.out.1.lt; have h2 := C2.out.size; have h3 := HB7.out.size; omega
              clear hk8
              have HV8 := Lib.hid hv8; have HB8 := Lib.hid (bstep C2.out (bstep HB7.out hb8)); clear hv8 hb8
              go_wp2_with fail
              go_loopw [7, 13] (fun vr vq wt => ∃ q r1 : Nat, vq = .int .i64 (q : Nat) ∧ Hid (RNum wt vr r1) ∧ Hid (NotIn w1.heap.size vr) ∧ Hid (q * m + r1 = r2) ∧ Hid (Below wk.heap.size wk wt)) (fun _ vq _ => 10000 - (intOf vq).toNat)
              case atStart => exact ⟨q0, r2 - m * q0, rfl, HV8.out, HN8.out, by have := HQM.out; rw [Nat.mul_comm q0]; show _ = _; omega, HB8.out⟩
              case round =>
                clear HV8 HB8 HV7 HB7
                obtain ⟨q, r1, rfl, hv9, hn9, hqr, hb9⟩ := hrel
                rename World => wt
                have hqb : (q + 1) * m ≤ r2 → q + 1 < 10000 := fun h => by
                  rcases Nat.lt_or_ge (q + 1) 10000 with h1 | h1
                  · exact h1
                  · have := Nat.mul_le_mul_right m h1
                    have := HR2M.out; omega
                have HQB := Lib.hid hqb; clear hqb
                have HR1 : Hid (RLen r1 ≤ 100001) := Nat.le_trans (rlen_mono (by have := hqr.out; omega)) HR2L.out
                by_cases hge : m ≤ r1
                · have hcx : ∃ c : Int, cmpN r1 m = c ∧ 0 ≤ c ∧ c ≤ 1 := by
                    unfold cmpN
                    rw [if_neg (by omega)]
                    split
                    · exact ⟨_, rfl, by omega, by omega⟩
                    · exact ⟨_, rfl, by omega, by omega⟩
                  obtain ⟨c, hc, hc0, hc1⟩ := hcx
                  have HC := Lib.hid hc; clear hc
                  have HGE2 := Lib.hid hge; clear hge
                  have hq1 : q + 1 < 10000 := HQB.out (by have := hqr.out; have := HGE2.out; rw [Nat.add_mul, Nat.one_mul]; omega)
                  have HQ1 := Lib.hid hq1
                  have hw : wrap64 ((q : Int) + 1) = ((q + 1 : Nat) : Int) := by unfold wrap64; omega
                  have HW := Lib.hid hw
                  clear hw hq1
                  go_wp2_with fail
                  refine (CMP.out wt _ r1 (bstep hbel.out hb9.out) hv9.out HR1.out).mono ?_; rintro e w9 ⟨rfl, hb10⟩; rw [HC.out]
                  have HB10 := Lib.hid hb10; clear hb10
                  go_wp2_with fail
                  refine (SUBB.out w9 _ r1 (bstep (bstep hbel.out hb9.out) HB10.out) (hv9.out.go HB10.out) HR1.out HGE2.out).mono ?_; rintro e w10 ⟨v10, rfl, hv10, hb11, k10, c10, hk10⟩
                  have HN10 : Hid (NotIn w1.heap.size v10) := fun b off n c h => by
                    rw [hk10] at h; cases h
                    have h1 := DJ.out.1.lt; have h2 := hb9.out.size; have h3 := HB10.out.size; omega
                  clear hk10
                  have HV10 := Lib.hid hv10; have HB11 := Lib.hid hb11; clear hv10 hb11
                  go_wp2_with fail
                  go_roundw
                  case rel => exact ⟨q + 1, r1 - m, congrArg (Value.int .i64) HW.out, HV10.out, HN10.out, by have := hqr.out; have := HGE2.out; show _ = _; rw [Nat.add_mul, Nat.one_mul]; omega, bstep hb9.out (bstep HB10.out HB11.out)⟩
                  case measure => rw [HW.out]; have := HQ1.out; simp [intOf]; omega
                · have hc : Hid (cmpN r1 m = -1) := by show _ = _; unfold cmpN; rw [if_pos (by omega)]
                  have HDM : Hid (q = r2 / m ∧ r1 = r2 % m) := by
                    have h9 := hqr.out
                    have h8 : r2 / m = q ∧ r2 % m = r1 := by
                      rw [Nat.div_mod_unique HM0.out]
                      exact ⟨by rw [Nat.mul_comm]; omega, by omega⟩
                    exact ⟨h8.1.symm, h8.2.symm⟩
                  clear hge
                  go_wp2_with fail
                  refine (CMP.out wt _ r1 (bstep hbel.out hb9.out) hv9.out HR1.out).mono ?_; rintro e w9 ⟨rfl, hb10⟩; rw [hc.out]
                  have HB10 := Lib.hid hb10; clear hb10
                  have DJ2 := Lib.hid (DJ.out.go (bstep hb9.out HB10.out))
                  obtain ⟨cc, hcc, hff⟩ : ∃ v0, w9.cell? ⟨w1.heap.size, i, none⟩ = some v0 ∧ w9.frozen? ⟨w1.heap.size, i, none⟩ = false := by
                    have h1 := DJ2.out.1
                    exact ⟨_, h1.cell i (by rw [List.length_append, List.length_replicate]; omega), h1.free _⟩
                  have ST := Lib.hid (DJ2.out.step HM0.out GX.out HX1.out (z := (q : Int)) (by rw [HDM.out.1, HR2.out]))
                  have HRN := Lib.hid (((hv9.out.go HB10.out).set_far (i := i) (x := .int .i64 (q : Int)) hn9.out))
                  have HRN2 : Hid (r1 = (x + 10000 * r) % m) := by show _ = _; rw [← HR2.out]; exact HDM.out.2
                  go_wp2_with fail
                  go_roundw
                  case rel => exact ⟨i, _, by have := HJ.out; omega, by first | with_reducible rfl | exact congrArg (Value.int .i64) HIQ2.out, by have := HRN.out; rwa [HRN2.out] at this, hn9.out, _, ST.out⟩
                  case measure => first | (rw [HIQ2.out]; simp [intOf]) | simp [intOf]
    · have hKe : K = capa := by omega
      obtain ⟨f, hf⟩ : ∃ f, M - 2 = f := ⟨_, rfl⟩
      have hf0 : ¬ 0 < f := by omega
      have hfz : f = 0 := by omega
      have hfi : ((f : Nat) : Int) = 0 := by omega
      have HFI := Lib.hid hfi; clear hfz hfi
      have HF := Lib.hid hf; have HF0 := Lib.hid hf0
      have HMT : Hid (m / 10000 ^ f < 1000000000000) := div_top HMLT.out hf.symm (by have := HM0.out; omega)
      obtain ⟨D, hD⟩ : ∃ D, D = m / 10000 ^ f + (if 0 < f then 1 else 0) := ⟨_, rfl⟩
      have HD := Lib.hid hD
      have HDB : Hid (D ≤ 1000000000000) := by
        have := HMT.out
        show _ ≤ _
        rw [hD]; generalize m / 10000 ^ f = q at *; split <;> omega
      have HDP : Hid (0 < D) := by
        show 0 < D
        rw [hD]
        by_cases h : 0 < f
        · rw [if_pos h]; exact Nat.succ_pos _
        · have : f = 0 := by omega
          rw [if_neg h, this, Nat.pow_zero, Nat.div_one]
          exact HM0.out
      clear hf hD
      go_enter Tryz.func92, Tryz.ntmps92
      go_wp2_with fail
      refine (CMP.out w _ _ (Below.refl _ _) HA.out (by have := LNN.out; omega)).mono ?_; rintro e w1 ⟨rfl, hb1⟩; rw [HRC.out]
      have HB1 := Lib.hid hb1; clear hb1
      go_wp2_with (at_builtin; refine stop_op 31 rfl ?_)
      apply Lib.hid
      refine wpList_append_own _ rfl (.tmp 22) (.tmp 30) 74 rfl (w1.heap.size + 1) 3 i0 (.int .i64 0) 1 8 Tryz.underlying74 hi hz0 hz1 hz2 rfl (by decide) (.slice (some ⟨w1.heap.size + 1, 0, none⟩) 0 0) 0 [] rfl (own_new _ _ (by simp)) ⟨b1, f1, none⟩ 0 0 (nl .i64 (la.drop K)) rfl (by rw [nl_length, List.length_drop]; have := HLA.out; omega) (fun j u hu => by rw [List.drop_of_length_le (by have := HLA.out; omega)] at hu; simp [nl] at hu) (by intro u hu; rw [nl, List.mem_map] at hu; obtain ⟨x, -, rfl⟩ := hu; rfl) (by unfold maxLen; have := LN.out; omega) (by have := LN.out; omega) (by simp) ?_
      intro v' w2 hown1 hgrow1 _
      rw [List.nil_append] at hown1
      have HRV := Lib.hid (Rep.own hown1)
      have HNV : Hid (NotIn w1.heap.size v') := fun b off n c h => by
        obtain ⟨-, h2⟩ := hown1
        rcases h2 with ⟨h2, -⟩ | ⟨g, cap, cur, h2, h3, -⟩
        · rw [h2] at h; cases h
        · rw [h2] at h; cases h; omega
      have HRW : Hid (Row w2 w1.heap.size .i64 3 (List.replicate N 0)) := (hgrow1.block w1.heap.size (by simp; omega) (by simp [Value.ownBlock])).trans ((Row.new w1 .i64 3 _).alloc _)
      have HB2 : Hid (Below w.heap.size w w2) := ((HB1.out.alloc HB1.out.size _).alloc (by simp; have := HB1.out.size; omega) _).grown hgrow1 (by simp; have := HB1.out.size; omega) (fun k hk => by simp [Value.ownBlock] at hk; have := HB1.out.size; omega)
      go_wp2_with fail
      refine (rtrim_repN HRV.out HNV.out (by rw [List.length_drop]; have := HLA.out; have := LN.out; omega)).mono ?_; rintro e w3 ⟨v3, rfl, hv3, rfl, hn3⟩
      have HN3 := Lib.hid hn3; clear hn3
      have HR0 : Hid (RNum w3 v3 (val 10000 (la.drop K))) := ⟨_, hv3, canon_trim (CA.out.1.drop K), val_trim _ _⟩
      clear hv3 hown1 hgrow1
      obtain ⟨D0, hD0⟩ : ∃ D0, D0 = m / 10000 ^ f := ⟨_, rfl⟩
      have hD0b : D0 ≤ 1000000000000 := by have := HMT.out; rw [hD0]; omega
      have TB : Hid (Calls Tryz.prog 115 #[.slice ob M capb, .int .i64 0] w3 fun e w2 => e = .returned (.int .i64 (D0 : Int)) ∧ w2 = w3) := by
        have := TOPB.out w3 f HB2.out (by have := HF.out; have := LM.out; omega) HMT.out
        rw [HFI.out] at this
        rw [hD0]; exact this
      have hDD : (D : Int) = (D0 : Int) := by rw [HD.out, hD0]; rw [if_neg HF0.out]; rfl
      have HDD := Lib.hid hDD; have HD0B := Lib.hid hD0b
      clear hDD hD0
      go_wp2_with fail
      refine TB.out.mono ?_; rintro e w4 ⟨rfl, rfl⟩
      go_wp2_with fail
      rw [← HDD.out]
      clear hD0b
      have TOPR : Hid (∀ W v r, RNum W v r → RLen r ≤ 1000000 → r < 10000 * m → Calls Tryz.prog 115 #[v, .int .i64 0] W fun e w2 => e = .returned (.int .i64 ((r / 10000 ^ f : Nat) : Int)) ∧ w2 = W) := fun W v r h1 h2 h3 => by
        have := rtop_any h1 h2 (f := f) (by have := HF.out; have := LM.out; omega) (div_top HMLT.out HF.out.symm h3)
        rw [HFI.out] at this
        exact this
      go_loopw [7, 10] (fun v7 v10 wk => ∃ (j r : Nat), j ≤ K ∧ v10 = .int .i64 ((j : Int) - 1) ∧ Hid (RNum wk v7 r) ∧ Hid (NotIn w1.heap.size v7) ∧ Hid (∃ qs, DivJ la m w wk w1.heap.size j r qs)) (fun _ v10 _ => (intOf v10 + 1).toNat)
      case atStart =>
        refine ⟨K, _, Nat.le_refl _, ?_, HR0.out, HN3.out, ?_⟩
        · rw [show ((K : Nat) : Int) - 1 = (N : Int) - (M : Int) from by have := E1.out; omega]
        · exact ⟨_, DivJ.start (M := M) (by have := HK.out; have := HLA.out; have := HRL.out; have := HM1.out; omega) HM1.out CA.out.1 HMGE.out (by rw [HLA.out]; exact HRW.out) HB1.out.size HB2.out⟩
      case round =>
        obtain ⟨j, r, hj, rfl, hvr, -, hdj⟩ := hrel
        rename World => wk
        obtain ⟨qs, hdj0⟩ := hdj.out
        have DJ := Lib.hid hdj0; clear hdj hdj0
        have hbel : Hid (Below w.heap.size w wk) := DJ.out.2.2.2.2.2.2
        have HJ := Lib.hid hj; clear hj
        cases j with
        | zero =>
          have e0 : ((0 : Nat) : Int) - 1 = -1 := rfl
          rw [e0]
          obtain ⟨k1, k2, k3, k4, k5⟩ := DJ.out.done
          have hrep := Rep.rowAll k1 N (by rw [k2, HLA.out]; exact Nat.le_refl _)
          rw [k2, HLA.out] at hrep
          have HREP := Lib.hid hrep; have K3 := Lib.hid k3; have K4 := Lib.hid k4; have K5 := Lib.hid k5
          have K2 : Hid (qs.length ≤ 1000000000000) := by have := HLA.out; have := LN.out; show _ ≤ _; omega
          clear k1 k2 k3 k4 k5 hrep DJ e0
          go_wp2_with fail
          refine (rtrim_rep HREP.out K2.out).mono ?_; rintro e w5 ⟨v5, rfl, hv5, rfl⟩
          have HV5 := Lib.hid hv5; clear hv5
          go_wp2_with fail
          go_ret2
          exact ⟨_, _, rfl, ⟨_, HV5.out, canon_trim K3.out, by rw [val_trim, K4.out, HVA.out]⟩, by have := hvr.out; rwa [K5.out, HVA.out] at this, hbel.out⟩
        | succ i =>
          have e0 : ((i + 1 : Nat) : Int) - 1 = (i : Int) := by omega
          rw [e0]
          clear e0
          have hin : i < N := by have := HKN.out; have := HJ.out; omega
          have hil : i < la.length := by have := HLA.out; omega
          obtain ⟨b3, f3, hoa3, -, hx⟩ := RA.out.at' hbel.out i hil
          cases hoa3
          have GX : Hid (la[i]? = some la[i]) := List.getElem?_eq_getElem hil
          have hx1 : la[i] < 10000 := CA.out.1.get i hil
          generalize la[i] = x at *
          clear hil
          have hrb : r < m := DJ.out.2.2.2.2.1
          obtain ⟨orr, capr, lr, rfl, rr, cr, hvr2, hlr⟩ := hvr.out.open
          have hrlen : RLen r ≤ 100000 := Nat.le_trans (rlen_mono (Nat.le_of_lt hrb)) LMM.out
          obtain ⟨R, hR⟩ : ∃ R, RLen r = R := ⟨_, rfl⟩
          rw [hR] at rr hlr hrlen ⊢
          have RR := Lib.hid rr; have CR := Lib.hid cr; have HVR2 := Lib.hid hvr2; have HLR := Lib.hid hlr
          have HR9 : Hid (x + 10000 * r < 10000 * m) := by show _ < _; omega
          have HX1 := Lib.hid hx1
          clear hvr rr cr hvr2 hlr hR hrb hx1
          obtain ⟨T, hT⟩ : ∃ T, R + 1 = T := ⟨_, rfl⟩
          have hTi : (R : Int) + 1 = (T : Int) := by omega
          have hT0 : 0 < T := by omega
          have HTW : Hid (wrap64 ((R : Int) + 1) = (T : Int)) := by show _ = _; rw [hTi]; exact IntWalk.wrap64_in _ ⟨by omega, by omega⟩
          have hmkT := fun w => make_ints w (T : Int) (T : Int) (by omega) (by omega) (by omega)
          simp only [Int.toNat_natCast] at hmkT
          have HT := Lib.hid hT
          have HLEN : Hid (R ≤ 100000) := hrlen
          have HIN := Lib.hid hin
          have HX := Lib.hid hx
          have HTI := Lib.hid hTi; have HT0 := Lib.hid hT0
          clear hT hx hTi hT0 hrlen
          have HIQ : wrap64 ((i : Int) - 1) = (i : Int) - 1 := by unfold wrap64; have := LN.out; omega
          have HIQ2 := Lib.hid HIQ; clear HIQ
          have hTw := HTW.out
          try simp only []
          repeat (first | with_reducible apply stop_rg (r := 13) | go_step)
          apply Lib.hid
          clear hmkT hTw
          have hT0 := HT0.out
          have HRN := Lib.hid (Row.new wk .i64 3 (List.replicate T 0))
          have HBN := Lib.hid (below_alloc wk (.cells (ns .i64 (List.replicate T 0)) 3))
          generalize wk.alloc (.cells (ns .i64 (List.replicate T 0)) 3) = wn at *
          have hc1 : wn.cell? ⟨b1, f1 + i, none⟩ = some (.int .i64 (x : Nat)) := keepc HX.out HBN.out
          obtain ⟨cc, hcc, hff⟩ : ∃ v0, wn.cell? ⟨wk.heap.size, 0, none⟩ = some v0 ∧ wn.frozen? ⟨wk.heap.size, 0, none⟩ = false := by
            have h1 := HRN.out
            exact ⟨_, h1.cell 0 (by rw [List.length_replicate]; omega), h1.free _⟩
          have START : Hid (CopyI lr x wk (wn.setCell ⟨wk.heap.size, 0, none⟩ (.int .i64 (x : Int))) 0) := by
            refine ⟨?_, HBN.out.setCell (p := ⟨wk.heap.size, 0, none⟩) (Nat.le_refl _) _⟩
            have := HRN.out.set 0 x
            rw [← HT.out, List.replicate_succ, List.set_cons_zero] at this
            rw [HLR.out, List.take_zero, Nat.zero_add, Nat.add_sub_cancel]
            exact this
          go_wp2_with fail
          clear hc1 hcc hff
          go_loopw [12] (fun v12 wr => ∃ k : Nat, k ≤ R ∧ v12 = .int .i64 (k : Nat) ∧ Hid (CopyI lr x wk wr k)) (fun v12 _ => R - (intOf v12).toNat)
          case atStart => exact ⟨0, Nat.zero_le _, rfl, START.out⟩
          case round =>
            clear START
            rename World => wr
            obtain ⟨k, hk, rfl, hcp⟩ := hrel
            have CP := Lib.hid hcp.out; clear hcp
            by_cases hkR : k < R
            · have hkl : k < lr.length := by have := HLR.out; omega
              obtain ⟨b4, f4, ho4, -, hy⟩ := RR.out.at' CP.out.2 k hkl
              subst ho4
              have GY : Hid (lr[k]? = some lr[k]) := List.getElem?_eq_getElem hkl
              have HLK := Lib.hid hkl
              generalize lr[k] = y at *
              clear hkl
              have HKR := Lib.hid hkR
              obtain ⟨k1, hk1⟩ : ∃ k1, k1 = k + 1 := ⟨_, rfl⟩
              obtain ⟨cc, hcc, hff⟩ : ∃ v0, wr.cell? ⟨wk.heap.size, k1, none⟩ = some v0 ∧ wr.frozen? ⟨wk.heap.size, k1, none⟩ = false := by
                have h1 := CP.out.1
                exact ⟨_, h1.cell k1 (by have := HLR.out; simp; omega), h1.free _⟩
              have hkT : k1 < T := by have := HT.out; omega
              have HW : Hid (wrap64 ((k : Int) + 1) = (k1 : Int)) := by
                show _ = _
                rw [hk1]; exact IntWalk.wrap64_in _ ⟨by omega, by have := HLEN.out; omega⟩
              have ST : Hid (CopyI lr x wk (wr.setCell ⟨wk.heap.size, k1, none⟩ (.int .i64 (y : Int))) k1) := by rw [hk1]; exact CP.out.step HLK.out GY.out (z := (y : Int)) rfl
              have HK1 := Lib.hid hk1
              clear CP hk1 hk
              have hw := HW.out
              go_wp2_with fail
              clear hw
              go_roundw
              case rel => exact ⟨k1, by have := HK1.out; have := HKR.out; omega, congrArg (Value.int .i64) HW.out, ST.out⟩
              case measure => rw [HW.out]; have := HK1.out; have := HKR.out; simp [intOf]; omega
            · have hkR2 : k = lr.length := by have := HLR.out; omega
              have CP2 : CopyI lr x wk wr lr.length := by have := CP.out; rwa [hkR2] at this
              obtain ⟨c1, c2⟩ := CP2.done
              have hlx : (x :: lr).length = T := by rw [List.length_cons, HLR.out]; exact HT.out
              have hrep := Rep.rowAll c1 T (by omega)
              rw [hlx] at hrep
              have HREP := Lib.hid hrep; have C2 := Lib.hid c2
              have HLX : Hid ((x :: lr).length ≤ 1000000000000) := by show _ ≤ _; rw [hlx]; have := HT.out; have := HLEN.out; omega
              clear CP CP2 c1 c2 hlx hrep hkR2
              obtain ⟨r2, hr2⟩ : ∃ r2, r2 = x + 10000 * r := ⟨_, rfl⟩
              have HR2 := Lib.hid hr2
              have hr2m : r2 < 10000 * m := by rw [hr2]; exact HR9.out
              have HR2M := Lib.hid hr2m
              have HR2L : Hid (RLen r2 ≤ 100001) := by
                have h1 : r2 < 10000 ^ (M + 1) := by rw [Nat.pow_succ]; have := HMLT.out; omega
                have := rlen_lt h1
                have := LM.out
                show _ ≤ _; omega
              obtain ⟨P, hP⟩ : ∃ P, P = r2 / 10000 ^ f := ⟨_, rfl⟩
              have HPB : Hid (P < 1000000000000) := by show _ < _; rw [hP]; exact div_top HMLT.out HF.out.symm hr2m
              obtain ⟨q0, hq0⟩ : ∃ q0, q0 = P / D := ⟨_, rfl⟩
              have HQ0B : Hid (q0 < 1000000000000) := by show _ < _; rw [hq0]; exact Nat.lt_of_le_of_lt (Nat.div_le_self _ _) HPB.out
              have HQM : Hid (m * q0 ≤ r2) := by show _ ≤ _; rw [hq0, hP, Nat.mul_comm]; exact div_guess HD.out
              have hquo : wrap64 ((P : Int) / (D : Int)) = (q0 : Int) := by
                rw [← Int.natCast_ediv, ← hq0]; exact IntWalk.wrap64_in _ ⟨by omega, by have := HQ0B.out; omega⟩
              have HQUO := Lib.hid hquo
              have HP := Lib.hid hP
              clear hr2 hr2m hP hq0 hquo
              go_wp2_with fail
              refine (rtrim_rep HREP.out HLX.out).mono ?_; rintro e w5 ⟨v5, rfl, hv5, rfl⟩
              have HV5 : Hid (RNum w5 v5 r2) := ⟨_, hv5, canon_trim (CR.out.1.cons HX1.out), by rw [val_trim, val_cons, HVR2.out]; exact HR2.out.symm⟩
              clear hv5
              go_wp2_with fail
              refine (TOPR.out w5 v5 r2 HV5.out (by have := HR2L.out; omega) HR2M.out).mono ?_; rintro e w6 ⟨rfl, rfl⟩
              rw [← HP.out]
              have hDn : ¬ (D : Int) = 0 := by have := HDP.out; omega
              go_wp2_with fail
              rw [HQUO.out]
              clear hDn
              refine (MULD.out w6 q0 (bstep hbel.out C2.out) (by have := HQ0B.out; omega)).mono ?_; rintro e w7 ⟨v7, rfl, hv7, hb7⟩
              have HV7 := Lib.hid hv7; have HB7 := Lib.hid hb7; clear hv7 hb7
              go_wp2_with fail
              refine (rsub_at (HV5.out.go HB7.out) HV7.out HQM.out (by have := HR2L.out; omega)).mono ?_; rintro e w8 ⟨v8, rfl, hv8, hb8, k8, c8, hk8⟩
              have HN8 : Hid (NotIn w1.heap.size v8) := fun b off n c h => by
                rw [hk8] at h; cases h
                have h1 := DJ.out.1.lt; have h2 := C2.out.size; have h3 := HB7.out.size; omega
              clear hk8
              have HV8 := Lib.hid hv8; have HB8 := Lib.hid (bstep C2.out (bstep HB7.out hb8)); clear hv8 hb8
              go_wp2_with fail
              go_loopw [7, 13] (fun vr vq wt => ∃ q r1 : Nat, vq = .int .i64 (q : Nat) ∧ Hid (RNum wt vr r1) ∧ Hid (NotIn w1.heap.size vr) ∧ Hid (q * m + r1 = r2) ∧ Hid (Below wk.heap.size wk wt)) (fun _ vq _ => 10000 - (intOf vq).toNat)
              case atStart => exact ⟨q0, r2 - m * q0, rfl, HV8.out, HN8.out, by have := HQM.out; rw [Nat.mul_comm q0]; show _ = _; omega, HB8.out⟩
              case round =>
                clear HV8 HB8 HV7 HB7
                obtain ⟨q, r1, rfl, hv9, hn9, hqr, hb9⟩ := hrel
                rename World => wt
                have hqb : (q + 1) * m ≤ r2 → q + 1 < 10000 := fun h => by
                  rcases Nat.lt_or_ge (q + 1) 10000 with h1 | h1
                  · exact h1
                  · have := Nat.mul_le_mul_right m h1
                    have := HR2M.out; omega
                have HQB := Lib.hid hqb; clear hqb
                have HR1 : Hid (RLen r1 ≤ 100001) := Nat.le_trans (rlen_mono (by have := hqr.out; omega)) HR2L.out
                by_cases hge : m ≤ r1
                · have hcx : ∃ c : Int, cmpN r1 m = c ∧ 0 ≤ c ∧ c ≤ 1 := by
                    unfold cmpN
                    rw [if_neg (by omega)]
                    split
                    · exact ⟨_, rfl, by omega, by omega⟩
                    · exact ⟨_, rfl, by omega, by omega⟩
                  obtain ⟨c, hc, hc0, hc1⟩ := hcx
                  have HC := Lib.hid hc; clear hc
                  have HGE2 := Lib.hid hge; clear hge
                  have hq1 : q + 1 < 10000 := HQB.out (by have := hqr.out; have := HGE2.out; rw [Nat.add_mul, Nat.one_mul]; omega)
                  have HQ1 := Lib.hid hq1
                  have hw : wrap64 ((q : Int) + 1) = ((q + 1 : Nat) : Int) := by unfold wrap64; omega
                  have HW := Lib.hid hw
                  clear hw hq1
                  go_wp2_with fail
                  refine (CMP.out wt _ r1 (bstep hbel.out hb9.out) hv9.out HR1.out).mono ?_; rintro e w9 ⟨rfl, hb10⟩; rw [HC.out]
                  have HB10 := Lib.hid hb10; clear hb10
                  go_wp2_with fail
                  refine (SUBB.out w9 _ r1 (bstep (bstep hbel.out hb9.out) HB10.out) (hv9.out.go HB10.out) HR1.out HGE2.out).mono ?_; rintro e w10 ⟨v10, rfl, hv10, hb11, k10, c10, hk10⟩
                  have HN10 : Hid (NotIn w1.heap.size v10) := fun b off n c h => by
                    rw [hk10] at h; cases h
                    have h1 := DJ.out.1.lt; have h2 := hb9.out.size; have h3 := HB10.out.size; omega
                  clear hk10
                  have HV10 := Lib.hid hv10; have HB11 := Lib.hid hb11; clear hv10 hb11
                  go_wp2_with fail
                  go_roundw
                  case rel => exact ⟨q + 1, r1 - m, congrArg (Value.int .i64) HW.out, HV10.out, HN10.out, by have := hqr.out; have := HGE2.out; show _ = _; rw [Nat.add_mul, Nat.one_mul]; omega, bstep hb9.out (bstep HB10.out HB11.out)⟩
                  case measure => rw [HW.out]; have := HQ1.out; simp [intOf]; omega
                · have hc : Hid (cmpN r1 m = -1) := by show _ = _; unfold cmpN; rw [if_pos (by omega)]
                  have HDM : Hid (q = r2 / m ∧ r1 = r2 % m) := by
                    have h9 := hqr.out
                    have h8 : r2 / m = q ∧ r2 % m = r1 := by
                      rw [Nat.div_mod_unique HM0.out]
                      exact ⟨by rw [Nat.mul_comm]; omega, by omega⟩
                    exact ⟨h8.1.symm, h8.2.symm⟩
                  clear hge
                  go_wp2_with fail
                  refine (CMP.out wt _ r1 (bstep hbel.out hb9.out) hv9.out HR1.out).mono ?_; rintro e w9 ⟨rfl, hb10⟩; rw [hc.out]
                  have HB10 := Lib.hid hb10; clear hb10
                  have DJ2 := Lib.hid (DJ.out.go (bstep hb9.out HB10.out))
                  obtain ⟨cc, hcc, hff⟩ : ∃ v0, w9.cell? ⟨w1.heap.size, i, none⟩ = some v0 ∧ w9.frozen? ⟨w1.heap.size, i, none⟩ = false := by
                    have h1 := DJ2.out.1
                    exact ⟨_, h1.cell i (by rw [List.length_append, List.length_replicate]; omega), h1.free _⟩
                  have ST := Lib.hid (DJ2.out.step HM0.out GX.out HX1.out (z := (q : Int)) (by rw [HDM.out.1, HR2.out]))
                  have HRN := Lib.hid (((hv9.out.go HB10.out).set_far (i := i) (x := .int .i64 (q : Int)) hn9.out))
                  have HRN2 : Hid (r1 = (x + 10000 * r) % m) := by show _ = _; rw [← HR2.out]; exact HDM.out.2
                  go_wp2_with fail
                  go_roundw
                  case rel => exact ⟨i, _, by have := HJ.out; omega, by first | with_reducible rfl | exact congrArg (Value.int .i64) HIQ2.out, by have := HRN.out; rwa [HRN2.out] at this, hn9.out, _, ST.out⟩
                  case measure => first | (rw [HIQ2.out]; simp [intOf]) | simp [intOf]
end Go.Proofs.YtegobakoflbnfaaGreatDoor.QA

namespace Go.Proofs.YtegobakoflbnfaaGreatDoor.QA
open Go Go.RowKit Go.Shelf WN LM

theorem RNum.unique {w : World} {v : Value} {n m : Nat} (h : RNum w v n) (k : RNum w v m) : n = m := by
  obtain ⟨l, ⟨oa, ca, rfl, hc, hcell⟩, hl, rfl⟩ := h
  obtain ⟨l', ⟨oa', ca', he, hc', hcell'⟩, hl', rfl⟩ := k
  have e : l = l' := by
    injection he with e1 e2 e3
    subst e1
    refine List.ext_getElem e2 fun i h1 h2 => ?_
    obtain ⟨b, off, e4, c1⟩ := hcell i h1
    obtain ⟨b', off', e5, c2⟩ := hcell' i h2
    rw [e4] at e5
    cases e5
    rw [c1] at c2
    injection c2 with c2
    injection c2 with _ c3
    exact Int.ofNat.inj c3
  rw [e]
noncomputable def rnumOf (w : World) (v : Value) : Nat := Classical.epsilon (fun y => RNum w v y)
theorem RNum.of {w : World} {v : Value} {n : Nat} (h : RNum w v n) : rnumOf w v = n := (Classical.epsilon_spec (p := fun y => RNum w v y) ⟨n, h⟩).unique h

set_option maxHeartbeats 2000000 in
set_option maxRecDepth 100000 in
theorem rgcd_any {va vb : Value} {n m : Nat} {w : World} (ha : RNum w va n) (hb : RNum w vb m) (ln : RLen n ≤ 100000) (lm : RLen m ≤ 100000) : Calls Tryz.prog 91 #[va, vb] w (RRet w (Nat.gcd n m)) := by
  have DIV : Hid (∀ W v u x y, RNum W v x → RNum W u y → 0 < y → RLen x ≤ 100000 → RLen y ≤ 100000 → Calls Tryz.prog 92 #[v, u] W (RRet2 W (x / y) (x % y))) := fun W v u x y h1 h2 h3 h4 h5 => rdiv_any h1 h2 h3 h4 h5
  have HA := Lib.hid ha; have HB := Lib.hid hb; have LN := Lib.hid ln; have LM := Lib.hid lm
  obtain ⟨oa, capa, rfl⟩ := ha.shape
  obtain ⟨ob, capb, rfl⟩ := hb.shape
  clear ha hb ln lm
  go_enter Tryz.func91, Tryz.ntmps91
  go_wp2_with fail
  go_loopw [0, 1] (fun v0 v1 wr => ∃ x y : Nat, Hid (RNum wr v0 x) ∧ Hid (RNum wr v1 y) ∧ Hid (Nat.gcd x y = Nat.gcd n m) ∧ Hid (RLen x ≤ 100000) ∧ Hid (RLen y ≤ 100000) ∧ Hid (Below w.heap.size w wr)) (fun _ v1 wr => rnumOf wr v1)
  case atStart => exact ⟨n, m, HA.out, HB.out, rfl, LN.out, LM.out, Below.refl _ _⟩
  case round =>
    obtain ⟨x, y, hx, hy, hg, lx, ly, hb⟩ := hrel
    rename World => wk
    obtain ⟨o1, c1, rfl⟩ := hy.out.shape
    rcases Nat.eq_zero_or_pos y with h0 | h0
    · subst h0
      rw [rlen_zero]
      have HG : Hid (x = Nat.gcd n m) := by have := hg.out; rw [Nat.gcd_zero_right] at this; exact this
      clear hg hy ly
      go_wp2_with fail
      go_ret
      exact ⟨_, rfl, by have := hx.out; rwa [HG.out] at this, hb.out⟩
    · have hlp := rlen_pos h0
      have H0 := Lib.hid h0
      obtain ⟨R, hR⟩ : ∃ R, RLen y = R := ⟨_, rfl⟩
      have HR := Lib.hid hR
      rw [hR] at hlp ⊢
      have HY : Hid (RNum wk (.slice o1 R c1) y) := by have := hy.out; rwa [hR] at this
      clear hR h0 hy
      go_wp2_with fail
      refine (DIV.out wk _ _ x y hx.out HY.out H0.out lx.out ly.out).mono ?_; rintro e w2 ⟨v1, v2, rfl, hv1, hv2, hb2⟩
      have HV2 := Lib.hid hv2; have HB2 := Lib.hid hb2
      clear hv1 hv2 hb2
      go_wp2_with fail
      go_roundw
      case rel => exact ⟨y, x % y, HY.out.go HB2.out, HV2.out, by have := hg.out; show _ = _; rw [← this, Nat.gcd_comm x y, Nat.gcd_rec y x, Nat.gcd_comm], ly.out, Nat.le_trans (rlen_mono (Nat.le_of_lt (Nat.mod_lt _ H0.out))) ly.out, bstep hb.out HB2.out⟩
      case measure => rw [HV2.out.of, HY.out.of]; exact Nat.mod_lt _ H0.out
end Go.Proofs.YtegobakoflbnfaaGreatDoor.QA

namespace Go.Proofs.YtegobakoflbnfaaGreatDoor.QA
open Go Go.RowKit Go.Shelf WN LM

def BoxQ (w : World) (p : Nat) (a b c : Value) : Prop := w.heap[p]? = some (.cells #[a, b, c] 76 (0, 0))
theorem BoxQ.facts {w : World} {p : Nat} {a b c : Value} (h : BoxQ w p a b c) : w.cell? ⟨p, 0, none⟩ = some a ∧ w.cell? ⟨p, 1, none⟩ = some b ∧ w.cell? ⟨p, 2, none⟩ = some c ∧ w.frozen? ⟨p, 0, none⟩ = false ∧ w.frozen? ⟨p, 1, none⟩ = false ∧ w.frozen? ⟨p, 2, none⟩ = false := by
  refine ⟨?_, ?_, ?_, frozen_of_row _ _ 0 _ _ h, frozen_of_row _ _ 1 _ _ h, frozen_of_row _ _ 2 _ _ h⟩ <;> (rw [cell_of_row _ _ _ _ _ _ h]; rfl)
theorem BoxQ.go {w w' : World} {p : Nat} {a b c : Value} (h : BoxQ w p a b c) (hb : Below w.heap.size w w') : BoxQ w' p a b c := (hb.block p (lt_of_block h)).trans h
theorem BoxQ.new (w : World) (a b c : Value) : BoxQ (w.alloc (.cells #[a, b, c] 76)) w.heap.size a b c := alloc_at _ _ _ rfl
theorem BoxQ.set {w : World} {p : Nat} {a b c : Value} (h : BoxQ w p a b c) (a' b' c' : Value) : BoxQ (((w.setCell ⟨p, 0, none⟩ a').setCell ⟨p, 1, none⟩ b').setCell ⟨p, 2, none⟩ c') p a' b' c' := by
  have h1 := heap_setCell_same w p 0 _ 76 a' h
  have h2 := heap_setCell_same _ p 1 _ 76 b' h1
  have h3 := heap_setCell_same _ p 2 _ 76 c' h2
  exact h3
theorem RNum.set3 {w : World} {v : Value} {n p : Nat} (h : RNum w v n) {s : Bool} {o1 o2 : Option Addr} {k1 k2 c1 c2 : Nat} (hb : BoxQ w p (.bool s) (.slice o1 k1 c1) (.slice o2 k2 c2)) (x y z : Value) :
    RNum (((w.setCell ⟨p, 0, none⟩ x).setCell ⟨p, 1, none⟩ y).setCell ⟨p, 2, none⟩ z) v n := by
  obtain ⟨l, ⟨oa, ca, rfl, hc, hcell⟩, hl⟩ := h
  refine ⟨l, ⟨oa, ca, rfl, hc, fun i hi => ?_⟩, hl⟩
  obtain ⟨b, off, rfl, e⟩ := hcell i hi
  refine ⟨b, off, rfl, ?_⟩
  have hne : p ≠ b := by
    rintro rfl
    rw [cell_of_row _ _ _ _ _ _ hb] at e
    rcases Nat.lt_or_ge (off + i) 3 with h | h
    · rcases (show off + i = 0 ∨ off + i = 1 ∨ off + i = 2 by omega) with h | h | h <;> (rw [h] at e; simp at e)
    · rw [Array.getElem?_eq_none (by simpa using h)] at e; cases e
  rw [World.cell?_setCell_far _ _ _ _ hne, World.cell?_setCell_far _ _ _ _ hne, World.cell?_setCell_far _ _ _ _ hne]
  exact e
def RFrac (w : World) (v : Value) (s : Bool) (n d : Nat) : Prop := ∃ o1 k1 c1 o2 k2 c2, v = .agg #[.bool s, .slice o1 k1 c1, .slice o2 k2 c2] ∧ RNum w (.slice o1 k1 c1) n ∧ RNum w (.slice o2 k2 c2) d
theorem boxq_ret {w w' : World} {p : Nat} {s : Bool} {o1 o2 : Option Addr} {k1 k2 c1 c2 : Nat} (bx : BoxQ w' p (.bool s) (.slice o1 k1 c1) (.slice o2 k2 c2)) {t : Bool} {vn vd : Value} {n d : Nat} (hn : RNum w' vn n) (hd : RNum w' vd d) (hb : Below w.heap.size w w') (hp : w.heap.size ≤ p) :
    (((w'.setCell ⟨p, 0, none⟩ (.bool t)).setCell ⟨p, 1, none⟩ vn).setCell ⟨p, 2, none⟩ vd).cell? ⟨p, 0, none⟩ = some (.bool t) ∧
    (((w'.setCell ⟨p, 0, none⟩ (.bool t)).setCell ⟨p, 1, none⟩ vn).setCell ⟨p, 2, none⟩ vd).cell? ⟨p, 1, none⟩ = some vn ∧
    (((w'.setCell ⟨p, 0, none⟩ (.bool t)).setCell ⟨p, 1, none⟩ vn).setCell ⟨p, 2, none⟩ vd).cell? ⟨p, 2, none⟩ = some vd ∧
    RNum (((w'.setCell ⟨p, 0, none⟩ (.bool t)).setCell ⟨p, 1, none⟩ vn).setCell ⟨p, 2, none⟩ vd) vn n ∧ RNum (((w'.setCell ⟨p, 0, none⟩ (.bool t)).setCell ⟨p, 1, none⟩ vn).setCell ⟨p, 2, none⟩ vd) vd d ∧
    Below w.heap.size w (((w'.setCell ⟨p, 0, none⟩ (.bool t)).setCell ⟨p, 1, none⟩ vn).setCell ⟨p, 2, none⟩ vd) := by
  have h := (bx.set (.bool t) vn vd).facts
  exact ⟨h.1, h.2.1, h.2.2.1, hn.set3 bx _ _ _, hd.set3 bx _ _ _, three_below _ _ _ hb hp⟩
/-- what Read returns -/
def RReadOut (w : World) (o : Option (Bool × Nat × Nat)) (e : Ending) (w' : World) : Prop :=
  ∃ v, Below w.heap.size w w' ∧ match o with
    | none => v = .agg #[.bool false, .slice none 0 0, .slice none 0 0] ∧ e = .returned (.tuple #[v, .bool false])
    | some (s, n, d) => e = .returned (.tuple #[v, .bool true]) ∧ RFrac w' v s n d
theorem RReadOut.no {w w' : World} (h : Below w.heap.size w w') : RReadOut w none (.returned (.tuple #[.agg #[.bool false, .slice none 0 0, .slice none 0 0], .bool false])) w' := ⟨_, h, rfl, rfl⟩
theorem goodD_facts {l : List UInt8} (h : goodD l = true) : l.length ≤ 300 ∧ l.all isD = true := by
  unfold goodD at h
  simp only [Bool.and_eq_true, decide_eq_true_eq] at h
  exact ⟨h.1.1.2, h.2⟩
theorem rlen_pow {n j k : Nat} (h : n < 10 ^ j) (hj : j ≤ 4 * k) : RLen n ≤ k := by
  have hp : (10000 : Nat) ^ k = 10 ^ (4 * k) := by rw [Nat.pow_mul]
  refine rlen_lt (Nat.lt_of_lt_of_le h ?_)
  rw [hp]
  exact Nat.pow_le_pow_right (by omega) hj
theorem rlen_dval {l : List UInt8} (h : goodD l = true) : RLen (dval l) ≤ 75 := by
  obtain ⟨h1, h2⟩ := goodD_facts h
  exact rlen_pow (dval_lt h2) (by omega)
theorem rlen_eq_zero {n : Nat} : RLen n = 0 ↔ n = 0 := by
  constructor
  · intro h
    rcases Nat.eq_zero_or_pos n with h0 | h0
    · exact h0
    · have := rlen_pos h0; omega
  · rintro rfl; exact rlen_zero
theorem readR_no {neg : Bool} {r : List UInt8} (h : goodD (r.takeWhile (· != 47)) = false) : readR neg r = none := by unfold readR; rw [h]; rfl
theorem readR_neg {r : List UInt8} (h : dval (r.takeWhile (· != 47)) = 0) : readR true r = none := by unfold readR; rw [h]; simp
theorem readR_int {neg : Bool} {r : List UInt8} (h : goodD (r.takeWhile (· != 47)) = true) (hz : neg = true → dval (r.takeWhile (· != 47)) ≠ 0) (hd : r.dropWhile (· != 47) = []) : readR neg r = some (neg, dval (r.takeWhile (· != 47)), 1) := by
  unfold readR; rw [h, hd]
  have : (neg && decide (dval (r.takeWhile (· != 47)) = 0)) = false := by cases neg <;> simp at hz ⊢; exact hz
  rw [this]; rfl
theorem readR_none {neg : Bool} {r t : List UInt8} {c : UInt8} (hd : r.dropWhile (· != 47) = c :: t) (h : goodD t = false ∨ dval t ≤ 1 ∨ Nat.gcd (dval (r.takeWhile (· != 47))) (dval t) ≠ 1) : readR neg r = none := by
  unfold readR; rw [hd]
  have : (goodD t && !decide (dval t = 0) && !decide (dval t = 1) && decide (Nat.gcd (dval (r.takeWhile (· != 47))) (dval t) = 1)) = false := by
    rcases h with h | h | h
    · rw [h]; rfl
    · rcases (show dval t = 0 ∨ dval t = 1 by omega) with h | h <;> simp [h]
    · simp [h]
  simp only [this]
  split <;> simp
theorem readR_some {neg : Bool} {r t : List UInt8} {c : UInt8} (hd : r.dropWhile (· != 47) = c :: t) (h : goodD (r.takeWhile (· != 47)) = true) (hz : neg = true → dval (r.takeWhile (· != 47)) ≠ 0) (h1 : goodD t = true) (h2 : 1 < dval t) (h3 : Nat.gcd (dval (r.takeWhile (· != 47))) (dval t) = 1) : readR neg r = some (neg, dval (r.takeWhile (· != 47)), dval t) := by
  unfold readR; rw [h, hd]
  have : (neg && decide (dval (r.takeWhile (· != 47)) = 0)) = false := by cases neg <;> simp at hz ⊢; exact hz
  rw [this]
  have e : (goodD t && !decide (dval t = 0) && !decide (dval t = 1) && decide (Nat.gcd (dval (r.takeWhile (· != 47))) (dval t) = 1)) = true := by
    simp [h1, h3]; omega
  simp [e]
theorem rlen_one : RLen 1 = 1 := by
  have h1 := rlen_small (n := 1) (by omega)
  have h2 := rlen_pos (n := 1) (by omega)
  omega

set_option maxRecDepth 100000 in
set_option maxHeartbeats 8000000 in
theorem rread_true (s : ByteArray) (w : World) (hs : s.size ≤ 140737488355328) (h1 : 1 ≤ s.size) (hm : ((s[0].toNat : Int) == 45) = true) : Calls Tryz.prog 62 #[.string s] w (RReadOut w (readR true (s.data.toList.drop 1))) := by
  obtain ⟨r, hr⟩ : ∃ r, r = s.extract 1 s.size := ⟨_, rfl⟩
  have hrs : r.size ≤ s.size := by rw [hr]; simp
  have hrd : s.data.toList.drop 1 = r.data.toList := by
    rw [hr, toList_extract, List.take_of_length_le (by simp)]
  rw [hrd]
  clear hrd
  have HR := Lib.hid hr; clear hr
  have N1 : Hid (∀ W, Calls Tryz.prog 73 #[.int .u64 1] W (RRet W 1)) := fun W => natOf_any 1 (by omega) W
  have bR := BoxQ.new w (.bool false) (.slice none 0 0) (.slice none 0 0)
  have B1 := below_alloc w (.cells #[.bool false, .slice none 0 0, .slice none 0 0] 76)
  go_enter Tryz.func62, Tryz.ntmps62
  go_wp2_with fail
  rw [← HR.out]
  have HM := Lib.hid hm; clear hm
  clear HR
  have hrl : r.data.toList.length = r.size := by simp
  have HRL := Lib.hid hrl; clear hrl
  have BR := Lib.hid bR; have HB1 := Lib.hid B1
  clear bR B1
  generalize w.alloc (.cells #[.bool false, .slice none 0 0, .slice none 0 0] 76) = w1 at *
  go_loop [5] (fun v5 => ∃ i : Nat, i ≤ r.size ∧ v5 = .int .i64 i ∧ Hid (∀ c ∈ r.data.toList.take i, c ≠ 47)) (fun v5 => r.size - (intOf v5).toNat)
  case atStart => exact ⟨0, Nat.zero_le _, rfl, by intro c hc; simp at hc⟩
  case round =>
    obtain ⟨i, hi, rfl, hno⟩ := hrel
    by_cases hlt : i < r.size
    · have hgi : r.data.toList[i]? = some r[i] := by rw [List.getElem?_eq_getElem (by rw [HRL.out]; exact hlt)]; rfl
      by_cases hc : r[i] = 47
      · have hce : ((r[i].toNat : Int) != 47) = false := by rw [hc]; rfl
        have HC : Hid (r.data.toList[i]? = some 47) := by show _ = _; rw [hgi, hc]
        have hsp := split_at (by rw [HRL.out]; exact hi) hno.out (.inr HC.out)
        have hdr : r.data.toList.drop i = 47 :: r.data.toList.drop (i + 1) := by
          have h' := HC.out
          rw [List.getElem?_eq_getElem (by rw [HRL.out]; exact hlt)] at h'
          rw [List.drop_eq_getElem_cons (by rw [HRL.out]; exact hlt), Option.some.inj h']
        rw [hdr] at hsp
        have HSP := Lib.hid hsp
        clear hc hgi hno hsp hdr
        go_wp2_with fail
        refine (rdigits_any _ _ (by simp; omega)).mono ?_; rintro e w2 ⟨rfl, rfl⟩
        rw [toList_extract, List.drop_zero]
        cases hgd : goodD (r.data.toList.take i)
        · have HGD := Lib.hid hgd; clear hgd
          have HRO : Hid (∀ e w', RReadOut w none e w' → RReadOut w (readR true r.data.toList) e w') := fun _ _ h => by rw [readR_no (by rw [HSP.out.1]; exact HGD.out)]; exact h
          obtain ⟨r0, r1, r2, f0, f1, f2⟩ := BR.out.facts
          go_wp2_with fail
          obtain ⟨e0, e1, e2, -, -, hb⟩ := boxq_ret (t := false) (n := 0) (d := 0) BR.out (RNum.nil _) (RNum.nil _) HB1.out (by omega)
          refine bodyPost_ret (v := .tuple #[.agg #[.bool false, .slice none 0 0, .slice none 0 0], .bool false]) ?_ rfl (HRO.out _ _ (RReadOut.no hb))
          simp [results, Tryz.f62, go_sem, e0, e1, e2]
        · obtain ⟨hl300, hall⟩ := goodD_facts hgd
          have HGD := Lib.hid hgd
          have HSZ9 : Hid ((r.extract 0 i).size ≤ 1000000) := by
            have h1 : (r.extract 0 i).data.toList.length ≤ 300 := by rw [toList_extract, List.drop_zero]; exact hl300
            rw [Array.length_toList] at h1
            exact Nat.le_trans h1 (by omega)
          have HRL9 := Lib.hid (rlen_dval hgd)
          go_wp2_with fail
          refine (readNat_any _ _ HSZ9.out (by rw [toList_extract, List.drop_zero]; exact hall)).mono ?_; rintro e w3 ⟨v3, rfl, hv3, hb3⟩
          rw [toList_extract, List.drop_zero] at hv3
          have BR3 := Lib.hid (BR.out.go hb3); have HB3 := Lib.hid (bstep HB1.out hb3); have HV3 := Lib.hid hv3
          clear hb3 hv3 hl300 hall hgd
          go_wp2_with fail
          refine (N1.out _).mono ?_; rintro e w4 ⟨v4, rfl, hv4, hb4⟩
          have BR4 := Lib.hid (BR3.out.go hb4); have HB4 := Lib.hid (bstep HB3.out hb4); have HN4 := Lib.hid (HV3.out.go hb4); have HD4 := Lib.hid hv4
          clear hb4 hv4
          obtain ⟨o2, c2', rfl⟩ := HN4.out.shape
          obtain ⟨LN9, hln⟩ : ∃ L, RLen (dval (r.data.toList.take i)) = L := ⟨_, rfl⟩
          have HLN := Lib.hid hln
          rw [hln] at HN4 ⊢
          clear hln
          have hi1 : ((i : Int) + 1).toNat = i + 1 := by omega
          go_wp2_with fail
          refine (rdigits_any _ _ (by simp; omega)).mono ?_; rintro e w5 ⟨rfl, rfl⟩
          rw [toList_extract, show (r.data.toList.take r.size).drop (i + 1) = r.data.toList.drop (i + 1) from by rw [List.take_of_length_le (by rw [HRL.out]; exact Nat.le_refl _)]]
          cases hgd2 : goodD (r.data.toList.drop (i + 1))
          · have HGD2 := Lib.hid hgd2; clear hgd2
            have HRO : Hid (∀ e w', RReadOut w none e w' → RReadOut w (readR true r.data.toList) e w') := fun _ _ h => by rw [readR_none HSP.out.2 (.inl HGD2.out)]; exact h
            obtain ⟨r0, r1, r2, f0, f1, f2⟩ := BR4.out.facts
            go_wp2_with fail
            obtain ⟨e0, e1, e2, -, -, hb⟩ := boxq_ret (t := false) (n := 0) (d := 0) BR4.out (RNum.nil _) (RNum.nil _) HB4.out (by omega)
            refine bodyPost_ret (v := .tuple #[.agg #[.bool false, .slice none 0 0, .slice none 0 0], .bool false]) ?_ rfl (HRO.out _ _ (RReadOut.no hb))
            simp [results, Tryz.f62, go_sem, e0, e1, e2]
          · obtain ⟨hl300, hall⟩ := goodD_facts hgd2
            have HGD2 := Lib.hid hgd2
            have HRL8 := Lib.hid (rlen_dval hgd2)
            have HEX : Hid ((r.extract (i + 1) r.size).data.toList = r.data.toList.drop (i + 1)) := by
              show _ = _
              rw [toList_extract, List.take_of_length_le (by rw [HRL.out]; exact Nat.le_refl _)]
            have hsz : (r.extract (i + 1) r.size).size ≤ 1000000 := by
              have h1 : (r.extract (i + 1) r.size).data.toList.length ≤ 300 := by rw [HEX.out]; exact hl300
              rw [Array.length_toList] at h1
              exact Nat.le_trans h1 (by omega)
            have RN : Hid (∀ W, Calls Tryz.prog 90 #[.string (r.extract (i + 1) r.size)] W (RRet W (dval (r.data.toList.drop (i + 1))))) := fun W => by
              have := readNat_any (r.extract (i + 1) r.size) W hsz (by rw [HEX.out]; exact hall)
              rwa [HEX.out] at this
            clear hl300 hall hgd2 hsz
            go_wp2_with fail
            refine (RN.out _).mono ?_; rintro e w6 ⟨v6, rfl, hv6, hb6⟩
            have BR6 := Lib.hid (BR4.out.go hb6); have HB6 := Lib.hid (bstep HB4.out hb6); have HN6 := Lib.hid (HN4.out.go hb6); have HD6 := Lib.hid hv6
            clear hb6 hv6
            obtain ⟨o3, c3', rfl⟩ := HD6.out.shape
            obtain ⟨LD9, hld⟩ : ∃ L, RLen (dval (r.data.toList.drop (i + 1))) = L := ⟨_, rfl⟩
            have HLD := Lib.hid hld
            rw [hld] at HD6 ⊢
            clear hld
            have HNE : Hid (dval (r.data.toList.takeWhile (· != 47)) = dval (r.data.toList.take i)) := by show _ = _; rw [HSP.out.1]
            go_wp2_with fail
            refine (N1.out _).mono ?_; rintro e w7 ⟨v7, rfl, hv7, hb7⟩
            have BR7 := Lib.hid (BR6.out.go hb7); have HB7 := Lib.hid (bstep HB6.out hb7); have HN7 := Lib.hid (HN6.out.go hb7); have HD7 := Lib.hid (HD6.out.go hb7); have H17 := Lib.hid hv7
            clear hb7 hv7
            go_wp2_with fail
            refine (rcmp_any HD7.out H17.out (by have := HRL8.out; omega) (by rw [rlen_one]; omega)).mono ?_; rintro e w8 ⟨rfl, hb8⟩
            have BR8 := Lib.hid (BR7.out.go hb8); have HB8 := Lib.hid (bstep HB7.out hb8); have HN8 := Lib.hid (HN7.out.go hb8); have HD8 := Lib.hid (HD7.out.go hb8)
            clear hb8
            by_cases hd1 : dval (r.data.toList.drop (i + 1)) ≤ 1
            · have hcx : ∃ c : Int, cmpN (dval (r.data.toList.drop (i + 1))) 1 = c ∧ c ≤ 0 := by
                unfold cmpN
                split
                · exact ⟨_, rfl, by omega⟩
                · rw [if_neg (by omega)]; exact ⟨_, rfl, by omega⟩
              obtain ⟨c, hc, hc0⟩ := hcx
              rw [hc]
              have HD1 := Lib.hid hd1; clear hd1 hc
              have HRO : Hid (∀ e w', RReadOut w none e w' → RReadOut w (readR true r.data.toList) e w') := fun _ _ h => by rw [readR_none HSP.out.2 (.inr (.inl HD1.out))]; exact h
              obtain ⟨r0, r1, r2, f0, f1, f2⟩ := BR8.out.facts
              go_wp2_with fail
              obtain ⟨e0, e1, e2, -, -, hb⟩ := boxq_ret (t := false) (n := 0) (d := 0) BR8.out (RNum.nil _) (RNum.nil _) HB8.out (by omega)
              refine bodyPost_ret (v := .tuple #[.agg #[.bool false, .slice none 0 0, .slice none 0 0], .bool false]) ?_ rfl (HRO.out _ _ (RReadOut.no hb))
              simp [results, Tryz.f62, go_sem, e0, e1, e2]
            · have hc : cmpN (dval (r.data.toList.drop (i + 1))) 1 = 1 := by unfold cmpN; rw [if_neg (by omega), if_pos (by omega)]
              rw [hc]
              have HD1 : Hid (1 < dval (r.data.toList.drop (i + 1))) := by show _ < _; omega
              clear hc hd1
              go_wp2_with fail
              refine (rgcd_any HN8.out HD8.out (by have := HRL9.out; omega) (by have := HRL8.out; omega)).mono ?_; rintro e w9 ⟨v9, rfl, hv9, hb9⟩
              have BR9 := Lib.hid (BR8.out.go hb9); have HB9 := Lib.hid (bstep HB8.out hb9); have HN9 := Lib.hid (HN8.out.go hb9); have HD9 := Lib.hid (HD8.out.go hb9); have HG9 := Lib.hid hv9
              clear hb9 hv9
              go_wp2_with fail
              refine (N1.out _).mono ?_; rintro e w10 ⟨v10, rfl, hv10, hb10⟩
              have BR10 := Lib.hid (BR9.out.go hb10); have HB10 := Lib.hid (bstep HB9.out hb10); have HN10 := Lib.hid (HN9.out.go hb10); have HD10 := Lib.hid (HD9.out.go hb10); have HG10 := Lib.hid (HG9.out.go hb10); have H110 := Lib.hid hv10
              clear hb10 hv10
              go_wp2_with fail
              have lgd : RLen (Nat.gcd (dval (r.data.toList.take i)) (dval (r.data.toList.drop (i + 1)))) ≤ 75 := Nat.le_trans (rlen_mono (Nat.gcd_le_right _ (by have := HD1.out; omega))) HRL8.out
              refine (rcmp_any HG10.out H110.out (by omega) (by rw [rlen_one]; omega)).mono ?_; rintro e w11 ⟨rfl, hb11⟩
              have BR11 := Lib.hid (BR10.out.go hb11); have HB11 := Lib.hid (bstep HB10.out hb11); have HN11 := Lib.hid (HN10.out.go hb11); have HD11 := Lib.hid (HD10.out.go hb11)
              clear hb11 lgd
              by_cases hg1 : Nat.gcd (dval (r.data.toList.take i)) (dval (r.data.toList.drop (i + 1))) = 1
              · have hc : cmpN (Nat.gcd (dval (r.data.toList.take i)) (dval (r.data.toList.drop (i + 1)))) 1 = 0 := by rw [hg1]; rfl
                rw [hc]
                have HG1 := Lib.hid hg1; clear hg1 hc
                by_cases hz : dval (r.data.toList.take i) = 0
                · have hl0 : LN9 = 0 := by rw [← HLN.out]; exact rlen_eq_zero.2 hz
                  have HZ := Lib.hid hz; clear hz
                  have HRO : Hid (∀ e w', RReadOut w none e w' → RReadOut w (readR true r.data.toList) e w') := fun _ _ h => by rw [readR_neg (by rw [HNE.out]; exact HZ.out)]; exact h
                  obtain ⟨r0, r1, r2, f0, f1, f2⟩ := BR11.out.facts
                  go_wp2_with fail
                  obtain ⟨e0, e1, e2, -, -, hb⟩ := boxq_ret (t := false) (n := 0) (d := 0) BR11.out (RNum.nil _) (RNum.nil _) HB11.out (by omega)
                  refine bodyPost_ret (v := .tuple #[.agg #[.bool false, .slice none 0 0, .slice none 0 0], .bool false]) ?_ rfl (HRO.out _ _ (RReadOut.no hb))
                  simp [results, Tryz.f62, go_sem, e0, e1, e2]
                · have hl0 : ¬ LN9 = 0 := fun h => hz (rlen_eq_zero.1 (by rw [HLN.out]; exact h))
                  have tl0 : ((LN9 : Int) == 0) = false := by rw [beq_eq_false_iff_ne]; omega
                  have HZ := Lib.hid hz; clear hz
                  have HRO : Hid (∀ e w', RReadOut w (some (true, dval (r.data.toList.take i), dval (r.data.toList.drop (i + 1)))) e w' → RReadOut w (readR true r.data.toList) e w') := fun _ _ h => by rw [show readR true r.data.toList = some (true, dval (r.data.toList.take i), dval (r.data.toList.drop (i + 1))) from by rw [← HNE.out]; exact readR_some HSP.out.2 (by rw [HSP.out.1]; exact HGD.out) (fun _ => by rw [HNE.out]; exact HZ.out) HGD2.out HD1.out (by rw [HNE.out]; exact HG1.out)]; exact h
                  obtain ⟨r0, r1, r2, f0, f1, f2⟩ := BR11.out.facts
                  go_wp2_with fail
                  obtain ⟨e0, e1, e2, hn9, hd9, hb9⟩ := boxq_ret (t := true) BR11.out HN11.out HD11.out HB11.out (by omega)
                  refine bodyPost_ret (v := .tuple #[.agg #[.bool true, .slice o2 LN9 c2', .slice o3 LD9 c3'], .bool true]) ?_ rfl (HRO.out _ _ ⟨_, hb9, rfl, _, _, _, _, _, _, rfl, hn9, hd9⟩)
                  simp [results, Tryz.f62, go_sem, e0, e1, e2]
              · have hcx : ∃ c : Int, cmpN (Nat.gcd (dval (r.data.toList.take i)) (dval (r.data.toList.drop (i + 1)))) 1 = c ∧ c ≠ 0 := by
                  unfold cmpN
                  split
                  · exact ⟨_, rfl, by omega⟩
                  · rw [if_pos (by omega)]; exact ⟨_, rfl, by omega⟩
                obtain ⟨c, hc, hc0⟩ := hcx
                rw [hc]
                have tc : (c != 0) = true := by rw [bne_iff_ne]; exact hc0
                have HG1 := Lib.hid hg1; clear hg1 hc hc0
                have HRO : Hid (∀ e w', RReadOut w none e w' → RReadOut w (readR true r.data.toList) e w') := fun _ _ h => by rw [readR_none HSP.out.2 (.inr (.inr (by rw [HNE.out]; exact HG1.out)))]; exact h
                obtain ⟨r0, r1, r2, f0, f1, f2⟩ := BR11.out.facts
                go_wp2_with fail
                obtain ⟨e0, e1, e2, -, -, hb⟩ := boxq_ret (t := false) (n := 0) (d := 0) BR11.out (RNum.nil _) (RNum.nil _) HB11.out (by omega)
                refine bodyPost_ret (v := .tuple #[.agg #[.bool false, .slice none 0 0, .slice none 0 0], .bool false]) ?_ rfl (HRO.out _ _ (RReadOut.no hb))
                simp [results, Tryz.f62, go_sem, e0, e1, e2]
      · have hcn : r[i].toNat ≠ 47 := fun h => hc (UInt8.toNat_inj.1 h)
        have hce : ((r[i].toNat : Int) != 47) = true := by rw [bne_iff_ne]; omega
        have HN := Lib.hid (take_step hno.out hgi hc)
        clear hc hgi hno hcn
        go_wp2_with fail
        go_round
        case rel => exact ⟨i + 1, hlt, by go_num, HN.out⟩
        case measure => simp [intOf]; omega
    · obtain rfl : i = r.size := by omega
      have hsp := split_at (by rw [HRL.out]; exact hi) hno.out (.inl HRL.out.symm)
      rw [List.drop_of_length_le (by rw [HRL.out]; exact Nat.le_refl _), List.take_of_length_le (by rw [HRL.out]; exact Nat.le_refl _)] at hsp
      have HSP := Lib.hid hsp
      clear hno hsp hlt
      go_wp2_with fail
      refine (rdigits_any _ _ (by omega)).mono ?_; rintro e w2 ⟨rfl, rfl⟩
      cases hgd : goodD r.data.toList
      · have HGD := Lib.hid hgd; clear hgd
        have HRO : Hid (∀ e w', RReadOut w none e w' → RReadOut w (readR true r.data.toList) e w') := fun _ _ h => by rw [readR_no (by rw [HSP.out.1]; exact HGD.out)]; exact h
        obtain ⟨r0, r1, r2, f0, f1, f2⟩ := BR.out.facts
        go_wp2_with fail
        obtain ⟨e0, e1, e2, -, -, hb⟩ := boxq_ret (t := false) (n := 0) (d := 0) BR.out (RNum.nil _) (RNum.nil _) HB1.out (by omega)
        refine bodyPost_ret (v := .tuple #[.agg #[.bool false, .slice none 0 0, .slice none 0 0], .bool false]) ?_ rfl (HRO.out _ _ (RReadOut.no hb))
        simp [results, Tryz.f62, go_sem, e0, e1, e2]
      · obtain ⟨hl300, hall⟩ := goodD_facts hgd
        have HGD := Lib.hid hgd
        have HSZ9 : Hid (r.size ≤ 1000000) := by
          have := HRL.out
          show _ ≤ _
          omega
        have HRL9 := Lib.hid (rlen_dval hgd)
        go_wp2_with fail
        refine (readNat_any _ _ HSZ9.out hall).mono ?_; rintro e w3 ⟨v3, rfl, hv3, hb3⟩
        have BR3 := Lib.hid (BR.out.go hb3); have HB3 := Lib.hid (bstep HB1.out hb3); have HV3 := Lib.hid hv3
        clear hb3 hv3 hl300 hall hgd
        go_wp2_with fail
        refine (N1.out _).mono ?_; rintro e w4 ⟨v4, rfl, hv4, hb4⟩
        have BR4 := Lib.hid (BR3.out.go hb4); have HB4 := Lib.hid (bstep HB3.out hb4); have HN4 := Lib.hid (HV3.out.go hb4); have HD4 := Lib.hid hv4
        clear hb4 hv4
        obtain ⟨o2, c2', rfl⟩ := HN4.out.shape
        obtain ⟨LN9, hln⟩ : ∃ L, RLen (dval (r.data.toList)) = L := ⟨_, rfl⟩
        have HLN := Lib.hid hln
        rw [hln] at HN4 ⊢
        clear hln
        have HNE : Hid (dval (r.data.toList.takeWhile (· != 47)) = dval r.data.toList) := by show _ = _; rw [HSP.out.1]
        obtain ⟨o3, c3', rfl⟩ := HD4.out.shape
        rw [rlen_one] at HD4 ⊢
        by_cases hz : dval r.data.toList = 0
        · have hl0 : LN9 = 0 := by rw [← HLN.out]; exact rlen_eq_zero.2 hz
          have HZ := Lib.hid hz; clear hz
          have HRO : Hid (∀ e w', RReadOut w none e w' → RReadOut w (readR true r.data.toList) e w') := fun _ _ h => by rw [readR_neg (by rw [HNE.out]; exact HZ.out)]; exact h
          obtain ⟨r0, r1, r2, f0, f1, f2⟩ := BR4.out.facts
          go_wp2_with fail
          obtain ⟨e0, e1, e2, -, -, hb⟩ := boxq_ret (t := false) (n := 0) (d := 0) BR4.out (RNum.nil _) (RNum.nil _) HB4.out (by omega)
          refine bodyPost_ret (v := .tuple #[.agg #[.bool false, .slice none 0 0, .slice none 0 0], .bool false]) ?_ rfl (HRO.out _ _ (RReadOut.no hb))
          simp [results, Tryz.f62, go_sem, e0, e1, e2]
        · have hl0 : ¬ LN9 = 0 := fun h => hz (rlen_eq_zero.1 (by rw [HLN.out]; exact h))
          have tl0 : ((LN9 : Int) == 0) = false := by rw [beq_eq_false_iff_ne]; omega
          have HZ := Lib.hid hz; clear hz
          have HRO : Hid (∀ e w', RReadOut w (some (true, dval r.data.toList, 1)) e w' → RReadOut w (readR true r.data.toList) e w') := fun _ _ h => by rw [show readR true r.data.toList = some (true, dval r.data.toList, 1) from by rw [← HNE.out]; exact readR_int (by rw [HSP.out.1]; exact HGD.out) (fun _ => by rw [HNE.out]; exact HZ.out) HSP.out.2]; exact h
          obtain ⟨r0, r1, r2, f0, f1, f2⟩ := BR4.out.facts
          go_wp2_with fail
          obtain ⟨e0, e1, e2, hn9, hd9, hb9⟩ := boxq_ret (t := true) BR4.out HN4.out HD4.out HB4.out (by omega)
          refine bodyPost_ret (v := .tuple #[.agg #[.bool true, .slice o2 LN9 c2', .slice o3 1 c3'], .bool true]) ?_ rfl (HRO.out _ _ ⟨_, hb9, rfl, _, _, _, _, _, _, rfl, hn9, hd9⟩)
          simp [results, Tryz.f62, go_sem, e0, e1, e2]
end Go.Proofs.YtegobakoflbnfaaGreatDoor.QA

namespace Go.Proofs.YtegobakoflbnfaaGreatDoor.QA
open Go Go.RowKit Go.Shelf WN LM

set_option maxRecDepth 100000 in
set_option maxHeartbeats 8000000 in
theorem rread_false (s : ByteArray) (w : World) (hs : s.size ≤ 140737488355328) (h1 : 0 < s.size) (hm : ((s[0].toNat : Int) == 45) = false) : Calls Tryz.prog 62 #[.string s] w (RReadOut w (readR false s.data.toList)) := by
  obtain ⟨r, hr⟩ : ∃ r, r = s := ⟨_, rfl⟩
  subst hr
  have N1 : Hid (∀ W, Calls Tryz.prog 73 #[.int .u64 1] W (RRet W 1)) := fun W => natOf_any 1 (by omega) W
  have bR := BoxQ.new w (.bool false) (.slice none 0 0) (.slice none 0 0)
  have B1 := below_alloc w (.cells #[.bool false, .slice none 0 0, .slice none 0 0] 76)
  go_enter Tryz.func62, Tryz.ntmps62
  go_wp2_with fail
  have HM := Lib.hid hm; clear hm
  have hrl : r.data.toList.length = r.size := by simp
  have HRL := Lib.hid hrl; clear hrl
  have BR := Lib.hid bR; have HB1 := Lib.hid B1
  clear bR B1
  generalize w.alloc (.cells #[.bool false, .slice none 0 0, .slice none 0 0] 76) = w1 at *
  go_loop [5] (fun v5 => ∃ i : Nat, i ≤ r.size ∧ v5 = .int .i64 i ∧ Hid (∀ c ∈ r.data.toList.take i, c ≠ 47)) (fun v5 => r.size - (intOf v5).toNat)
  case atStart => exact ⟨0, Nat.zero_le _, rfl, by intro c hc; simp at hc⟩
  case round =>
    obtain ⟨i, hi, rfl, hno⟩ := hrel
    by_cases hlt : i < r.size
    · have hgi : r.data.toList[i]? = some r[i] := by rw [List.getElem?_eq_getElem (by rw [HRL.out]; exact hlt)]; rfl
      by_cases hc : r[i] = 47
      · have hce : ((r[i].toNat : Int) != 47) = false := by rw [hc]; rfl
        have HC : Hid (r.data.toList[i]? = some 47) := by show _ = _; rw [hgi, hc]
        have hsp := split_at (by rw [HRL.out]; exact hi) hno.out (.inr HC.out)
        have hdr : r.data.toList.drop i = 47 :: r.data.toList.drop (i + 1) := by
          have h' := HC.out
          rw [List.getElem?_eq_getElem (by rw [HRL.out]; exact hlt)] at h'
          rw [List.drop_eq_getElem_cons (by rw [HRL.out]; exact hlt), Option.some.inj h']
        rw [hdr] at hsp
        have HSP := Lib.hid hsp
        clear hc hgi hno hsp hdr
        go_wp2_with fail
        refine (rdigits_any _ _ (by simp; omega)).mono ?_; rintro e w2 ⟨rfl, rfl⟩
        rw [toList_extract, List.drop_zero]
        cases hgd : goodD (r.data.toList.take i)
        · have HGD := Lib.hid hgd; clear hgd
          have HRO : Hid (∀ e w', RReadOut w none e w' → RReadOut w (readR false r.data.toList) e w') := fun _ _ h => by rw [readR_no (by rw [HSP.out.1]; exact HGD.out)]; exact h
          obtain ⟨r0, r1, r2, f0, f1, f2⟩ := BR.out.facts
          go_wp2_with fail
          obtain ⟨e0, e1, e2, -, -, hb⟩ := boxq_ret (t := false) (n := 0) (d := 0) BR.out (RNum.nil _) (RNum.nil _) HB1.out (by omega)
          refine bodyPost_ret (v := .tuple #[.agg #[.bool false, .slice none 0 0, .slice none 0 0], .bool false]) ?_ rfl (HRO.out _ _ (RReadOut.no hb))
          simp [results, Tryz.f62, go_sem, e0, e1, e2]
        · obtain ⟨hl300, hall⟩ := goodD_facts hgd
          have HGD := Lib.hid hgd
          have HSZ9 : Hid ((r.extract 0 i).size ≤ 1000000) := by
            have h1 : (r.extract 0 i).data.toList.length ≤ 300 := by rw [toList_extract, List.drop_zero]; exact hl300
            rw [Array.length_toList] at h1
            exact Nat.le_trans h1 (by omega)
          have HRL9 := Lib.hid (rlen_dval hgd)
          go_wp2_with fail
          refine (readNat_any _ _ HSZ9.out (by rw [toList_extract, List.drop_zero]; exact hall)).mono ?_; rintro e w3 ⟨v3, rfl, hv3, hb3⟩
          rw [toList_extract, List.drop_zero] at hv3
          have BR3 := Lib.hid (BR.out.go hb3); have HB3 := Lib.hid (bstep HB1.out hb3); have HV3 := Lib.hid hv3
          clear hb3 hv3 hl300 hall hgd
          go_wp2_with fail
          refine (N1.out _).mono ?_; rintro e w4 ⟨v4, rfl, hv4, hb4⟩
          have BR4 := Lib.hid (BR3.out.go hb4); have HB4 := Lib.hid (bstep HB3.out hb4); have HN4 := Lib.hid (HV3.out.go hb4); have HD4 := Lib.hid hv4
          clear hb4 hv4
          obtain ⟨o2, c2', rfl⟩ := HN4.out.shape
          obtain ⟨LN9, hln⟩ : ∃ L, RLen (dval (r.data.toList.take i)) = L := ⟨_, rfl⟩
          have HLN := Lib.hid hln
          rw [hln] at HN4 ⊢
          clear hln
          have hi1 : ((i : Int) + 1).toNat = i + 1 := by omega
          go_wp2_with fail
          refine (rdigits_any _ _ (by simp; omega)).mono ?_; rintro e w5 ⟨rfl, rfl⟩
          rw [toList_extract, show (r.data.toList.take r.size).drop (i + 1) = r.data.toList.drop (i + 1) from by rw [List.take_of_length_le (by rw [HRL.out]; exact Nat.le_refl _)]]
          cases hgd2 : goodD (r.data.toList.drop (i + 1))
          · have HGD2 := Lib.hid hgd2; clear hgd2
            have HRO : Hid (∀ e w', RReadOut w none e w' → RReadOut w (readR false r.data.toList) e w') := fun _ _ h => by rw [readR_none HSP.out.2 (.inl HGD2.out)]; exact h
            obtain ⟨r0, r1, r2, f0, f1, f2⟩ := BR4.out.facts
            go_wp2_with fail
            obtain ⟨e0, e1, e2, -, -, hb⟩ := boxq_ret (t := false) (n := 0) (d := 0) BR4.out (RNum.nil _) (RNum.nil _) HB4.out (by omega)
            refine bodyPost_ret (v := .tuple #[.agg #[.bool false, .slice none 0 0, .slice none 0 0], .bool false]) ?_ rfl (HRO.out _ _ (RReadOut.no hb))
            simp [results, Tryz.f62, go_sem, e0, e1, e2]
          · obtain ⟨hl300, hall⟩ := goodD_facts hgd2
            have HGD2 := Lib.hid hgd2
            have HRL8 := Lib.hid (rlen_dval hgd2)
            have HEX : Hid ((r.extract (i + 1) r.size).data.toList = r.data.toList.drop (i + 1)) := by
              show _ = _
              rw [toList_extract, List.take_of_length_le (by rw [HRL.out]; exact Nat.le_refl _)]
            have hsz : (r.extract (i + 1) r.size).size ≤ 1000000 := by
              have h1 : (r.extract (i + 1) r.size).data.toList.length ≤ 300 := by rw [HEX.out]; exact hl300
              rw [Array.length_toList] at h1
              exact Nat.le_trans h1 (by omega)
            have RN : Hid (∀ W, Calls Tryz.prog 90 #[.string (r.extract (i + 1) r.size)] W (RRet W (dval (r.data.toList.drop (i + 1))))) := fun W => by
              have := readNat_any (r.extract (i + 1) r.size) W hsz (by rw [HEX.out]; exact hall)
              rwa [HEX.out] at this
            clear hl300 hall hgd2 hsz
            go_wp2_with fail
            refine (RN.out _).mono ?_; rintro e w6 ⟨v6, rfl, hv6, hb6⟩
            have BR6 := Lib.hid (BR4.out.go hb6); have HB6 := Lib.hid (bstep HB4.out hb6); have HN6 := Lib.hid (HN4.out.go hb6); have HD6 := Lib.hid hv6
            clear hb6 hv6
            obtain ⟨o3, c3', rfl⟩ := HD6.out.shape
            obtain ⟨LD9, hld⟩ : ∃ L, RLen (dval (r.data.toList.drop (i + 1))) = L := ⟨_, rfl⟩
            have HLD := Lib.hid hld
            rw [hld] at HD6 ⊢
            clear hld
            have HNE : Hid (dval (r.data.toList.takeWhile (· != 47)) = dval (r.data.toList.take i)) := by show _ = _; rw [HSP.out.1]
            go_wp2_with fail
            refine (N1.out _).mono ?_; rintro e w7 ⟨v7, rfl, hv7, hb7⟩
            have BR7 := Lib.hid (BR6.out.go hb7); have HB7 := Lib.hid (bstep HB6.out hb7); have HN7 := Lib.hid (HN6.out.go hb7); have HD7 := Lib.hid (HD6.out.go hb7); have H17 := Lib.hid hv7
            clear hb7 hv7
            go_wp2_with fail
            refine (rcmp_any HD7.out H17.out (by have := HRL8.out; omega) (by rw [rlen_one]; omega)).mono ?_; rintro e w8 ⟨rfl, hb8⟩
            have BR8 := Lib.hid (BR7.out.go hb8); have HB8 := Lib.hid (bstep HB7.out hb8); have HN8 := Lib.hid (HN7.out.go hb8); have HD8 := Lib.hid (HD7.out.go hb8)
            clear hb8
            by_cases hd1 : dval (r.data.toList.drop (i + 1)) ≤ 1
            · have hcx : ∃ c : Int, cmpN (dval (r.data.toList.drop (i + 1))) 1 = c ∧ c ≤ 0 := by
                unfold cmpN
                split
                · exact ⟨_, rfl, by omega⟩
                · rw [if_neg (by omega)]; exact ⟨_, rfl, by omega⟩
              obtain ⟨c, hc, hc0⟩ := hcx
              rw [hc]
              have HD1 := Lib.hid hd1; clear hd1 hc
              have HRO : Hid (∀ e w', RReadOut w none e w' → RReadOut w (readR false r.data.toList) e w') := fun _ _ h => by rw [readR_none HSP.out.2 (.inr (.inl HD1.out))]; exact h
              obtain ⟨r0, r1, r2, f0, f1, f2⟩ := BR8.out.facts
              go_wp2_with fail
              obtain ⟨e0, e1, e2, -, -, hb⟩ := boxq_ret (t := false) (n := 0) (d := 0) BR8.out (RNum.nil _) (RNum.nil _) HB8.out (by omega)
              refine bodyPost_ret (v := .tuple #[.agg #[.bool false, .slice none 0 0, .slice none 0 0], .bool false]) ?_ rfl (HRO.out _ _ (RReadOut.no hb))
              simp [results, Tryz.f62, go_sem, e0, e1, e2]
            · have hc : cmpN (dval (r.data.toList.drop (i + 1))) 1 = 1 := by unfold cmpN; rw [if_neg (by omega), if_pos (by omega)]
              rw [hc]
              have HD1 : Hid (1 < dval (r.data.toList.drop (i + 1))) := by show _ < _; omega
              clear hc hd1
              go_wp2_with fail
              refine (rgcd_any HN8.out HD8.out (by have := HRL9.out; omega) (by have := HRL8.out; omega)).mono ?_; rintro e w9 ⟨v9, rfl, hv9, hb9⟩
              have BR9 := Lib.hid (BR8.out.go hb9); have HB9 := Lib.hid (bstep HB8.out hb9); have HN9 := Lib.hid (HN8.out.go hb9); have HD9 := Lib.hid (HD8.out.go hb9); have HG9 := Lib.hid hv9
              clear hb9 hv9
              go_wp2_with fail
              refine (N1.out _).mono ?_; rintro e w10 ⟨v10, rfl, hv10, hb10⟩
              have BR10 := Lib.hid (BR9.out.go hb10); have HB10 := Lib.hid (bstep HB9.out hb10); have HN10 := Lib.hid (HN9.out.go hb10); have HD10 := Lib.hid (HD9.out.go hb10); have HG10 := Lib.hid (HG9.out.go hb10); have H110 := Lib.hid hv10
              clear hb10 hv10
              go_wp2_with fail
              have lgd : RLen (Nat.gcd (dval (r.data.toList.take i)) (dval (r.data.toList.drop (i + 1)))) ≤ 75 := Nat.le_trans (rlen_mono (Nat.gcd_le_right _ (by have := HD1.out; omega))) HRL8.out
              refine (rcmp_any HG10.out H110.out (by omega) (by rw [rlen_one]; omega)).mono ?_; rintro e w11 ⟨rfl, hb11⟩
              have BR11 := Lib.hid (BR10.out.go hb11); have HB11 := Lib.hid (bstep HB10.out hb11); have HN11 := Lib.hid (HN10.out.go hb11); have HD11 := Lib.hid (HD10.out.go hb11)
              clear hb11 lgd
              by_cases hg1 : Nat.gcd (dval (r.data.toList.take i)) (dval (r.data.toList.drop (i + 1))) = 1
              · have hc : cmpN (Nat.gcd (dval (r.data.toList.take i)) (dval (r.data.toList.drop (i + 1)))) 1 = 0 := by rw [hg1]; rfl
                rw [hc]
                have HG1 := Lib.hid hg1; clear hg1 hc
                have HRO : Hid (∀ e w', RReadOut w (some (false, dval (r.data.toList.take i), dval (r.data.toList.drop (i + 1)))) e w' → RReadOut w (readR false r.data.toList) e w') := fun _ _ h => by rw [show readR false r.data.toList = some (false, dval (r.data.toList.take i), dval (r.data.toList.drop (i + 1))) from by rw [← HNE.out]; exact readR_some HSP.out.2 (by rw [HSP.out.1]; exact HGD.out) (fun h => by cases h) HGD2.out HD1.out (by rw [HNE.out]; exact HG1.out)]; exact h
                obtain ⟨r0, r1, r2, f0, f1, f2⟩ := BR11.out.facts
                go_wp2_with fail
                obtain ⟨e0, e1, e2, hn9, hd9, hb9⟩ := boxq_ret (t := false) BR11.out HN11.out HD11.out HB11.out (by omega)
                refine bodyPost_ret (v := .tuple #[.agg #[.bool false, .slice o2 LN9 c2', .slice o3 LD9 c3'], .bool true]) ?_ rfl (HRO.out _ _ ⟨_, hb9, rfl, _, _, _, _, _, _, rfl, hn9, hd9⟩)
                simp [results, Tryz.f62, go_sem, e0, e1, e2]
              · have hcx : ∃ c : Int, cmpN (Nat.gcd (dval (r.data.toList.take i)) (dval (r.data.toList.drop (i + 1)))) 1 = c ∧ c ≠ 0 := by
                  unfold cmpN
                  split
                  · exact ⟨_, rfl, by omega⟩
                  · rw [if_pos (by omega)]; exact ⟨_, rfl, by omega⟩
                obtain ⟨c, hc, hc0⟩ := hcx
                rw [hc]
                have tc : (c != 0) = true := by rw [bne_iff_ne]; exact hc0
                have HG1 := Lib.hid hg1; clear hg1 hc hc0
                have HRO : Hid (∀ e w', RReadOut w none e w' → RReadOut w (readR false r.data.toList) e w') := fun _ _ h => by rw [readR_none HSP.out.2 (.inr (.inr (by rw [HNE.out]; exact HG1.out)))]; exact h
                obtain ⟨r0, r1, r2, f0, f1, f2⟩ := BR11.out.facts
                go_wp2_with fail
                obtain ⟨e0, e1, e2, -, -, hb⟩ := boxq_ret (t := false) (n := 0) (d := 0) BR11.out (RNum.nil _) (RNum.nil _) HB11.out (by omega)
                refine bodyPost_ret (v := .tuple #[.agg #[.bool false, .slice none 0 0, .slice none 0 0], .bool false]) ?_ rfl (HRO.out _ _ (RReadOut.no hb))
                simp [results, Tryz.f62, go_sem, e0, e1, e2]
      · have hcn : r[i].toNat ≠ 47 := fun h => hc (UInt8.toNat_inj.1 h)
        have hce : ((r[i].toNat : Int) != 47) = true := by rw [bne_iff_ne]; omega
        have HN := Lib.hid (take_step hno.out hgi hc)
        clear hc hgi hno hcn
        go_wp2_with fail
        go_round
        case rel => exact ⟨i + 1, hlt, by go_num, HN.out⟩
        case measure => simp [intOf]; omega
    · obtain rfl : i = r.size := by omega
      have hsp := split_at (by rw [HRL.out]; exact hi) hno.out (.inl HRL.out.symm)
      rw [List.drop_of_length_le (by rw [HRL.out]; exact Nat.le_refl _), List.take_of_length_le (by rw [HRL.out]; exact Nat.le_refl _)] at hsp
      have HSP := Lib.hid hsp
      clear hno hsp hlt
      go_wp2_with fail
      refine (rdigits_any _ _ (by omega)).mono ?_; rintro e w2 ⟨rfl, rfl⟩
      cases hgd : goodD r.data.toList
      · have HGD := Lib.hid hgd; clear hgd
        have HRO : Hid (∀ e w', RReadOut w none e w' → RReadOut w (readR false r.data.toList) e w') := fun _ _ h => by rw [readR_no (by rw [HSP.out.1]; exact HGD.out)]; exact h
        obtain ⟨r0, r1, r2, f0, f1, f2⟩ := BR.out.facts
        go_wp2_with fail
        obtain ⟨e0, e1, e2, -, -, hb⟩ := boxq_ret (t := false) (n := 0) (d := 0) BR.out (RNum.nil _) (RNum.nil _) HB1.out (by omega)
        refine bodyPost_ret (v := .tuple #[.agg #[.bool false, .slice none 0 0, .slice none 0 0], .bool false]) ?_ rfl (HRO.out _ _ (RReadOut.no hb))
        simp [results, Tryz.f62, go_sem, e0, e1, e2]
      · obtain ⟨hl300, hall⟩ := goodD_facts hgd
        have HGD := Lib.hid hgd
        have HSZ9 : Hid (r.size ≤ 1000000) := by
          have := HRL.out
          show _ ≤ _
          omega
        have HRL9 := Lib.hid (rlen_dval hgd)
        go_wp2_with fail
        refine (readNat_any _ _ HSZ9.out hall).mono ?_; rintro e w3 ⟨v3, rfl, hv3, hb3⟩
        have BR3 := Lib.hid (BR.out.go hb3); have HB3 := Lib.hid (bstep HB1.out hb3); have HV3 := Lib.hid hv3
        clear hb3 hv3 hl300 hall hgd
        go_wp2_with fail
        refine (N1.out _).mono ?_; rintro e w4 ⟨v4, rfl, hv4, hb4⟩
        have BR4 := Lib.hid (BR3.out.go hb4); have HB4 := Lib.hid (bstep HB3.out hb4); have HN4 := Lib.hid (HV3.out.go hb4); have HD4 := Lib.hid hv4
        clear hb4 hv4
        obtain ⟨o2, c2', rfl⟩ := HN4.out.shape
        obtain ⟨LN9, hln⟩ : ∃ L, RLen (dval (r.data.toList)) = L := ⟨_, rfl⟩
        have HLN := Lib.hid hln
        rw [hln] at HN4 ⊢
        clear hln
        have HNE : Hid (dval (r.data.toList.takeWhile (· != 47)) = dval r.data.toList) := by show _ = _; rw [HSP.out.1]
        obtain ⟨o3, c3', rfl⟩ := HD4.out.shape
        rw [rlen_one] at HD4 ⊢
        have HRO : Hid (∀ e w', RReadOut w (some (false, dval r.data.toList, 1)) e w' → RReadOut w (readR false r.data.toList) e w') := fun _ _ h => by rw [show readR false r.data.toList = some (false, dval r.data.toList, 1) from by rw [← HNE.out]; exact readR_int (by rw [HSP.out.1]; exact HGD.out) (fun h => by cases h) HSP.out.2]; exact h
        obtain ⟨r0, r1, r2, f0, f1, f2⟩ := BR4.out.facts
        go_wp2_with fail
        obtain ⟨e0, e1, e2, hn9, hd9, hb9⟩ := boxq_ret (t := false) BR4.out HN4.out HD4.out HB4.out (by omega)
        refine bodyPost_ret (v := .tuple #[.agg #[.bool false, .slice o2 LN9 c2', .slice o3 1 c3'], .bool true]) ?_ rfl (HRO.out _ _ ⟨_, hb9, rfl, _, _, _, _, _, _, rfl, hn9, hd9⟩)
        simp [results, Tryz.f62, go_sem, e0, e1, e2]

set_option maxRecDepth 100000 in
set_option maxHeartbeats 8000000 in
theorem rread_empty (s : ByteArray) (w : World) (hs : s.size ≤ 140737488355328) (h1 : ¬ 0 < s.size) : Calls Tryz.prog 62 #[.string s] w (RReadOut w (none)) := by
  have N1 : Hid (∀ W, Calls Tryz.prog 73 #[.int .u64 1] W (RRet W 1)) := fun W => natOf_any 1 (by omega) W
  have bR := BoxQ.new w (.bool false) (.slice none 0 0) (.slice none 0 0)
  have B1 := below_alloc w (.cells #[.bool false, .slice none 0 0, .slice none 0 0] 76)
  go_enter Tryz.func62, Tryz.ntmps62
  have hg : goodD s.data.toList = false := by
    have : s.data.toList.length = s.size := by simp
    have h0 : s.data.toList = [] := List.length_eq_zero_iff.1 (by omega)
    rw [h0]; rfl
  have hz : s.size = 0 := by omega
  have HG := Lib.hid hg; have HZ := Lib.hid hz
  clear hg hz
  have BR := Lib.hid bR; have HB1 := Lib.hid B1
  clear bR B1
  go_wp2_with fail
  generalize w.alloc (.cells #[.bool false, .slice none 0 0, .slice none 0 0] 76) = w1 at *
  go_loop [5] (fun v5 => v5 = .int .i64 0) (fun _ => 0)
  case atStart => rfl
  case round =>
    subst hrel
    rw [HZ.out] at *
    go_wp2_with fail
    refine (rdigits_any _ _ (by first | (simp; done) | (have := HZ.out; omega))).mono ?_; rintro e w2 ⟨rfl, rfl⟩
    first
      | rw [show goodD ByteArray.empty.data.toList = false from rfl]
      | rw [HG.out]
      | rw [toList_extract, show (s.data.toList.take 0).drop 0 = [] from rfl, show goodD [] = false from rfl]
    obtain ⟨r0, r1, r2, f0, f1, f2⟩ := BR.out.facts
    go_wp2_with fail
    obtain ⟨e0, e1, e2, -, -, hb⟩ := boxq_ret (t := false) (n := 0) (d := 0) BR.out (RNum.nil _) (RNum.nil _) HB1.out (by omega)
    refine bodyPost_ret (v := .tuple #[.agg #[.bool false, .slice none 0 0, .slice none 0 0], .bool false]) ?_ rfl (RReadOut.no hb)
    simp [results, Tryz.f62, go_sem, e0, e1, e2]

/-- Read -/
theorem rread_any (s : ByteArray) (w : World) (hs : s.size ≤ 140737488355328) : Calls Tryz.prog 62 #[.string s] w (RReadOut w (readQ s.data.toList)) := by
  by_cases h0 : 0 < s.size
  · have hh : s.data.toList.head? = some s[0] := by
      rw [List.head?_eq_getElem?, List.getElem?_eq_getElem (by simpa using h0)]; rfl
    unfold readQ
    rw [hh]
    by_cases hm : s[0] = 45
    · rw [if_pos (by rw [hm])]
      have := rread_true s w hs h0 (by rw [hm]; rfl)
      rwa [List.drop_one] at this
    · rw [if_neg (by simpa using hm)]
      refine rread_false s w hs h0 ?_
      rw [beq_eq_false_iff_ne]
      intro h
      exact hm (UInt8.toNat_inj.1 (by have : (45 : UInt8).toNat = 45 := rfl; omega))
  · have hl : s.data.toList = [] := toList_nil (by omega)
    have := rread_empty s w hs h0
    rw [hl]
    exact this
end Go.Proofs.YtegobakoflbnfaaGreatDoor.QA
