/- The reference's divNat. -/
import Derived.Test.YtlkdahgfnfdakaaRefI
namespace Go.Proofs.Ytlkdahgfnfdakaa
open Go Go.RowKit Go.Shelf WN LM

def RRet2 (w : World) (n m : Nat) (e : Ending) (w' : World) : Prop := ∃ v1 v2, e = .returned (.tuple #[v1, v2]) ∧ RNum w' v1 n ∧ RNum w' v2 m ∧ Below w.heap.size w w'
theorem quo_op (P b : Int) (h0 : 0 ≤ P) (hb : 0 < b) (hP : P ≤ 9000000000000000000) (w : World) :
    (Op.intDiv .quo .i64 P b).run Try.prog w = .ok (.int .i64 (P / b)) w := by
  have hne : ¬ b = 0 := by omega
  have hq : P.tdiv b = P / b := Int.tdiv_eq_ediv_of_nonneg h0
  have h1 : P / b ≤ P := Int.ediv_le_self b h0
  have h2 : 0 ≤ P / b := Int.ediv_nonneg h0 (by omega)
  have hw : IntKind.i64.wrap (P / b) = P / b := IntWalk.i64_in _ ⟨by omega, by omega⟩
  simp [Op.intDiv, go_sem, hne, hq, hw]
/-- the first guess is never too great -/
theorem div_guess {r m f D : Nat} (hD : D = m / 10000 ^ f + (if 0 < f then 1 else 0)) : r / 10000 ^ f / D * m ≤ r := by
  rcases Nat.eq_zero_or_pos f with h | h
  · subst h
    simp only [Nat.pow_zero, Nat.div_one, Nat.lt_irrefl, if_false, Nat.add_zero] at *
    subst hD
    exact Nat.div_mul_le_self _ _
  · rw [if_pos h] at hD
    have h1 : m ≤ D * 10000 ^ f := by
      subst hD
      have := Nat.lt_mul_div_succ m (b := 10000 ^ f) (Nat.pow_pos (by omega))
      rw [Nat.mul_comm]; omega
    have h2 : r / 10000 ^ f / D * m ≤ r / 10000 ^ f / D * (D * 10000 ^ f) := Nat.mul_le_mul_left _ h1
    have h3 : r / 10000 ^ f / D * D ≤ r / 10000 ^ f := Nat.div_mul_le_self _ _
    have h4 : r / 10000 ^ f / D * D * 10000 ^ f ≤ r / 10000 ^ f * 10000 ^ f := Nat.mul_le_mul_right _ h3
    have h5 := Nat.div_mul_le_self r (10000 ^ f)
    rw [← Nat.mul_assoc] at h2
    omega
theorem div_top {r m M f : Nat} (hm : m < 10000 ^ M) (hf : f = M - 2) (hr : r < 10000 * m) : r / 10000 ^ f < 1000000000000 := by
  have h1 : r < 10000 ^ (M + 1) := by rw [Nat.pow_succ]; omega
  have h2 : 10000 ^ (M + 1) ≤ 10000 ^ (f + 3) := Nat.pow_le_pow_right (by omega) (by omega)
  have h3 : (10000 : Nat) ^ (f + 3) = 10000 ^ f * 1000000000000 := by rw [Nat.pow_add]
  exact Nat.div_lt_of_lt_mul (by omega)
def DivJ (la : List Nat) (m : Nat) (w wk : World) (g j r : Nat) (qs : List Nat) : Prop :=
  Row wk g .i64 3 (List.replicate j 0 ++ qs) ∧ j + qs.length = la.length ∧ Digs 10000 qs ∧ val 10000 (la.drop j) = val 10000 qs * m + r ∧ r < m ∧ w.heap.size ≤ g ∧ Below w.heap.size w wk
theorem DivJ.go {la : List Nat} {m : Nat} {w wk wx : World} {g j r : Nat} {qs : List Nat} (h : DivJ la m w wk g j r qs) (hb : Below wk.heap.size wk wx) : DivJ la m w wx g j r qs :=
  ⟨h.1.below hb h.1.lt, h.2.1, h.2.2.1, h.2.2.2.1, h.2.2.2.2.1, h.2.2.2.2.2.1, bstep h.2.2.2.2.2.2 hb⟩
theorem replicate_set (i x : Nat) (qs : List Nat) : (List.replicate (i + 1) 0 ++ qs).set i x = List.replicate i 0 ++ x :: qs := by
  rw [List.replicate_succ', List.append_assoc, List.set_append_right _ _ (by rw [List.length_replicate]; exact Nat.le_refl _), List.length_replicate, Nat.sub_self]
  rfl
theorem DivJ.step {la : List Nat} {m : Nat} {w wk : World} {g i r x : Nat} {qs : List Nat} {z : Int} (h : DivJ la m w wk g (i + 1) r qs) (hm : 0 < m) (hx : la[i]? = some x) (hx1 : x < 10000) (hz : z = (((x + 10000 * r) / m : Nat) : Int)) :
    DivJ la m w (wk.setCell ⟨g, i, none⟩ (.int .i64 z)) g i ((x + 10000 * r) % m) ((x + 10000 * r) / m :: qs) := by
  obtain ⟨h1, h2, h3, h4, h5, h6, h7⟩ := h
  subst hz
  have hil : i < la.length := by omega
  have hq : (x + 10000 * r) / m < 10000 := Nat.div_lt_of_lt_mul (by rw [Nat.mul_comm]; omega)
  refine ⟨?_, by rw [List.length_cons]; omega, h3.cons hq, ?_, Nat.mod_lt _ hm, h6, h7.setCell (p := ⟨g, i, none⟩) h6 _⟩
  · have := h1.set i ((x + 10000 * r) / m)
    rw [replicate_set] at this
    exact this
  · rw [List.getElem?_eq_getElem hil] at hx
    have hx := Option.some.inj hx
    rw [val_drop _ _ _ hil, h4, hx, val_cons]
    have := Nat.div_add_mod (x + 10000 * r) m
    generalize (x + 10000 * r) / m = q at *
    generalize (x + 10000 * r) % m = r2 at *
    generalize val 10000 qs = Q at *
    grind
def CopyI (lr : List Nat) (x : Nat) (W wr : World) (k : Nat) : Prop :=
  Row wr W.heap.size .i64 3 ((x :: lr.take k) ++ List.replicate (lr.length + 1 - (k + 1)) 0) ∧ Below W.heap.size W wr
theorem CopyI.step {lr : List Nat} {x : Nat} {W wr : World} {k y : Nat} {z : Int} (h : CopyI lr x W wr k) (hk : k < lr.length) (hy : lr[k]? = some y) (hz : z = (y : Int)) :
    CopyI lr x W (wr.setCell ⟨W.heap.size, k + 1, none⟩ (.int .i64 z)) (k + 1) := by
  obtain ⟨h1, h2⟩ := h
  subst hz
  refine ⟨?_, h2.setCell (p := ⟨W.heap.size, k + 1, none⟩) (Nat.le_refl _) _⟩
  have := h1.set (k + 1) y
  rw [set_next (s := x :: lr.take k) (by rw [List.length_cons, List.length_take]; omega) (by omega)] at this
  rw [List.take_add_one, hy]
  simpa using this
theorem CopyI.done {lr : List Nat} {x : Nat} {W wr : World} (h : CopyI lr x W wr lr.length) : Row wr W.heap.size .i64 3 (x :: lr) ∧ Below W.heap.size W wr := by
  obtain ⟨h1, h2⟩ := h
  rw [List.take_of_length_le (Nat.le_refl _), Nat.sub_self, List.replicate_zero, List.append_nil] at h1
  exact ⟨h1, h2⟩
theorem DivJ.start {la : List Nat} {m M : Nat} {w wk : World} {g j : Nat} (hj : j + (M - 1) = la.length) (hM : 1 ≤ M) (da : Digs 10000 la) (hm : 10000 ^ (M - 1) ≤ m) (hrow : Row wk g .i64 3 (List.replicate la.length 0)) (hg : w.heap.size ≤ g) (hb : Below w.heap.size w wk) :
    DivJ la m w wk g j (val 10000 (la.drop j)) (List.replicate (M - 1) 0) := by
  refine ⟨by rw [List.replicate_append_replicate, hj]; exact hrow, by rw [List.length_replicate]; exact hj, ?_, by rw [val_replicate_zero]; omega, ?_, hg, hb⟩
  · intro x hx
    rw [List.mem_replicate] at hx
    omega
  · have := val_lt (B := 10000) (by omega) (da.drop j)
    rw [List.length_drop, show la.length - j = M - 1 from by omega] at this
    omega
theorem DivJ.done {la : List Nat} {m : Nat} {w wk : World} {g r : Nat} {qs : List Nat} (h : DivJ la m w wk g 0 r qs) : Row wk g .i64 3 qs ∧ qs.length = la.length ∧ Digs 10000 qs ∧ val 10000 qs = val 10000 la / m ∧ r = val 10000 la % m := by
  obtain ⟨h1, h2, h3, h4, h5, h6, h7⟩ := h
  rw [List.drop_zero] at h4
  have h8 : val 10000 la / m = val 10000 qs ∧ val 10000 la % m = r := by
    rw [Nat.div_mod_unique (by omega)]
    constructor
    · rw [h4, Nat.mul_comm]; omega
    · exact h5
  refine ⟨by simpa using h1, by omega, h3, h8.1.symm, h8.2.symm⟩
theorem rsub_drop {oa : Option Addr} {l : List Nat} {cap : Nat} {w : World} (h : Rep w .i64 (.slice oa l.length cap) l) {b f : Nat} (ho : oa = some ⟨b, f, none⟩) (k : Nat) :
    ∀ j u, (nl .i64 (l.drop k))[j]? = some u → w.cell? ((⟨b, f + k, none⟩ : Addr).add j) = some u := by
  intro j u hu
  rw [nl, List.getElem?_map, List.getElem?_drop] at hu
  obtain ⟨x, hx, rfl⟩ := Option.map_eq_some_iff.1 hu
  have hkl : k + j < l.length := by
    rcases Nat.lt_or_ge (k + j) l.length with h | h
    · exact h
    · rw [List.getElem?_eq_none h] at hx; cases hx
  obtain ⟨b2, f2, e, -, hc⟩ := h.at' (Below.refl _ _) (k + j) hkl
  subst ho
  cases e
  rw [List.getElem?_eq_getElem hkl] at hx
  cases hx
  rw [show (⟨b, f + k, none⟩ : Addr).add j = ⟨b, f + (k + j), none⟩ from by unfold Addr.add; split <;> simp <;> omega]
  exact hc

theorem stop_rg {P : Program} {Q : Exit → Act → World → Prop} {r : Nat} {ops : Array Oper} {b : Bool} {a : Act} {w : World} (h : Hid ((Code.region r ops b).wp P Q a w)) : (Code.region r ops b).wp P Q a w := h.out
theorem stop_op {P : Program} {ops : Array Oper} {Q : Exit → Act → World → Prop} {o : Oper} {rest : List Oper} {a : Act} {w : World} (d : Nat) (_ : o.dst = some d) (h : Hid (wpList P ops Q (o :: rest) a w)) : wpList P ops Q (o :: rest) a w := h.out
theorem rtrim_rep {v : Value} {l : List Nat} {w : World} (h : Rep w .i64 v l) (hl : l.length ≤ 1000000000000) : Calls Try.prog 121 #[v] w fun e w' => ∃ v', e = .returned v' ∧ Rep w .i64 v' (trim l) ∧ w' = w := by
  obtain ⟨oa, cap, rfl, -, -⟩ := id h
  exact rtrim_any hl h
theorem rtrim_repN {v : Value} {l : List Nat} {w : World} {g : Nat} (h : Rep w .i64 v l) (hn : NotIn g v) (hl : l.length ≤ 1000000000000) : Calls Try.prog 121 #[v] w fun e w' => ∃ v', e = .returned v' ∧ Rep w .i64 v' (trim l) ∧ w' = w ∧ NotIn g v' := by
  obtain ⟨oa, cap, rfl, -, -⟩ := id h
  refine (rtrim_at hl h).mono fun e w' ⟨v, h1, h2, h3, k, hk⟩ => ⟨v, h1, h2, h3, fun b off n c e => ?_⟩
  rw [hk] at e
  cases e
  exact hn b off _ _ rfl
theorem own_new (w : World) (B : Nat) (hB : w.heap.size = B) : (w.alloc (.cells #[] 3)).ownsRow B 3 1 (.slice (some ⟨B, 0, none⟩) 0 0) 0 [] := by
  subst hB
  exact ⟨rfl, Or.inr ⟨w.heap.size, 0, #[], rfl, Nat.le_refl _, alloc_at _ _ _ rfl, Nat.le_refl _, by unfold maxLen; omega, rfl, rfl⟩⟩

set_option maxHeartbeats 16000000 in
set_option maxRecDepth 100000 in
theorem rdiv_any {va vb : Value} {n m : Nat} {w : World} (ha : RNum w va n) (hb : RNum w vb m) (h0 : 0 < m) (ln : RLen n ≤ 100000) (lm : RLen m ≤ 100000) : Calls Try.prog 117 #[va, vb] w (RRet2 w (n / m) (n % m)) := by
  have CMP : Hid (∀ w' v' r, Below w.heap.size w w' → RNum w' v' r → RLen r ≤ 100001 → Calls Try.prog 103 #[v', vb] w' fun e w2 => e = .returned (.int .i64 (cmpN r m)) ∧ Below w'.heap.size w' w2) := fun w' v' r h1 h2 h3 => rcmp_any h2 (hb.go h1) (by omega) (by omega)
  have SUBB : Hid (∀ w' v' r, Below w.heap.size w w' → RNum w' v' r → RLen r ≤ 100001 → m ≤ r → Calls Try.prog 113 #[v', vb] w' fun e w2 => ∃ v, e = .returned v ∧ RNum w2 v (r - m) ∧ Below w'.heap.size w' w2 ∧ ∃ k c, v = .slice (some ⟨w'.heap.size, 0, none⟩) k c) := fun w' v' r h1 h2 h3 h4 => rsub_at h2 (hb.go h1) h4 (by omega)
  have MULD : Hid (∀ w' (q : Nat), Below w.heap.size w w' → q < 9223372036854775808 → Calls Try.prog 135 #[vb, .int .i64 (q : Nat)] w' (RRet w' (m * q))) := fun w' q h1 h2 => rmuld_any (hb.go h1) (by omega) h2
  have TOPB : Hid (∀ w' (f : Nat), Below w.heap.size w w' → f ≤ 1000000 → m / 10000 ^ f < 1000000000000 → Calls Try.prog 134 #[vb, .int .i64 (f : Nat)] w' fun e w2 => e = .returned (.int .i64 ((m / 10000 ^ f : Nat) : Int)) ∧ w2 = w') := fun w' f h1 h2 h3 => rtop_any (hb.go h1) (by omega) h2 h3
  have HA := Lib.hid ha
  have HM0 := Lib.hid h0
  by_cases hlt : n < m
  · have hc : Hid (cmpN n m = -1) := by show _ = _; unfold cmpN; rw [if_pos hlt]
    have HLT := Lib.hid hlt
    obtain ⟨oa, capa, rfl⟩ := ha.shape
    obtain ⟨ob, capb, rfl⟩ := hb.shape
    clear ha hb h0 hlt lm
    have LN := Lib.hid ln; clear ln
    go_enter Try.func117, Try.ntmps117
    go_wp2_with fail
    refine (CMP.out w _ _ (Below.refl _ _) HA.out (by have := LN.out; omega)).mono ?_; rintro e w1 ⟨rfl, hb1⟩; rw [hc.out]
    go_wp2_with fail
    go_ret2
    exact ⟨_, _, rfl, by rw [Nat.div_eq_of_lt HLT.out]; exact RNum.nil _, by rw [Nat.mod_eq_of_lt HLT.out]; exact HA.out.go hb1, hb1⟩
  have HGE : Hid (m ≤ n) := by show _ ≤ _; omega
  have hrl := rlen_mono HGE.out
  have hcx : ∃ r : Int, cmpN n m = r ∧ 0 ≤ r ∧ r ≤ 1 := by
    unfold cmpN
    rw [if_neg hlt]
    split
    · exact ⟨_, rfl, by omega, by omega⟩
    · exact ⟨_, rfl, by omega, by omega⟩
  obtain ⟨rc, hrc, hrc0, hrc1⟩ := hcx
  have HRC := Lib.hid hrc
  have LNN : Hid (RLen n ≤ 100000) := ln
  have LMM : Hid (RLen m ≤ 100000) := lm
  have hM1 := rlen_pos h0
  obtain ⟨oa, capa, la, rfl, ra, ca, hva, hla⟩ := ha.open
  obtain ⟨ob, capb, lb, rfl, rb, cb, hvb, hlb⟩ := hb.open
  obtain ⟨N, hN⟩ : ∃ N, RLen n = N := ⟨_, rfl⟩
  obtain ⟨M, hM⟩ : ∃ M, RLen m = M := ⟨_, rfl⟩
  have hmlt : m < 10000 ^ M := by rw [← hM]; exact lt_rlen m
  have hmge : 10000 ^ (M - 1) ≤ m := by rw [← hM]; exact rlen_le h0
  have hnlt : n < 10000 ^ N := by rw [← hN]; exact lt_rlen n
  rw [hN] at ra hla ln hrl
  rw [hM] at rb hlb lm hM1 hrl
  rw [hN] at HA ⊢
  rw [hM] at CMP SUBB MULD TOPB ⊢
  have hNc := ra.len.2
  obtain ⟨b1, f1, hoa, -, -⟩ := ra.at' (Below.refl _ _) 0 (by omega)
  subst hoa
  have RA := Lib.hid ra; have CA := Lib.hid ca; have HLA := Lib.hid hla; have HVA := Lib.hid hva
  have LN := Lib.hid ln; have LM := Lib.hid lm; have HRL := Lib.hid hrl; have HM1 := Lib.hid hM1
  have HMLT := Lib.hid hmlt; have HMGE := Lib.hid hmge
  have hmkN := fun w => make_ints w (N : Int) (N : Int) (by omega) (by omega) (by omega)
  simp only [Int.toNat_natCast] at hmkN
  obtain ⟨K, hK⟩ : ∃ K, N - M + 1 = K := ⟨_, rfl⟩
  have hKN : K ≤ N := by omega
  have e1 : (N : Int) - (M : Int) + 1 = (K : Int) := by omega
  have HK := Lib.hid hK; have HKN := Lib.hid hKN; have E1 := Lib.hid e1
  have HSRC : Hid (∀ W, Below w.heap.size w W → ∀ j u, (nl .i64 (la.drop K))[j]? = some u → W.cell? ((⟨b1, f1 + K, none⟩ : Addr).add j) = some u) := fun W hW => by
    have h := RA.out.below hW (Nat.le_refl _)
    rw [← hla] at h
    exact rsub_drop h rfl K
  clear ha hb h0 hlt ra ca hla hva rb cb hvb hlb hN hM hmlt hmge hnlt hrc hK
  obtain ⟨i0, hi, hz0, hz1, hz2⟩ := info_parts Try.info3
  by_cases hM2 : 2 < M
  · have hKc : K < capa := by omega
    obtain ⟨f, hf⟩ : ∃ f, M - 2 = f := ⟨_, rfl⟩
    have hMf : (M : Int) - 2 = (f : Int) := by omega
    have hf0 : 0 < f := by omega
    have HF := Lib.hid hf; have HF0 := Lib.hid hf0
    have HMT : Hid (m / 10000 ^ f < 1000000000000) := div_top HMLT.out hf.symm (by have := HM0.out; omega)
    obtain ⟨D, hD⟩ : ∃ D, D = m / 10000 ^ f + (if 0 < f then 1 else 0) := ⟨_, rfl⟩
    have HD := Lib.hid hD
    have HDB : Hid (D ≤ 1000000000000) := by
      have := HMT.out
      show _ ≤ _
      rw [hD]; generalize m / 10000 ^ f = q at *; split <;> omega
    have HDP : Hid (0 < D) := by
      show 0 < D
      rw [hD]
      by_cases h : 0 < f
      · rw [if_pos h]; exact Nat.succ_pos _
      · have : f = 0 := by omega
        rw [if_neg h, this, Nat.pow_zero, Nat.div_one]
        exact HM0.out
    clear hf hD
    go_enter Try.func117, Try.ntmps117
    go_wp2_with fail
    refine (CMP.out w _ _ (Below.refl _ _) HA.out (by have := LNN.out; omega)).mono ?_; rintro e w1 ⟨rfl, hb1⟩; rw [HRC.out]
    have HB1 := Lib.hid hb1; clear hb1
    go_wp2_with (at_builtin; refine stop_op 31 rfl ?_)
    apply Lib.hid
    refine wpList_append_own _ rfl (.tmp 22) (.tmp 30) 58 rfl (w1.heap.size + 1) 3 i0 (.int .i64 0) 1 8 Try.underlying58 hi hz0 hz1 hz2 rfl (by decide) (.slice (some ⟨w1.heap.size + 1, 0, none⟩) 0 0) 0 [] rfl (own_new _ _ (by simp)) ⟨b1, f1 + K, none⟩ (N - K) (capa - K) (nl .i64 (la.drop K)) rfl (by rw [nl_length, List.length_drop, HLA.out, Nat.mul_one]) (HSRC.out _ ((HB1.out.alloc HB1.out.size _).alloc (by simp; have := HB1.out.size; omega) _)) (by intro u hu; rw [nl, List.mem_map] at hu; obtain ⟨x, -, rfl⟩ := hu; rfl) (by unfold maxLen; have := LN.out; omega) (by have := LN.out; omega) (by simp) ?_
    intro v' w2 hown1 hgrow1 _
    rw [List.nil_append] at hown1
    have HRV := Lib.hid (Rep.own hown1)
    have HNV : Hid (NotIn w1.heap.size v') := fun b off n c h => by
      obtain ⟨-, h2⟩ := hown1
      rcases h2 with ⟨h2, -⟩ | ⟨g, cap, cur, h2, h3, -⟩
      · rw [h2] at h; cases h
      · rw [h2] at h; cases h; omega
    have HRW : Hid (Row w2 w1.heap.size .i64 3 (List.replicate N 0)) := (hgrow1.block w1.heap.size (by simp; omega) (by simp [Value.ownBlock])).trans ((Row.new w1 .i64 3 _).alloc _)
    have HB2 : Hid (Below w.heap.size w w2) := ((HB1.out.alloc HB1.out.size _).alloc (by simp; have := HB1.out.size; omega) _).grown hgrow1 (by simp; have := HB1.out.size; omega) (fun k hk => by simp [Value.ownBlock] at hk; have := HB1.out.size; omega)
    go_wp2_with fail
    refine (rtrim_repN HRV.out HNV.out (by rw [List.length_drop]; have := HLA.out; have := LN.out; omega)).mono ?_; rintro e w3 ⟨v3, rfl, hv3, rfl, hn3⟩
    have HN3 := Lib.hid hn3; clear hn3
    have HR0 : Hid (RNum w3 v3 (val 10000 (la.drop K))) := ⟨_, hv3, canon_trim (CA.out.1.drop K), val_trim _ _⟩
    clear hv3 hown1 hgrow1
    obtain ⟨D0, hD0⟩ : ∃ D0, D0 = m / 10000 ^ f := ⟨_, rfl⟩
    have hD0b : D0 ≤ 1000000000000 := by have := HMT.out; rw [hD0]; omega
    have TB : Hid (Calls Try.prog 134 #[.slice ob M capb, .int .i64 ((f : Nat) : Int)] w3 fun e w2 => e = .returned (.int .i64 (D0 : Int)) ∧ w2 = w3) := by
      have := TOPB.out w3 f HB2.out (by have := HF.out; have := LM.out; omega) HMT.out
      skip
      rw [hD0]; exact this
    have hDD : (D : Int) = (D0 : Int) + 1 := by rw [HD.out, hD0]; rw [if_pos HF0.out]; rfl
    have HDD := Lib.hid hDD; have HD0B := Lib.hid hD0b
    clear hDD hD0
    go_wp2_with fail
    refine TB.out.mono ?_; rintro e w4 ⟨rfl, rfl⟩
    go_wp2_with fail
    rw [← HDD.out]
    clear hD0b
    have TOPR : Hid (∀ W v r, RNum W v r → RLen r ≤ 1000000 → r < 10000 * m → Calls Try.prog 134 #[v, .int .i64 ((f : Nat) : Int)] W fun e w2 => e = .returned (.int .i64 ((r / 10000 ^ f : Nat) : Int)) ∧ w2 = W) := fun W v r h1 h2 h3 => by
      have := rtop_any h1 h2 (f := f) (by have := HF.out; have := LM.out; omega) (div_top HMLT.out HF.out.symm h3)
      skip
      exact this
    go_loopw [7, 10] (fun v7 v10 wk => ∃ (j r : Nat), j ≤ K ∧ v10 = .int .i64 ((j : Int) - 1) ∧ Hid (RNum wk v7 r) ∧ Hid (NotIn w1.heap.size v7) ∧ Hid (∃ qs, DivJ la m w wk w1.heap.size j r qs)) (fun _ v10 _ => (intOf v10 + 1).toNat)
    case atStart =>
      refine ⟨K, _, Nat.le_refl _, ?_, HR0.out, HN3.out, ?_⟩
      · rw [show ((K : Nat) : Int) - 1 = (N : Int) - (M : Int) from by have := E1.out; omega]
      · exact ⟨_, DivJ.start (M := M) (by have := HK.out; have := HLA.out; have := HRL.out; have := HM1.out; omega) HM1.out CA.out.1 HMGE.out (by rw [HLA.out]; exact HRW.out) HB1.out.size HB2.out⟩
    case round =>
      obtain ⟨j, r, hj, rfl, hvr, -, hdj⟩ := hrel
      rename World => wk
      obtain ⟨qs, hdj0⟩ := hdj.out
      have DJ := Lib.hid hdj0; clear hdj hdj0
      have hbel : Hid (Below w.heap.size w wk) := DJ.out.2.2.2.2.2.2
      have HJ := Lib.hid hj; clear hj
      cases j with
      | zero =>
        have e0 : ((0 : Nat) : Int) - 1 = -1 := rfl
        rw [e0]
        obtain ⟨k1, k2, k3, k4, k5⟩ := DJ.out.done
        have hrep := Rep.rowAll k1 N (by rw [k2, HLA.out]; exact Nat.le_refl _)
        rw [k2, HLA.out] at hrep
        have HREP := Lib.hid hrep; have K3 := Lib.hid k3; have K4 := Lib.hid k4; have K5 := Lib.hid k5
        have K2 : Hid (qs.length ≤ 1000000000000) := by have := HLA.out; have := LN.out; show _ ≤ _; omega
        clear k1 k2 k3 k4 k5 hrep DJ e0
        go_wp2_with fail
        refine (rtrim_rep HREP.out K2.out).mono ?_; rintro e w5 ⟨v5, rfl, hv5, rfl⟩
        have HV5 := Lib.hid hv5; clear hv5
        go_wp2_with fail
        go_ret2
        exact ⟨_, _, rfl, ⟨_, HV5.out, canon_trim K3.out, by rw [val_trim, K4.out, HVA.out]⟩, by have := hvr.out; rwa [K5.out, HVA.out] at this, hbel.out⟩
      | succ i =>
        have e0 : ((i + 1 : Nat) : Int) - 1 = (i : Int) := by omega
        rw [e0]
        clear e0
        have hin : i < N := by have := HKN.out; have := HJ.out; omega
        have hil : i < la.length := by have := HLA.out; omega
        obtain ⟨b3, f3, hoa3, -, hx⟩ := RA.out.at' hbel.out i hil
        cases hoa3
        have GX : Hid (la[i]? = some la[i]) := List.getElem?_eq_getElem hil
        have hx1 : la[i] < 10000 := CA.out.1.get i hil
        generalize la[i] = x at *
        clear hil
        have hrb : r < m := DJ.out.2.2.2.2.1
        obtain ⟨orr, capr, lr, rfl, rr, cr, hvr2, hlr⟩ := hvr.out.open
        have hrlen : RLen r ≤ 100000 := Nat.le_trans (rlen_mono (Nat.le_of_lt hrb)) LMM.out
        obtain ⟨R, hR⟩ : ∃ R, RLen r = R := ⟨_, rfl⟩
        rw [hR] at rr hlr hrlen ⊢
        have RR := Lib.hid rr; have CR := Lib.hid cr; have HVR2 := Lib.hid hvr2; have HLR := Lib.hid hlr
        have HR9 : Hid (x + 10000 * r < 10000 * m) := by show _ < _; omega
        have HX1 := Lib.hid hx1
        clear hvr rr cr hvr2 hlr hR hrb hx1
        obtain ⟨T, hT⟩ : ∃ T, R + 1 = T := ⟨_, rfl⟩
        have hTi : (R : Int) + 1 = (T : Int) := by omega
        have hT0 : 0 < T := by omega
        have HTW : Hid (wrap64 ((R : Int) + 1) = (T : Int)) := by show _ = _; rw [hTi]; exact IntWalk.wrap64_in _ ⟨by omega, by omega⟩
        have hmkT := fun w => make_ints w (T : Int) (T : Int) (by omega) (by omega) (by omega)
        simp only [Int.toNat_natCast] at hmkT
        have HT := Lib.hid hT
        have HLEN : Hid (R ≤ 100000) := hrlen
        have HIN := Lib.hid hin
        have HX := Lib.hid hx
        have HTI := Lib.hid hTi; have HT0 := Lib.hid hT0
        clear hT hx hTi hT0 hrlen
        have HIQ : wrap64 ((i : Int) - 1) = (i : Int) - 1 := by unfold wrap64; have := LN.out; omega
        have HIQ2 := Lib.hid HIQ; clear HIQ
        have hTw := HTW.out
        try simp only []
        repeat (first | with_reducible apply stop_rg (r := 13) | go_step)
        apply Lib.hid
        clear hmkT hTw
        have hT0 := HT0.out
        have HRN := Lib.hid (Row.new wk .i64 3 (List.replicate T 0))
        have HBN := Lib.hid (below_alloc wk (.cells (ns .i64 (List.replicate T 0)) 3))
        generalize wk.alloc (.cells (ns .i64 (List.replicate T 0)) 3) = wn at *
        have hc1 : wn.cell? ⟨b1, f1 + i, none⟩ = some (.int .i64 (x : Nat)) := keepc HX.out HBN.out
        obtain ⟨cc, hcc, hff⟩ : ∃ v0, wn.cell? ⟨wk.heap.size, 0, none⟩ = some v0 ∧ wn.frozen? ⟨wk.heap.size, 0, none⟩ = false := by
          have h1 := HRN.out
          exact ⟨_, h1.cell 0 (by rw [List.length_replicate]; omega), h1.free _⟩
        have START : Hid (CopyI lr x wk (wn.setCell ⟨wk.heap.size, 0, none⟩ (.int .i64 (x : Int))) 0) := by
          refine ⟨?_, HBN.out.setCell (p := ⟨wk.heap.size, 0, none⟩) (Nat.le_refl _) _⟩
          have := HRN.out.set 0 x
          rw [← HT.out, List.replicate_succ, List.set_cons_zero] at this
          rw [HLR.out, List.take_zero, Nat.zero_add, Nat.add_sub_cancel]
          exact this
        go_wp2_with fail
        clear hc1 hcc hff
        go_loopw [12] (fun v12 wr => ∃ k : Nat, k ≤ R ∧ v12 = .int .i64 (k : Nat) ∧ Hid (CopyI lr x wk wr k)) (fun v12 _ => R - (intOf v12).toNat)
        case atStart => exact ⟨0, Nat.zero_le _, rfl, START.out⟩
        case round =>
          clear START
          rename World => wr
          obtain ⟨k, hk, rfl, hcp⟩ := hrel
          have CP := Lib.hid hcp.out; clear hcp
          by_cases hkR : k < R
          · have hkl : k < lr.length := by have := HLR.out; omega
            obtain ⟨b4, f4, ho4, -, hy⟩ := RR.out.at' CP.out.2 k hkl
            subst ho4
            have GY : Hid (lr[k]? = some lr[k]) := List.getElem?_eq_getElem hkl
            have HLK := Lib.hid hkl
            generalize lr[k] = y at *
            clear hkl
            have HKR := Lib.hid hkR
            obtain ⟨k1, hk1⟩ : ∃ k1, k1 = k + 1 := ⟨_, rfl⟩
            obtain ⟨cc, hcc, hff⟩ : ∃ v0, wr.cell? ⟨wk.heap.size, k1, none⟩ = some v0 ∧ wr.frozen? ⟨wk.heap.size, k1, none⟩ = false := by
              have h1 := CP.out.1
              exact ⟨_, h1.cell k1 (by have := HLR.out; simp; omega), h1.free _⟩
            have hkT : k1 < T := by have := HT.out; omega
            have HW : Hid (wrap64 ((k : Int) + 1) = (k1 : Int)) := by
              show _ = _
              rw [hk1]; exact IntWalk.wrap64_in _ ⟨by omega, by have := HLEN.out; omega⟩
            have ST : Hid (CopyI lr x wk (wr.setCell ⟨wk.heap.size, k1, none⟩ (.int .i64 (y : Int))) k1) := by rw [hk1]; exact CP.out.step HLK.out GY.out (z := (y : Int)) rfl
            have HK1 := Lib.hid hk1
            clear CP hk1 hk
            have hw := HW.out
            go_wp2_with fail
            clear hw
            go_roundw
            case rel => exact ⟨k1, by have := HK1.out; have := HKR.out; omega, congrArg (Value.int .i64) HW.out, ST.out⟩
            case measure => rw [HW.out]; have := HK1.out; have := HKR.out; simp [intOf]; omega
          · have hkR2 : k = lr.length := by have := HLR.out; omega
            have CP2 : CopyI lr x wk wr lr.length := by have := CP.out; rwa [hkR2] at this
            obtain ⟨c1, c2⟩ := CP2.done
            have hlx : (x :: lr).length = T := by rw [List.length_cons, HLR.out]; exact HT.out
            have hrep := Rep.rowAll c1 T (by omega)
            rw [hlx] at hrep
            have HREP := Lib.hid hrep; have C2 := Lib.hid c2
            have HLX : Hid ((x :: lr).length ≤ 1000000000000) := by show _ ≤ _; rw [hlx]; have := HT.out; have := HLEN.out; omega
            clear CP CP2 c1 c2 hlx hrep hkR2
            obtain ⟨r2, hr2⟩ : ∃ r2, r2 = x + 10000 * r := ⟨_, rfl⟩
            have HR2 := Lib.hid hr2
            have hr2m : r2 < 10000 * m := by rw [hr2]; exact HR9.out
            have HR2M := Lib.hid hr2m
            have HR2L : Hid (RLen r2 ≤ 100001) := by
              have h1 : r2 < 10000 ^ (M + 1) := by rw [Nat.pow_succ]; have := HMLT.out; omega
              have := rlen_lt h1
              have := LM.out
              show _ ≤ _; omega
            obtain ⟨P, hP⟩ : ∃ P, P = r2 / 10000 ^ f := ⟨_, rfl⟩
            have HPB : Hid (P < 1000000000000) := by show _ < _; rw [hP]; exact div_top HMLT.out HF.out.symm hr2m
            obtain ⟨q0, hq0⟩ : ∃ q0, q0 = P / D := ⟨_, rfl⟩
            have HQ0B : Hid (q0 < 1000000000000) := by show _ < _; rw [hq0]; exact Nat.lt_of_le_of_lt (Nat.div_le_self _ _) HPB.out
            have HQM : Hid (m * q0 ≤ r2) := by show _ ≤ _; rw [hq0, hP, Nat.mul_comm]; exact div_guess HD.out
            have hquo : wrap64 ((P : Int) / (D : Int)) = (q0 : Int) := by
              rw [← Int.natCast_ediv, ← hq0]; exact IntWalk.wrap64_in _ ⟨by omega, by have := HQ0B.out; omega⟩
            have HQUO := Lib.hid hquo
            have HP := Lib.hid hP
            clear hr2 hr2m hP hq0 hquo
            go_wp2_with fail
            refine (rtrim_rep HREP.out HLX.out).mono ?_; rintro e w5 ⟨v5, rfl, hv5, rfl⟩
            have HV5 : Hid (RNum w5 v5 r2) := ⟨_, hv5, canon_trim (CR.out.1.cons HX1.out), by rw [val_trim, val_cons, HVR2.out]; exact HR2.out.symm⟩
            clear hv5
            go_wp2_with fail
            refine (TOPR.out w5 v5 r2 HV5.out (by have := HR2L.out; omega) HR2M.out).mono ?_; rintro e w6 ⟨rfl, rfl⟩
            rw [← HP.out]
            have hDn : ¬ (D : Int) = 0 := by have := HDP.out; omega
            go_wp2_with fail
            rw [HQUO.out]
            clear hDn
            refine (MULD.out w6 q0 (bstep hbel.out C2.out) (by have := HQ0B.out; omega)).mono ?_; rintro e w7 ⟨v7, rfl, hv7, hb7⟩
            have HV7 := Lib.hid hv7; have HB7 := Lib.hid hb7; clear hv7 hb7
            go_wp2_with fail
            refine (rsub_at (HV5.out.go HB7.out) HV7.out HQM.out (by have := HR2L.out; omega)).mono ?_; rintro e w8 ⟨v8, rfl, hv8, hb8, k8, c8, hk8⟩
            have HN8 : Hid (NotIn w1.heap.size v8) := fun b off n c h => by
              rw [hk8] at h; cases h
              have h1 := DJ.out.1.lt; have h2 := C2.out.size; have h3 := HB7.out.size; omega
            clear hk8
            have HV8 := Lib.hid hv8; have HB8 := Lib.hid (bstep C2.out (bstep HB7.out hb8)); clear hv8 hb8
            go_wp2_with fail
            go_loopw [7, 13] (fun vr vq wt => ∃ q r1 : Nat, vq = .int .i64 (q : Nat) ∧ Hid (RNum wt vr r1) ∧ Hid (NotIn w1.heap.size vr) ∧ Hid (q * m + r1 = r2) ∧ Hid (Below wk.heap.size wk wt)) (fun _ vq _ => 10000 - (intOf vq).toNat)
            case atStart => exact ⟨q0, r2 - m * q0, rfl, HV8.out, HN8.out, by have := HQM.out; rw [Nat.mul_comm q0]; show _ = _; omega, HB8.out⟩
            case round =>
              clear HV8 HB8 HV7 HB7
              obtain ⟨q, r1, rfl, hv9, hn9, hqr, hb9⟩ := hrel
              rename World => wt
              have hqb : (q + 1) * m ≤ r2 → q + 1 < 10000 := fun h => by
                rcases Nat.lt_or_ge (q + 1) 10000 with h1 | h1
                · exact h1
                · have := Nat.mul_le_mul_right m h1
                  have := HR2M.out; omega
              have HQB := Lib.hid hqb; clear hqb
              have HR1 : Hid (RLen r1 ≤ 100001) := Nat.le_trans (rlen_mono (by have := hqr.out; omega)) HR2L.out
              by_cases hge : m ≤ r1
              · have hcx : ∃ c : Int, cmpN r1 m = c ∧ 0 ≤ c ∧ c ≤ 1 := by
                  unfold cmpN
                  rw [if_neg (by omega)]
                  split
                  · exact ⟨_, rfl, by omega, by omega⟩
                  · exact ⟨_, rfl, by omega, by omega⟩
                obtain ⟨c, hc, hc0, hc1⟩ := hcx
                have HC := Lib.hid hc; clear hc
                have HGE2 := Lib.hid hge; clear hge
                have hq1 : q + 1 < 10000 := HQB.out (by have := hqr.out; have := HGE2.out; rw [Nat.add_mul, Nat.one_mul]; omega)
                have HQ1 := Lib.hid hq1
                have hw : wrap64 ((q : Int) + 1) = ((q + 1 : Nat) : Int) := by unfold wrap64; omega
                have HW := Lib.hid hw
                clear hw hq1
                go_wp2_with fail
                refine (CMP.out wt _ r1 (bstep hbel.out hb9.out) hv9.out HR1.out).mono ?_; rintro e w9 ⟨rfl, hb10⟩; rw [HC.out]
                have HB10 := Lib.hid hb10; clear hb10
                go_wp2_with fail
                refine (SUBB.out w9 _ r1 (bstep (bstep hbel.out hb9.out) HB10.out) (hv9.out.go HB10.out) HR1.out HGE2.out).mono ?_; rintro e w10 ⟨v10, rfl, hv10, hb11, k10, c10, hk10⟩
                have HN10 : Hid (NotIn w1.heap.size v10) := fun b off n c h => by
                  rw [hk10] at h; cases h
                  have h1 := DJ.out.1.lt; have h2 := hb9.out.size; have h3 := HB10.out.size; omega
                clear hk10
                have HV10 := Lib.hid hv10; have HB11 := Lib.hid hb11; clear hv10 hb11
                go_wp2_with fail
                go_roundw
                case rel => exact ⟨q + 1, r1 - m, congrArg (Value.int .i64) HW.out, HV10.out, HN10.out, by have := hqr.out; have := HGE2.out; show _ = _; rw [Nat.add_mul, Nat.one_mul]; omega, bstep hb9.out (bstep HB10.out HB11.out)⟩
                case measure => rw [HW.out]; have := HQ1.out; simp [intOf]; omega
              · have hc : Hid (cmpN r1 m = -1) := by show _ = _; unfold cmpN; rw [if_pos (by omega)]
                have HDM : Hid (q = r2 / m ∧ r1 = r2 % m) := by
                  have h9 := hqr.out
                  have h8 : r2 / m = q ∧ r2 % m = r1 := by
                    rw [Nat.div_mod_unique HM0.out]
                    exact ⟨by rw [Nat.mul_comm]; omega, by omega⟩
                  exact ⟨h8.1.symm, h8.2.symm⟩
                clear hge
                go_wp2_with fail
                refine (CMP.out wt _ r1 (bstep hbel.out hb9.out) hv9.out HR1.out).mono ?_; rintro e w9 ⟨rfl, hb10⟩; rw [hc.out]
                have HB10 := Lib.hid hb10; clear hb10
                have DJ2 := Lib.hid (DJ.out.go (bstep hb9.out HB10.out))
                obtain ⟨cc, hcc, hff⟩ : ∃ v0, w9.cell? ⟨w1.heap.size, i, none⟩ = some v0 ∧ w9.frozen? ⟨w1.heap.size, i, none⟩ = false := by
                  have h1 := DJ2.out.1
                  exact ⟨_, h1.cell i (by rw [List.length_append, List.length_replicate]; omega), h1.free _⟩
                have ST := Lib.hid (DJ2.out.step HM0.out GX.out HX1.out (z := (q : Int)) (by rw [HDM.out.1, HR2.out]))
                have HRN := Lib.hid (((hv9.out.go HB10.out).set_far (i := i) (x := .int .i64 (q : Int)) hn9.out))
                have HRN2 : Hid (r1 = (x + 10000 * r) % m) := by show _ = _; rw [← HR2.out]; exact HDM.out.2
                go_wp2_with fail
                go_roundw
                case rel => exact ⟨i, _, by have := HJ.out; omega, by first | with_reducible rfl | exact congrArg (Value.int .i64) HIQ2.out, by have := HRN.out; rwa [HRN2.out] at this, hn9.out, _, ST.out⟩
                case measure => first | (rw [HIQ2.out]; simp [intOf]) | simp [intOf]
  · by_cases hKc : K < capa
    · obtain ⟨f, hf⟩ : ∃ f, M - 2 = f := ⟨_, rfl⟩
      have hf0 : ¬ 0 < f := by omega
      have hfz : f = 0 := by omega
      have hfi : ((f : Nat) : Int) = 0 := by omega
      have HFI := Lib.hid hfi; clear hfz hfi
      have HF := Lib.hid hf; have HF0 := Lib.hid hf0
      have HMT : Hid (m / 10000 ^ f < 1000000000000) := div_top HMLT.out hf.symm (by have := HM0.out; omega)
      obtain ⟨D, hD⟩ : ∃ D, D = m / 10000 ^ f + (if 0 < f then 1 else 0) := ⟨_, rfl⟩
      have HD := Lib.hid hD
      have HDB : Hid (D ≤ 1000000000000) := by
        have := HMT.out
        show _ ≤ _
        rw [hD]; generalize m / 10000 ^ f = q at *; split <;> omega
      have HDP : Hid (0 < D) := by
        show 0 < D
        rw [hD]
        by_cases h : 0 < f
        · rw [if_pos h]; exact Nat.succ_pos _
        · have : f = 0 := by omega
          rw [if_neg h, this, Nat.pow_zero, Nat.div_one]
          exact HM0.out
      clear hf hD
      go_enter Try.func117, Try.ntmps117
      go_wp2_with fail
      refine (CMP.out w _ _ (Below.refl _ _) HA.out (by have := LNN.out; omega)).mono ?_; rintro e w1 ⟨rfl, hb1⟩; rw [HRC.out]
      have HB1 := Lib.hid hb1; clear hb1
      go_wp2_with (at_builtin; refine stop_op 31 rfl ?_)
      apply Lib.hid
      refine wpList_append_own _ rfl (.tmp 22) (.tmp 30) 58 rfl (w1.heap.size + 1) 3 i0 (.int .i64 0) 1 8 Try.underlying58 hi hz0 hz1 hz2 rfl (by decide) (.slice (some ⟨w1.heap.size + 1, 0, none⟩) 0 0) 0 [] rfl (own_new _ _ (by simp)) ⟨b1, f1 + K, none⟩ (N - K) (capa - K) (nl .i64 (la.drop K)) rfl (by rw [nl_length, List.length_drop, HLA.out, Nat.mul_one]) (HSRC.out _ ((HB1.out.alloc HB1.out.size _).alloc (by simp; have := HB1.out.size; omega) _)) (by intro u hu; rw [nl, List.mem_map] at hu; obtain ⟨x, -, rfl⟩ := hu; rfl) (by unfold maxLen; have := LN.out; omega) (by have := LN.out; omega) (by simp) ?_
      intro v' w2 hown1 hgrow1 _
      rw [List.nil_append] at hown1
      have HRV := Lib.hid (Rep.own hown1)
      have HNV : Hid (NotIn w1.heap.size v') := fun b off n c h => by
        obtain ⟨-, h2⟩ := hown1
        rcases h2 with ⟨h2, -⟩ | ⟨g, cap, cur, h2, h3, -⟩
        · rw [h2] at h; cases h
        · rw [h2] at h; cases h; omega
      have HRW : Hid (Row w2 w1.heap.size .i64 3 (List.replicate N 0)) := (hgrow1.block w1.heap.size (by simp; omega) (by simp [Value.ownBlock])).trans ((Row.new w1 .i64 3 _).alloc _)
      have HB2 : Hid (Below w.heap.size w w2) := ((HB1.out.alloc HB1.out.size _).alloc (by simp; have := HB1.out.size; omega) _).grown hgrow1 (by simp; have := HB1.out.size; omega) (fun k hk => by simp [Value.ownBlock] at hk; have := HB1.out.size; omega)
      go_wp2_with fail
      refine (rtrim_repN HRV.out HNV.out (by rw [List.length_drop]; have := HLA.out; have := LN.out; omega)).mono ?_; rintro e w3 ⟨v3, rfl, hv3, rfl, hn3⟩
      have HN3 := Lib.hid hn3; clear hn3
      have HR0 : Hid (RNum w3 v3 (val 10000 (la.drop K))) := ⟨_, hv3, canon_trim (CA.out.1.drop K), val_trim _ _⟩
      clear hv3 hown1 hgrow1
      obtain ⟨D0, hD0⟩ : ∃ D0, D0 = m / 10000 ^ f := ⟨_, rfl⟩
      have hD0b : D0 ≤ 1000000000000 := by have := HMT.out; rw [hD0]; omega
      have TB : Hid (Calls Try.prog 134 #[.slice ob M capb, .int .i64 0] w3 fun e w2 => e = .returned (.int .i64 (D0 : Int)) ∧ w2 = w3) := by
        have := TOPB.out w3 f HB2.out (by have := HF.out; have := LM.out; omega) HMT.out
        rw [HFI.out] at this
        rw [hD0]; exact this
      have hDD : (D : Int) = (D0 : Int) := by rw [HD.out, hD0]; rw [if_neg HF0.out]; rfl
      have HDD := Lib.hid hDD; have HD0B := Lib.hid hD0b
      clear hDD hD0
      go_wp2_with fail
      refine TB.out.mono ?_; rintro e w4 ⟨rfl, rfl⟩
      go_wp2_with fail
      rw [← HDD.out]
      clear hD0b
      have TOPR : Hid (∀ W v r, RNum W v r → RLen r ≤ 1000000 → r < 10000 * m → Calls Try.prog 134 #[v, .int .i64 0] W fun e w2 => e = .returned (.int .i64 ((r / 10000 ^ f : Nat) : Int)) ∧ w2 = W) := fun W v r h1 h2 h3 => by
        have := rtop_any h1 h2 (f := f) (by have := HF.out; have := LM.out; omega) (div_top HMLT.out HF.out.symm h3)
        rw [HFI.out] at this
        exact this
      go_loopw [7, 10] (fun v7 v10 wk => ∃ (j r : Nat), j ≤ K ∧ v10 = .int .i64 ((j : Int) - 1) ∧ Hid (RNum wk v7 r) ∧ Hid (NotIn w1.heap.size v7) ∧ Hid (∃ qs, DivJ la m w wk w1.heap.size j r qs)) (fun _ v10 _ => (intOf v10 + 1).toNat)
      case atStart =>
        refine ⟨K, _, Nat.le_refl _, ?_, HR0.out, HN3.out, ?_⟩
        · rw [show ((K : Nat) : Int) - 1 = (N : Int) - (M : Int) from by have := E1.out; omega]
        · exact ⟨_, DivJ.start (M := M) (by have := HK.out; have := HLA.out; have := HRL.out; have := HM1.out; omega) HM1.out CA.out.1 HMGE.out (by rw [HLA.out]; exact HRW.out) HB1.out.size HB2.out⟩
      case round =>
        obtain ⟨j, r, hj, rfl, hvr, -, hdj⟩ := hrel
        rename World => wk
        obtain ⟨qs, hdj0⟩ := hdj.out
        have DJ := Lib.hid hdj0; clear hdj hdj0
        have hbel : Hid (Below w.heap.size w wk) := DJ.out.2.2.2.2.2.2
        have HJ := Lib.hid hj; clear hj
        cases j with
        | zero =>
          have e0 : ((0 : Nat) : Int) - 1 = -1 := rfl
          rw [e0]
          obtain ⟨k1, k2, k3, k4, k5⟩ := DJ.out.done
          have hrep := Rep.rowAll k1 N (by rw [k2, HLA.out]; exact Nat.le_refl _)
          rw [k2, HLA.out] at hrep
          have HREP := Lib.hid hrep; have K3 := Lib.hid k3; have K4 := Lib.hid k4; have K5 := Lib.hid k5
          have K2 : Hid (qs.length ≤ 1000000000000) := by have := HLA.out; have := LN.out; show _ ≤ _; omega
          clear k1 k2 k3 k4 k5 hrep DJ e0
          go_wp2_with fail
          refine (rtrim_rep HREP.out K2.out).mono ?_; rintro e w5 ⟨v5, rfl, hv5, rfl⟩
          have HV5 := Lib.hid hv5; clear hv5
          go_wp2_with fail
          go_ret2
          exact ⟨_, _, rfl, ⟨_, HV5.out, canon_trim K3.out, by rw [val_trim, K4.out, HVA.out]⟩, by have := hvr.out; rwa [K5.out, HVA.out] at this, hbel.out⟩
        | succ i =>
          have e0 : ((i + 1 : Nat) : Int) - 1 = (i : Int) := by omega
          rw [e0]
          clear e0
          have hin : i < N := by have := HKN.out; have := HJ.out; omega
          have hil : i < la.length := by have := HLA.out; omega
          obtain ⟨b3, f3, hoa3, -, hx⟩ := RA.out.at' hbel.out i hil
          cases hoa3
          have GX : Hid (la[i]? = some la[i]) := List.getElem?_eq_getElem hil
          have hx1 : la[i] < 10000 := CA.out.1.get i hil
          generalize la[i] = x at *
          clear hil
          have hrb : r < m := DJ.out.2.2.2.2.1
          obtain ⟨orr, capr, lr, rfl, rr, cr, hvr2, hlr⟩ := hvr.out.open
          have hrlen : RLen r ≤ 100000 := Nat.le_trans (rlen_mono (Nat.le_of_lt hrb)) LMM.out
          obtain ⟨R, hR⟩ : ∃ R, RLen r = R := ⟨_, rfl⟩
          rw [hR] at rr hlr hrlen ⊢
          have RR := Lib.hid rr; have CR := Lib.hid cr; have HVR2 := Lib.hid hvr2; have HLR := Lib.hid hlr
          have HR9 : Hid (x + 10000 * r < 10000 * m) := by show _ < _; omega
          have HX1 := Lib.hid hx1
          clear hvr rr cr hvr2 hlr hR hrb hx1
          obtain ⟨T, hT⟩ : ∃ T, R + 1 = T := ⟨_, rfl⟩
          have hTi : (R : Int) + 1 = (T : Int) := by omega
          have hT0 : 0 < T := by omega
          have HTW : Hid (wrap64 ((R : Int) + 1) = (T : Int)) := by show _ = _; rw [hTi]; exact IntWalk.wrap64_in _ ⟨by omega, by omega⟩
          have hmkT := fun w => make_ints w (T : Int) (T : Int) (by omega) (by omega) (by omega)
          simp only [Int.toNat_natCast] at hmkT
          have HT := Lib.hid hT
          have HLEN : Hid (R ≤ 100000) := hrlen
          have HIN := Lib.hid hin
          have HX := Lib.hid hx
          have HTI := Lib.hid hTi; have HT0 := Lib.hid hT0
          clear hT hx hTi hT0 hrlen
          have HIQ : wrap64 ((i : Int) - 1) = (i : Int) - 1 := by unfold wrap64; have := LN.out; omega
          have HIQ2 := Lib.hid HIQ; clear HIQ
          have hTw := HTW.out
          try simp only []
          repeat (first | with_reducible apply stop_rg (r := 13) | go_step)
          apply Lib.hid
          clear hmkT hTw
          have hT0 := HT0.out
          have HRN := Lib.hid (Row.new wk .i64 3 (List.replicate T 0))
          have HBN := Lib.hid (below_alloc wk (.cells (ns .i64 (List.replicate T 0)) 3))
          generalize wk.alloc (.cells (ns .i64 (List.replicate T 0)) 3) = wn at *
          have hc1 : wn.cell? ⟨b1, f1 + i, none⟩ = some (.int .i64 (x : Nat)) := keepc HX.out HBN.out
          obtain ⟨cc, hcc, hff⟩ : ∃ v0, wn.cell? ⟨wk.heap.size, 0, none⟩ = some v0 ∧ wn.frozen? ⟨wk.heap.size, 0, none⟩ = false := by
            have h1 := HRN.out
            exact ⟨_, h1.cell 0 (by rw [List.length_replicate]; omega), h1.free _⟩
          have START : Hid (CopyI lr x wk (wn.setCell ⟨wk.heap.size, 0, none⟩ (.int .i64 (x : Int))) 0) := by
            refine ⟨?_, HBN.out.setCell (p := ⟨wk.heap.size, 0, none⟩) (Nat.le_refl _) _⟩
            have := HRN.out.set 0 x
            rw [← HT.out, List.replicate_succ, List.set_cons_zero] at this
            rw [HLR.out, List.take_zero, Nat.zero_add, Nat.add_sub_cancel]
            exact this
          go_wp2_with fail
          clear hc1 hcc hff
          go_loopw [12] (fun v12 wr => ∃ k : Nat, k ≤ R ∧ v12 = .int .i64 (k : Nat) ∧ Hid (CopyI lr x wk wr k)) (fun v12 _ => R - (intOf v12).toNat)
          case atStart => exact ⟨0, Nat.zero_le _, rfl, START.out⟩
          case round =>
            clear START
            rename World => wr
            obtain ⟨k, hk, rfl, hcp⟩ := hrel
            have CP := Lib.hid hcp.out; clear hcp
            by_cases hkR : k < R
            · have hkl : k < lr.length := by have := HLR.out; omega
              obtain ⟨b4, f4, ho4, -, hy⟩ := RR.out.at' CP.out.2 k hkl
              subst ho4
              have GY : Hid (lr[k]? = some lr[k]) := List.getElem?_eq_getElem hkl
              have HLK := Lib.hid hkl
              generalize lr[k] = y at *
              clear hkl
              have HKR := Lib.hid hkR
              obtain ⟨k1, hk1⟩ : ∃ k1, k1 = k + 1 := ⟨_, rfl⟩
              obtain ⟨cc, hcc, hff⟩ : ∃ v0, wr.cell? ⟨wk.heap.size, k1, none⟩ = some v0 ∧ wr.frozen? ⟨wk.heap.size, k1, none⟩ = false := by
                have h1 := CP.out.1
                exact ⟨_, h1.cell k1 (by have := HLR.out; simp; omega), h1.free _⟩
              have hkT : k1 < T := by have := HT.out; omega
              have HW : Hid (wrap64 ((k : Int) + 1) = (k1 : Int)) := by
                show _ = _
                rw [hk1]; exact IntWalk.wrap64_in _ ⟨by omega, by have := HLEN.out; omega⟩
              have ST : Hid (CopyI lr x wk (wr.setCell ⟨wk.heap.size, k1, none⟩ (.int .i64 (y : Int))) k1) := by rw [hk1]; exact CP.out.step HLK.out GY.out (z := (y : Int)) rfl
              have HK1 := Lib.hid hk1
              clear CP hk1 hk
              have hw := HW.out
              go_wp2_with fail
              clear hw
              go_roundw
              case rel => exact ⟨k1, by have := HK1.out; have := HKR.out; omega, congrArg (Value.int .i64) HW.out, ST.out⟩
              case measure => rw [HW.out]; have := HK1.out; have := HKR.out; simp [intOf]; omega
            · have hkR2 : k = lr.length := by have := HLR.out; omega
              have CP2 : CopyI lr x wk wr lr.length := by have := CP.out; rwa [hkR2] at this
              obtain ⟨c1, c2⟩ := CP2.done
              have hlx : (x :: lr).length = T := by rw [List.length_cons, HLR.out]; exact HT.out
              have hrep := Rep.rowAll c1 T (by omega)
              rw [hlx] at hrep
              have HREP := Lib.hid hrep; have C2 := Lib.hid c2
              have HLX : Hid ((x :: lr).length ≤ 1000000000000) := by show _ ≤ _; rw [hlx]; have := HT.out; have := HLEN.out; omega
              clear CP CP2 c1 c2 hlx hrep hkR2
              obtain ⟨r2, hr2⟩ : ∃ r2, r2 = x + 10000 * r := ⟨_, rfl⟩
              have HR2 := Lib.hid hr2
              have hr2m : r2 < 10000 * m := by rw [hr2]; exact HR9.out
              have HR2M := Lib.hid hr2m
              have HR2L : Hid (RLen r2 ≤ 100001) := by
                have h1 : r2 < 10000 ^ (M + 1) := by rw [Nat.pow_succ]; have := HMLT.out; omega
                have := rlen_lt h1
                have := LM.out
                show _ ≤ _; omega
              obtain ⟨P, hP⟩ : ∃ P, P = r2 / 10000 ^ f := ⟨_, rfl⟩
              have HPB : Hid (P < 1000000000000) := by show _ < _; rw [hP]; exact div_top HMLT.out HF.out.symm hr2m
              obtain ⟨q0, hq0⟩ : ∃ q0, q0 = P / D := ⟨_, rfl⟩
              have HQ0B : Hid (q0 < 1000000000000) := by show _ < _; rw [hq0]; exact Nat.lt_of_le_of_lt (Nat.div_le_self _ _) HPB.out
              have HQM : Hid (m * q0 ≤ r2) := by show _ ≤ _; rw [hq0, hP, Nat.mul_comm]; exact div_guess HD.out
              have hquo : wrap64 ((P : Int) / (D : Int)) = (q0 : Int) := by
                rw [← Int.natCast_ediv, ← hq0]; exact IntWalk.wrap64_in _ ⟨by omega, by have := HQ0B.out; omega⟩
              have HQUO := Lib.hid hquo
              have HP := Lib.hid hP
              clear hr2 hr2m hP hq0 hquo
              go_wp2_with fail
              refine (rtrim_rep HREP.out HLX.out).mono ?_; rintro e w5 ⟨v5, rfl, hv5, rfl⟩
              have HV5 : Hid (RNum w5 v5 r2) := ⟨_, hv5, canon_trim (CR.out.1.cons HX1.out), by rw [val_trim, val_cons, HVR2.out]; exact HR2.out.symm⟩
              clear hv5
              go_wp2_with fail
              refine (TOPR.out w5 v5 r2 HV5.out (by have := HR2L.out; omega) HR2M.out).mono ?_; rintro e w6 ⟨rfl, rfl⟩
              rw [← HP.out]
              have hDn : ¬ (D : Int) = 0 := by have := HDP.out; omega
              go_wp2_with fail
              rw [HQUO.out]
              clear hDn
              refine (MULD.out w6 q0 (bstep hbel.out C2.out) (by have := HQ0B.out; omega)).mono ?_; rintro e w7 ⟨v7, rfl, hv7, hb7⟩
              have HV7 := Lib.hid hv7; have HB7 := Lib.hid hb7; clear hv7 hb7
              go_wp2_with fail
              refine (rsub_at (HV5.out.go HB7.out) HV7.out HQM.out (by have := HR2L.out; omega)).mono ?_; rintro e w8 ⟨v8, rfl, hv8, hb8, k8, c8, hk8⟩
              have HN8 : Hid (NotIn w1.heap.size v8) := fun b off n c h => by
                rw [hk8] at h; cases h
                have h1 := DJ.out.1.lt; have h2 := C2.out.size; have h3 := HB7.out.size; omega
              clear hk8
              have HV8 := Lib.hid hv8; have HB8 := Lib.hid (bstep C2.out (bstep HB7.out hb8)); clear hv8 hb8
              go_wp2_with fail
              go_loopw [7, 13] (fun vr vq wt => ∃ q r1 : Nat, vq = .int .i64 (q : Nat) ∧ Hid (RNum wt vr r1) ∧ Hid (NotIn w1.heap.size vr) ∧ Hid (q * m + r1 = r2) ∧ Hid (Below wk.heap.size wk wt)) (fun _ vq _ => 10000 - (intOf vq).toNat)
              case atStart => exact ⟨q0, r2 - m * q0, rfl, HV8.out, HN8.out, by have := HQM.out; rw [Nat.mul_comm q0]; show _ = _; omega, HB8.out⟩
              case round =>
                clear HV8 HB8 HV7 HB7
                obtain ⟨q, r1, rfl, hv9, hn9, hqr, hb9⟩ := hrel
                rename World => wt
                have hqb : (q + 1) * m ≤ r2 → q + 1 < 10000 := fun h => by
                  rcases Nat.lt_or_ge (q + 1) 10000 with h1 | h1
                  · exact h1
                  · have := Nat.mul_le_mul_right m h1
                    have := HR2M.out; omega
                have HQB := Lib.hid hqb; clear hqb
                have HR1 : Hid (RLen r1 ≤ 100001) := Nat.le_trans (rlen_mono (by have := hqr.out; omega)) HR2L.out
                by_cases hge : m ≤ r1
                · have hcx : ∃ c : Int, cmpN r1 m = c ∧ 0 ≤ c ∧ c ≤ 1 := by
                    unfold cmpN
                    rw [if_neg (by omega)]
                    split
                    · exact ⟨_, rfl, by omega, by omega⟩
                    · exact ⟨_, rfl, by omega, by omega⟩
                  obtain ⟨c, hc, hc0, hc1⟩ := hcx
                  have HC := Lib.hid hc; clear hc
                  have HGE2 := Lib.hid hge; clear hge
                  have hq1 : q + 1 < 10000 := HQB.out (by have := hqr.out; have := HGE2.out; rw [Nat.add_mul, Nat.one_mul]; omega)
                  have HQ1 := Lib.hid hq1
                  have hw : wrap64 ((q : Int) + 1) = ((q + 1 : Nat) : Int) := by unfold wrap64; omega
                  have HW := Lib.hid hw
                  clear hw hq1
                  go_wp2_with fail
                  refine (CMP.out wt _ r1 (bstep hbel.out hb9.out) hv9.out HR1.out).mono ?_; rintro e w9 ⟨rfl, hb10⟩; rw [HC.out]
                  have HB10 := Lib.hid hb10; clear hb10
                  go_wp2_with fail
                  refine (SUBB.out w9 _ r1 (bstep (bstep hbel.out hb9.out) HB10.out) (hv9.out.go HB10.out) HR1.out HGE2.out).mono ?_; rintro e w10 ⟨v10, rfl, hv10, hb11, k10, c10, hk10⟩
                  have HN10 : Hid (NotIn w1.heap.size v10) := fun b off n c h => by
                    rw [hk10] at h; cases h
                    have h1 := DJ.out.1.lt; have h2 := hb9.out.size; have h3 := HB10.out.size; omega
                  clear hk10
                  have HV10 := Lib.hid hv10; have HB11 := Lib.hid hb11; clear hv10 hb11
                  go_wp2_with fail
                  go_roundw
                  case rel => exact ⟨q + 1, r1 - m, congrArg (Value.int .i64) HW.out, HV10.out, HN10.out, by have := hqr.out; have := HGE2.out; show _ = _; rw [Nat.add_mul, Nat.one_mul]; omega, bstep hb9.out (bstep HB10.out HB11.out)⟩
                  case measure => rw [HW.out]; have := HQ1.out; simp [intOf]; omega
                · have hc : Hid (cmpN r1 m = -1) := by show _ = _; unfold cmpN; rw [if_pos (by omega)]
                  have HDM : Hid (q = r2 / m ∧ r1 = r2 % m) := by
                    have h9 := hqr.out
                    have h8 : r2 / m = q ∧ r2 % m = r1 := by
                      rw [Nat.div_mod_unique HM0.out]
                      exact ⟨by rw [Nat.mul_comm]; omega, by omega⟩
                    exact ⟨h8.1.symm, h8.2.symm⟩
                  clear hge
                  go_wp2_with fail
                  refine (CMP.out wt _ r1 (bstep hbel.out hb9.out) hv9.out HR1.out).mono ?_; rintro e w9 ⟨rfl, hb10⟩; rw [hc.out]
                  have HB10 := Lib.hid hb10; clear hb10
                  have DJ2 := Lib.hid (DJ.out.go (bstep hb9.out HB10.out))
                  obtain ⟨cc, hcc, hff⟩ : ∃ v0, w9.cell? ⟨w1.heap.size, i, none⟩ = some v0 ∧ w9.frozen? ⟨w1.heap.size, i, none⟩ = false := by
                    have h1 := DJ2.out.1
                    exact ⟨_, h1.cell i (by rw [List.length_append, List.length_replicate]; omega), h1.free _⟩
                  have ST := Lib.hid (DJ2.out.step HM0.out GX.out HX1.out (z := (q : Int)) (by rw [HDM.out.1, HR2.out]))
                  have HRN := Lib.hid (((hv9.out.go HB10.out).set_far (i := i) (x := .int .i64 (q : Int)) hn9.out))
                  have HRN2 : Hid (r1 = (x + 10000 * r) % m) := by show _ = _; rw [← HR2.out]; exact HDM.out.2
                  go_wp2_with fail
                  go_roundw
                  case rel => exact ⟨i, _, by have := HJ.out; omega, by first | with_reducible rfl | exact congrArg (Value.int .i64) HIQ2.out, by have := HRN.out; rwa [HRN2.out] at this, hn9.out, _, ST.out⟩
                  case measure => first | (rw [HIQ2.out]; simp [intOf]) | simp [intOf]
    · have hKe : K = capa := by omega
      obtain ⟨f, hf⟩ : ∃ f, M - 2 = f := ⟨_, rfl⟩
      have hf0 : ¬ 0 < f := by omega
      have hfz : f = 0 := by omega
      have hfi : ((f : Nat) : Int) = 0 := by omega
      have HFI := Lib.hid hfi; clear hfz hfi
      have HF := Lib.hid hf; have HF0 := Lib.hid hf0
      have HMT : Hid (m / 10000 ^ f < 1000000000000) := div_top HMLT.out hf.symm (by have := HM0.out; omega)
      obtain ⟨D, hD⟩ : ∃ D, D = m / 10000 ^ f + (if 0 < f then 1 else 0) := ⟨_, rfl⟩
      have HD := Lib.hid hD
      have HDB : Hid (D ≤ 1000000000000) := by
        have := HMT.out
        show _ ≤ _
        rw [hD]; generalize m / 10000 ^ f = q at *; split <;> omega
      have HDP : Hid (0 < D) := by
        show 0 < D
        rw [hD]
        by_cases h : 0 < f
        · rw [if_pos h]; exact Nat.succ_pos _
        · have : f = 0 := by omega
          rw [if_neg h, this, Nat.pow_zero, Nat.div_one]
          exact HM0.out
      clear hf hD
      go_enter Try.func117, Try.ntmps117
      go_wp2_with fail
      refine (CMP.out w _ _ (Below.refl _ _) HA.out (by have := LNN.out; omega)).mono ?_; rintro e w1 ⟨rfl, hb1⟩; rw [HRC.out]
      have HB1 := Lib.hid hb1; clear hb1
      go_wp2_with (at_builtin; refine stop_op 31 rfl ?_)
      apply Lib.hid
      refine wpList_append_own _ rfl (.tmp 22) (.tmp 30) 58 rfl (w1.heap.size + 1) 3 i0 (.int .i64 0) 1 8 Try.underlying58 hi hz0 hz1 hz2 rfl (by decide) (.slice (some ⟨w1.heap.size + 1, 0, none⟩) 0 0) 0 [] rfl (own_new _ _ (by simp)) ⟨b1, f1, none⟩ 0 0 (nl .i64 (la.drop K)) rfl (by rw [nl_length, List.length_drop]; have := HLA.out; omega) (fun j u hu => by rw [List.drop_of_length_le (by have := HLA.out; omega)] at hu; simp [nl] at hu) (by intro u hu; rw [nl, List.mem_map] at hu; obtain ⟨x, -, rfl⟩ := hu; rfl) (by unfold maxLen; have := LN.out; omega) (by have := LN.out; omega) (by simp) ?_
      intro v' w2 hown1 hgrow1 _
      rw [List.nil_append] at hown1
      have HRV := Lib.hid (Rep.own hown1)
      have HNV : Hid (NotIn w1.heap.size v') := fun b off n c h => by
        obtain ⟨-, h2⟩ := hown1
        rcases h2 with ⟨h2, -⟩ | ⟨g, cap, cur, h2, h3, -⟩
        · rw [h2] at h; cases h
        · rw [h2] at h; cases h; omega
      have HRW : Hid (Row w2 w1.heap.size .i64 3 (List.replicate N 0)) := (hgrow1.block w1.heap.size (by simp; omega) (by simp [Value.ownBlock])).trans ((Row.new w1 .i64 3 _).alloc _)
      have HB2 : Hid (Below w.heap.size w w2) := ((HB1.out.alloc HB1.out.size _).alloc (by simp; have := HB1.out.size; omega) _).grown hgrow1 (by simp; have := HB1.out.size; omega) (fun k hk => by simp [Value.ownBlock] at hk; have := HB1.out.size; omega)
      go_wp2_with fail
      refine (rtrim_repN HRV.out HNV.out (by rw [List.length_drop]; have := HLA.out; have := LN.out; omega)).mono ?_; rintro e w3 ⟨v3, rfl, hv3, rfl, hn3⟩
      have HN3 := Lib.hid hn3; clear hn3
      have HR0 : Hid (RNum w3 v3 (val 10000 (la.drop K))) := ⟨_, hv3, canon_trim (CA.out.1.drop K), val_trim _ _⟩
      clear hv3 hown1 hgrow1
      obtain ⟨D0, hD0⟩ : ∃ D0, D0 = m / 10000 ^ f := ⟨_, rfl⟩
      have hD0b : D0 ≤ 1000000000000 := by have := HMT.out; rw [hD0]; omega
      have TB : Hid (Calls Try.prog 134 #[.slice ob M capb, .int .i64 0] w3 fun e w2 => e = .returned (.int .i64 (D0 : Int)) ∧ w2 = w3) := by
        have := TOPB.out w3 f HB2.out (by have := HF.out; have := LM.out; omega) HMT.out
        rw [HFI.out] at this
        rw [hD0]; exact this
      have hDD : (D : Int) = (D0 : Int) := by rw [HD.out, hD0]; rw [if_neg HF0.out]; rfl
      have HDD := Lib.hid hDD; have HD0B := Lib.hid hD0b
      clear hDD hD0
      go_wp2_with fail
      refine TB.out.mono ?_; rintro e w4 ⟨rfl, rfl⟩
      go_wp2_with fail
      rw [← HDD.out]
      clear hD0b
      have TOPR : Hid (∀ W v r, RNum W v r → RLen r ≤ 1000000 → r < 10000 * m → Calls Try.prog 134 #[v, .int .i64 0] W fun e w2 => e = .returned (.int .i64 ((r / 10000 ^ f : Nat) : Int)) ∧ w2 = W) := fun W v r h1 h2 h3 => by
        have := rtop_any h1 h2 (f := f) (by have := HF.out; have := LM.out; omega) (div_top HMLT.out HF.out.symm h3)
        rw [HFI.out] at this
        exact this
      go_loopw [7, 10] (fun v7 v10 wk => ∃ (j r : Nat), j ≤ K ∧ v10 = .int .i64 ((j : Int) - 1) ∧ Hid (RNum wk v7 r) ∧ Hid (NotIn w1.heap.size v7) ∧ Hid (∃ qs, DivJ la m w wk w1.heap.size j r qs)) (fun _ v10 _ => (intOf v10 + 1).toNat)
      case atStart =>
        refine ⟨K, _, Nat.le_refl _, ?_, HR0.out, HN3.out, ?_⟩
        · rw [show ((K : Nat) : Int) - 1 = (N : Int) - (M : Int) from by have := E1.out; omega]
        · exact ⟨_, DivJ.start (M := M) (by have := HK.out; have := HLA.out; have := HRL.out; have := HM1.out; omega) HM1.out CA.out.1 HMGE.out (by rw [HLA.out]; exact HRW.out) HB1.out.size HB2.out⟩
      case round =>
        obtain ⟨j, r, hj, rfl, hvr, -, hdj⟩ := hrel
        rename World => wk
        obtain ⟨qs, hdj0⟩ := hdj.out
        have DJ := Lib.hid hdj0; clear hdj hdj0
        have hbel : Hid (Below w.heap.size w wk) := DJ.out.2.2.2.2.2.2
        have HJ := Lib.hid hj; clear hj
        cases j with
        | zero =>
          have e0 : ((0 : Nat) : Int) - 1 = -1 := rfl
          rw [e0]
          obtain ⟨k1, k2, k3, k4, k5⟩ := DJ.out.done
          have hrep := Rep.rowAll k1 N (by rw [k2, HLA.out]; exact Nat.le_refl _)
          rw [k2, HLA.out] at hrep
          have HREP := Lib.hid hrep; have K3 := Lib.hid k3; have K4 := Lib.hid k4; have K5 := Lib.hid k5
          have K2 : Hid (qs.length ≤ 1000000000000) := by have := HLA.out; have := LN.out; show _ ≤ _; omega
          clear k1 k2 k3 k4 k5 hrep DJ e0
          go_wp2_with fail
          refine (rtrim_rep HREP.out K2.out).mono ?_; rintro e w5 ⟨v5, rfl, hv5, rfl⟩
          have HV5 := Lib.hid hv5; clear hv5
          go_wp2_with fail
          go_ret2
          exact ⟨_, _, rfl, ⟨_, HV5.out, canon_trim K3.out, by rw [val_trim, K4.out, HVA.out]⟩, by have := hvr.out; rwa [K5.out, HVA.out] at this, hbel.out⟩
        | succ i =>
          have e0 : ((i + 1 : Nat) : Int) - 1 = (i : Int) := by omega
          rw [e0]
          clear e0
          have hin : i < N := by have := HKN.out; have := HJ.out; omega
          have hil : i < la.length := by have := HLA.out; omega
          obtain ⟨b3, f3, hoa3, -, hx⟩ := RA.out.at' hbel.out i hil
          cases hoa3
          have GX : Hid (la[i]? = some la[i]) := List.getElem?_eq_getElem hil
          have hx1 : la[i] < 10000 := CA.out.1.get i hil
          generalize la[i] = x at *
          clear hil
          have hrb : r < m := DJ.out.2.2.2.2.1
          obtain ⟨orr, capr, lr, rfl, rr, cr, hvr2, hlr⟩ := hvr.out.open
          have hrlen : RLen r ≤ 100000 := Nat.le_trans (rlen_mono (Nat.le_of_lt hrb)) LMM.out
          obtain ⟨R, hR⟩ : ∃ R, RLen r = R := ⟨_, rfl⟩
          rw [hR] at rr hlr hrlen ⊢
          have RR := Lib.hid rr; have CR := Lib.hid cr; have HVR2 := Lib.hid hvr2; have HLR := Lib.hid hlr
          have HR9 : Hid (x + 10000 * r < 10000 * m) := by show _ < _; omega
          have HX1 := Lib.hid hx1
          clear hvr rr cr hvr2 hlr hR hrb hx1
          obtain ⟨T, hT⟩ : ∃ T, R + 1 = T := ⟨_, rfl⟩
          have hTi : (R : Int) + 1 = (T : Int) := by omega
          have hT0 : 0 < T := by omega
          have HTW : Hid (wrap64 ((R : Int) + 1) = (T : Int)) := by show _ = _; rw [hTi]; exact IntWalk.wrap64_in _ ⟨by omega, by omega⟩
          have hmkT := fun w => make_ints w (T : Int) (T : Int) (by omega) (by omega) (by omega)
          simp only [Int.toNat_natCast] at hmkT
          have HT := Lib.hid hT
          have HLEN : Hid (R ≤ 100000) := hrlen
          have HIN := Lib.hid hin
          have HX := Lib.hid hx
          have HTI := Lib.hid hTi; have HT0 := Lib.hid hT0
          clear hT hx hTi hT0 hrlen
          have HIQ : wrap64 ((i : Int) - 1) = (i : Int) - 1 := by unfold wrap64; have := LN.out; omega
          have HIQ2 := Lib.hid HIQ; clear HIQ
          have hTw := HTW.out
          try simp only []
          repeat (first | with_reducible apply stop_rg (r := 13) | go_step)
          apply Lib.hid
          clear hmkT hTw
          have hT0 := HT0.out
          have HRN := Lib.hid (Row.new wk .i64 3 (List.replicate T 0))
          have HBN := Lib.hid (below_alloc wk (.cells (ns .i64 (List.replicate T 0)) 3))
          generalize wk.alloc (.cells (ns .i64 (List.replicate T 0)) 3) = wn at *
          have hc1 : wn.cell? ⟨b1, f1 + i, none⟩ = some (.int .i64 (x : Nat)) := keepc HX.out HBN.out
          obtain ⟨cc, hcc, hff⟩ : ∃ v0, wn.cell? ⟨wk.heap.size, 0, none⟩ = some v0 ∧ wn.frozen? ⟨wk.heap.size, 0, none⟩ = false := by
            have h1 := HRN.out
            exact ⟨_, h1.cell 0 (by rw [List.length_replicate]; omega), h1.free _⟩
          have START : Hid (CopyI lr x wk (wn.setCell ⟨wk.heap.size, 0, none⟩ (.int .i64 (x : Int))) 0) := by
            refine ⟨?_, HBN.out.setCell (p := ⟨wk.heap.size, 0, none⟩) (Nat.le_refl _) _⟩
            have := HRN.out.set 0 x
            rw [← HT.out, List.replicate_succ, List.set_cons_zero] at this
            rw [HLR.out, List.take_zero, Nat.zero_add, Nat.add_sub_cancel]
            exact this
          go_wp2_with fail
          clear hc1 hcc hff
          go_loopw [12] (fun v12 wr => ∃ k : Nat, k ≤ R ∧ v12 = .int .i64 (k : Nat) ∧ Hid (CopyI lr x wk wr k)) (fun v12 _ => R - (intOf v12).toNat)
          case atStart => exact ⟨0, Nat.zero_le _, rfl, START.out⟩
          case round =>
            clear START
            rename World => wr
            obtain ⟨k, hk, rfl, hcp⟩ := hrel
            have CP := Lib.hid hcp.out; clear hcp
            by_cases hkR : k < R
            · have hkl : k < lr.length := by have := HLR.out; omega
              obtain ⟨b4, f4, ho4, -, hy⟩ := RR.out.at' CP.out.2 k hkl
              subst ho4
              have GY : Hid (lr[k]? = some lr[k]) := List.getElem?_eq_getElem hkl
              have HLK := Lib.hid hkl
              generalize lr[k] = y at *
              clear hkl
              have HKR := Lib.hid hkR
              obtain ⟨k1, hk1⟩ : ∃ k1, k1 = k + 1 := ⟨_, rfl⟩
              obtain ⟨cc, hcc, hff⟩ : ∃ v0, wr.cell? ⟨wk.heap.size, k1, none⟩ = some v0 ∧ wr.frozen? ⟨wk.heap.size, k1, none⟩ = false := by
                have h1 := CP.out.1
                exact ⟨_, h1.cell k1 (by have := HLR.out; simp; omega), h1.free _⟩
              have hkT : k1 < T := by have := HT.out; omega
              have HW : Hid (wrap64 ((k : Int) + 1) = (k1 : Int)) := by
                show _ = _
                rw [hk1]; exact IntWalk.wrap64_in _ ⟨by omega, by have := HLEN.out; omega⟩
              have ST : Hid (CopyI lr x wk (wr.setCell ⟨wk.heap.size, k1, none⟩ (.int .i64 (y : Int))) k1) := by rw [hk1]; exact CP.out.step HLK.out GY.out (z := (y : Int)) rfl
              have HK1 := Lib.hid hk1
              clear CP hk1 hk
              have hw := HW.out
              go_wp2_with fail
              clear hw
              go_roundw
              case rel => exact ⟨k1, by have := HK1.out; have := HKR.out; omega, congrArg (Value.int .i64) HW.out, ST.out⟩
              case measure => rw [HW.out]; have := HK1.out; have := HKR.out; simp [intOf]; omega
            · have hkR2 : k = lr.length := by have := HLR.out; omega
              have CP2 : CopyI lr x wk wr lr.length := by have := CP.out; rwa [hkR2] at this
              obtain ⟨c1, c2⟩ := CP2.done
              have hlx : (x :: lr).length = T := by rw [List.length_cons, HLR.out]; exact HT.out
              have hrep := Rep.rowAll c1 T (by omega)
              rw [hlx] at hrep
              have HREP := Lib.hid hrep; have C2 := Lib.hid c2
              have HLX : Hid ((x :: lr).length ≤ 1000000000000) := by show _ ≤ _; rw [hlx]; have := HT.out; have := HLEN.out; omega
              clear CP CP2 c1 c2 hlx hrep hkR2
              obtain ⟨r2, hr2⟩ : ∃ r2, r2 = x + 10000 * r := ⟨_, rfl⟩
              have HR2 := Lib.hid hr2
              have hr2m : r2 < 10000 * m := by rw [hr2]; exact HR9.out
              have HR2M := Lib.hid hr2m
              have HR2L : Hid (RLen r2 ≤ 100001) := by
                have h1 : r2 < 10000 ^ (M + 1) := by rw [Nat.pow_succ]; have := HMLT.out; omega
                have := rlen_lt h1
                have := LM.out
                show _ ≤ _; omega
              obtain ⟨P, hP⟩ : ∃ P, P = r2 / 10000 ^ f := ⟨_, rfl⟩
              have HPB : Hid (P < 1000000000000) := by show _ < _; rw [hP]; exact div_top HMLT.out HF.out.symm hr2m
              obtain ⟨q0, hq0⟩ : ∃ q0, q0 = P / D := ⟨_, rfl⟩
              have HQ0B : Hid (q0 < 1000000000000) := by show _ < _; rw [hq0]; exact Nat.lt_of_le_of_lt (Nat.div_le_self _ _) HPB.out
              have HQM : Hid (m * q0 ≤ r2) := by show _ ≤ _; rw [hq0, hP, Nat.mul_comm]; exact div_guess HD.out
              have hquo : wrap64 ((P : Int) / (D : Int)) = (q0 : Int) := by
                rw [← Int.natCast_ediv, ← hq0]; exact IntWalk.wrap64_in _ ⟨by omega, by have := HQ0B.out; omega⟩
              have HQUO := Lib.hid hquo
              have HP := Lib.hid hP
              clear hr2 hr2m hP hq0 hquo
              go_wp2_with fail
              refine (rtrim_rep HREP.out HLX.out).mono ?_; rintro e w5 ⟨v5, rfl, hv5, rfl⟩
              have HV5 : Hid (RNum w5 v5 r2) := ⟨_, hv5, canon_trim (CR.out.1.cons HX1.out), by rw [val_trim, val_cons, HVR2.out]; exact HR2.out.symm⟩
              clear hv5
              go_wp2_with fail
              refine (TOPR.out w5 v5 r2 HV5.out (by have := HR2L.out; omega) HR2M.out).mono ?_; rintro e w6 ⟨rfl, rfl⟩
              rw [← HP.out]
              have hDn : ¬ (D : Int) = 0 := by have := HDP.out; omega
              go_wp2_with fail
              rw [HQUO.out]
              clear hDn
              refine (MULD.out w6 q0 (bstep hbel.out C2.out) (by have := HQ0B.out; omega)).mono ?_; rintro e w7 ⟨v7, rfl, hv7, hb7⟩
              have HV7 := Lib.hid hv7; have HB7 := Lib.hid hb7; clear hv7 hb7
              go_wp2_with fail
              refine (rsub_at (HV5.out.go HB7.out) HV7.out HQM.out (by have := HR2L.out; omega)).mono ?_; rintro e w8 ⟨v8, rfl, hv8, hb8, k8, c8, hk8⟩
              have HN8 : Hid (NotIn w1.heap.size v8) := fun b off n c h => by
                rw [hk8] at h; cases h
                have h1 := DJ.out.1.lt; have h2 := C2.out.size; have h3 := HB7.out.size; omega
              clear hk8
              have HV8 := Lib.hid hv8; have HB8 := Lib.hid (bstep C2.out (bstep HB7.out hb8)); clear hv8 hb8
              go_wp2_with fail
              go_loopw [7, 13] (fun vr vq wt => ∃ q r1 : Nat, vq = .int .i64 (q : Nat) ∧ Hid (RNum wt vr r1) ∧ Hid (NotIn w1.heap.size vr) ∧ Hid (q * m + r1 = r2) ∧ Hid (Below wk.heap.size wk wt)) (fun _ vq _ => 10000 - (intOf vq).toNat)
              case atStart => exact ⟨q0, r2 - m * q0, rfl, HV8.out, HN8.out, by have := HQM.out; rw [Nat.mul_comm q0]; show _ = _; omega, HB8.out⟩
              case round =>
                clear HV8 HB8 HV7 HB7
                obtain ⟨q, r1, rfl, hv9, hn9, hqr, hb9⟩ := hrel
                rename World => wt
                have hqb : (q + 1) * m ≤ r2 → q + 1 < 10000 := fun h => by
                  rcases Nat.lt_or_ge (q + 1) 10000 with h1 | h1
                  · exact h1
                  · have := Nat.mul_le_mul_right m h1
                    have := HR2M.out; omega
                have HQB := Lib.hid hqb; clear hqb
                have HR1 : Hid (RLen r1 ≤ 100001) := Nat.le_trans (rlen_mono (by have := hqr.out; omega)) HR2L.out
                by_cases hge : m ≤ r1
                · have hcx : ∃ c : Int, cmpN r1 m = c ∧ 0 ≤ c ∧ c ≤ 1 := by
                    unfold cmpN
                    rw [if_neg (by omega)]
                    split
                    · exact ⟨_, rfl, by omega, by omega⟩
                    · exact ⟨_, rfl, by omega, by omega⟩
                  obtain ⟨c, hc, hc0, hc1⟩ := hcx
                  have HC := Lib.hid hc; clear hc
                  have HGE2 := Lib.hid hge; clear hge
                  have hq1 : q + 1 < 10000 := HQB.out (by have := hqr.out; have := HGE2.out; rw [Nat.add_mul, Nat.one_mul]; omega)
                  have HQ1 := Lib.hid hq1
                  have hw : wrap64 ((q : Int) + 1) = ((q + 1 : Nat) : Int) := by unfold wrap64; omega
                  have HW := Lib.hid hw
                  clear hw hq1
                  go_wp2_with fail
                  refine (CMP.out wt _ r1 (bstep hbel.out hb9.out) hv9.out HR1.out).mono ?_; rintro e w9 ⟨rfl, hb10⟩; rw [HC.out]
                  have HB10 := Lib.hid hb10; clear hb10
                  go_wp2_with fail
                  refine (SUBB.out w9 _ r1 (bstep (bstep hbel.out hb9.out) HB10.out) (hv9.out.go HB10.out) HR1.out HGE2.out).mono ?_; rintro e w10 ⟨v10, rfl, hv10, hb11, k10, c10, hk10⟩
                  have HN10 : Hid (NotIn w1.heap.size v10) := fun b off n c h => by
                    rw [hk10] at h; cases h
                    have h1 := DJ.out.1.lt; have h2 := hb9.out.size; have h3 := HB10.out.size; omega
                  clear hk10
                  have HV10 := Lib.hid hv10; have HB11 := Lib.hid hb11; clear hv10 hb11
                  go_wp2_with fail
                  go_roundw
                  case rel => exact ⟨q + 1, r1 - m, congrArg (Value.int .i64) HW.out, HV10.out, HN10.out, by have := hqr.out; have := HGE2.out; show _ = _; rw [Nat.add_mul, Nat.one_mul]; omega, bstep hb9.out (bstep HB10.out HB11.out)⟩
                  case measure => rw [HW.out]; have := HQ1.out; simp [intOf]; omega
                · have hc : Hid (cmpN r1 m = -1) := by show _ = _; unfold cmpN; rw [if_pos (by omega)]
                  have HDM : Hid (q = r2 / m ∧ r1 = r2 % m) := by
                    have h9 := hqr.out
                    have h8 : r2 / m = q ∧ r2 % m = r1 := by
                      rw [Nat.div_mod_unique HM0.out]
                      exact ⟨by rw [Nat.mul_comm]; omega, by omega⟩
                    exact ⟨h8.1.symm, h8.2.symm⟩
                  clear hge
                  go_wp2_with fail
                  refine (CMP.out wt _ r1 (bstep hbel.out hb9.out) hv9.out HR1.out).mono ?_; rintro e w9 ⟨rfl, hb10⟩; rw [hc.out]
                  have HB10 := Lib.hid hb10; clear hb10
                  have DJ2 := Lib.hid (DJ.out.go (bstep hb9.out HB10.out))
                  obtain ⟨cc, hcc, hff⟩ : ∃ v0, w9.cell? ⟨w1.heap.size, i, none⟩ = some v0 ∧ w9.frozen? ⟨w1.heap.size, i, none⟩ = false := by
                    have h1 := DJ2.out.1
                    exact ⟨_, h1.cell i (by rw [List.length_append, List.length_replicate]; omega), h1.free _⟩
                  have ST := Lib.hid (DJ2.out.step HM0.out GX.out HX1.out (z := (q : Int)) (by rw [HDM.out.1, HR2.out]))
                  have HRN := Lib.hid (((hv9.out.go HB10.out).set_far (i := i) (x := .int .i64 (q : Int)) hn9.out))
                  have HRN2 : Hid (r1 = (x + 10000 * r) % m) := by show _ = _; rw [← HR2.out]; exact HDM.out.2
                  go_wp2_with fail
                  go_roundw
                  case rel => exact ⟨i, _, by have := HJ.out; omega, by first | with_reducible rfl | exact congrArg (Value.int .i64) HIQ2.out, by have := HRN.out; rwa [HRN2.out] at this, hn9.out, _, ST.out⟩
                  case measure => first | (rw [HIQ2.out]; simp [intOf]) | simp [intOf]
end Go.Proofs.Ytlkdahgfnfdakaa
