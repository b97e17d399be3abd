/- The reference's Minus, Against. -/
import Derived.Test.YtlkdahgfnfdakaaRefV
namespace Go.Proofs.Ytlkdahgfnfdakaa
open Go Go.RowKit Go.Shelf WN LM

def plusQ (p q : Q3) : Q3 := lowQ (addS p.1 (p.2.1 * q.2.2) q.1 (q.2.1 * p.2.2)) (addN p.1 (p.2.1 * q.2.2) q.1 (q.2.1 * p.2.2)) (p.2.2 * q.2.2)
theorem plusQ_any {w : World} {v u : Value} {p q : Q3} (h : RFrac w v p.1 p.2.1 p.2.2) (k : RFrac w u q.1 q.2.1 q.2.2) (l1 : RLen p.2.1 ≤ 40000) (l2 : RLen p.2.2 ≤ 40000) (l3 : RLen q.2.1 ≤ 40000) (l4 : RLen q.2.2 ≤ 40000) (d0 : 0 < p.2.2) (c0 : 0 < q.2.2) :
    Calls Try.prog 71 #[v, u] w (RRetQ w (plusQ p q)) := rplus_any h k l1 l2 l3 l4 d0 c0
theorem sgn_low {S : Bool} {N D : Nat} (h : 0 < D) : sgn (lowQ S N D).1 (lowQ S N D).2.1 = (sgi S N).sign := by
  show sgn (S && decide (N ≠ 0)) (N / Nat.gcd N D) = _
  by_cases h0 : N = 0
  · subst h0
    rw [Nat.zero_div]
    cases S <;> simp [sgn, sgi]
  · have hg : 0 < Nat.gcd N D := Nat.gcd_pos_of_pos_right _ h
    have h1 : N / Nat.gcd N D ≠ 0 := Nat.ne_of_gt (Nat.div_pos (Nat.le_of_dvd (Nat.pos_of_ne_zero h0) (Nat.gcd_dvd_left N D)) hg)
    have h2 : (S && decide (N ≠ 0)) = S := by simp [h0]
    rw [h2]
    unfold sgn sgi
    cases S
    · simp only [Bool.false_eq_true, if_false, if_neg h1]
      exact (Int.sign_eq_one_of_pos (by omega)).symm
    · simp only [if_true]
      exact (Int.sign_eq_neg_one_of_neg (by omega)).symm
theorem neg_sgi (t : Bool) (m : Nat) : sgi (!t && decide (m ≠ 0)) m = -sgi t m := by
  rw [sgi_dec]
  unfold sgi; cases t <;> simp
theorem sign_minus {p q : Q3} (hp : Can p) (hq : Can q) : sgn (plusQ p (negQ q)).1 (plusQ p (negQ q)).2.1 = cmpQ p q := by
  unfold plusQ
  rw [sgn_low (Nat.mul_pos hp.1 (show 0 < (negQ q).2.2 from hq.1)), add_int, cmpQ_sign]
  show (sgi p.1 (p.2.1 * q.2.2) + sgi (!q.1 && decide (q.2.1 ≠ 0)) (q.2.1 * p.2.2)).sign = _
  rw [sgi_mul, sgi_mul, neg_sgi, Int.neg_mul]
  rfl

set_option maxHeartbeats 4000000 in
set_option maxRecDepth 100000 in
theorem rminus_any {w : World} {v u : Value} {s t : Bool} {n d m c : Nat} (h : RFrac w v s n d) (k : RFrac w u t m c) (ln : RLen n ≤ 40000) (ld : RLen d ≤ 40000) (lm : RLen m ≤ 40000) (lc : RLen c ≤ 40000) (d0 : 0 < d) (p0 : 0 < c) :
    Calls Try.prog 73 #[v, u] w (RRetQ w (plusQ (s, n, d) (negQ (t, m, c)))) := by
  obtain ⟨o1, k1, c1, o2, k2, c2, rfl, hn, hd⟩ := h
  obtain ⟨o3, k3, c3, o4, k4, c4, rfl, hm, hc⟩ := k
  obtain ⟨B1, bA, bB, bR⟩ := boxesQ3 w (.bool s) (.slice o1 k1 c1) (.slice o2 k2 c2) (.bool t) (.slice o3 k3 c3) (.slice o4 k4 c4) (.bool false) (.slice none 0 0) (.slice none 0 0)
  have HN := Lib.hid (hn.go B1); have HD := Lib.hid (hd.go B1); have HM := Lib.hid (hm.go B1); have HC := Lib.hid (hc.go B1)
  have BA := Lib.hid bA; have BB := Lib.hid bB; have BR := Lib.hid bR; have HB1 := Lib.hid B1
  obtain ⟨q, hq⟩ : ∃ q, q = plusQ (s, n, d) (negQ (t, m, c)) := ⟨_, rfl⟩
  have PL : Hid (∀ W v u, RFrac W v s n d → RFrac W u (negQ (t, m, c)).1 (negQ (t, m, c)).2.1 (negQ (t, m, c)).2.2 → Calls Try.prog 71 #[v, u] W (RRetQ W q)) := fun W v u h k => by
    rw [hq]
    exact plusQ_any (p := (s, n, d)) (q := negQ (t, m, c)) h k ln ld lm lc d0 p0
  rw [← hq]
  clear hn hd hm hc bA bB bR B1 ln ld lm lc d0 p0 hq
  go_enter Try.func73, Try.ntmps73
  go_wp2_with fail
  generalize ((w.alloc (.cells #[.bool s, .slice o1 k1 c1, .slice o2 k2 c2] 60)).alloc (.cells #[.bool t, .slice o3 k3 c3, .slice o4 k4 c4] 60)).alloc (.cells #[.bool false, .slice none 0 0, .slice none 0 0] 60) = w1 at *
  refine region_inv 4 9 [(5, Is (.agg #[.bool s, .slice o1 k1 c1, .slice o2 k2 c2])), (6, Is (.agg #[.bool t, .slice o3 k3 c3, .slice o4 k4 c4])), (7, IsRF (negQ (t, m, c)).1 (negQ (t, m, c)).2.1 (negQ (t, m, c)).2.2), (8, IsRF q.1 q.2.1 q.2.2)] (by kernel_rfl) rfl (by kernel_rfl) ?_ ?_
  · refine steps_cons rfl (fun A_ W hb hr hg K hK => ?_) <| steps_cons rfl (fun A_ W hb hr hg K hK => ?_) <| steps_cons rfl (fun A_ W hb hr hg K hK => ?_) <| steps_cons rfl (fun A_ W hb hr hg K hK => ?_) trivial
    · have e0 : A_.tmps[2]?.getD undef = .pointer (some ⟨w.heap.size, 0, none⟩) := hb 2 (by kernel_rfl)
      obtain ⟨x0, x1, x2, -, -, -⟩ := (BA.out.go hg).facts
      clear hb hr; go_simp; exact hK _ _ (Below.refl _ _) rfl
    · have e0 : A_.tmps[3]?.getD undef = .pointer (some ⟨w.heap.size + 1, 0, none⟩) := hb 3 (by kernel_rfl)
      obtain ⟨x0, x1, x2, -, -, -⟩ := (BB.out.go hg).facts
      clear hb hr; go_simp; exact hK _ _ (Below.refl _ _) rfl
    · have e0 : A_.tmps[6]?.getD undef = .agg #[.bool t, .slice o3 k3 c3, .slice o4 k4 c4] := hr 6 (by kernel_rfl)
      clear hb hr; go_simp
      refine (ropp_any ⟨_, _, _, _, _, _, rfl, HM.out.go hg, HC.out.go hg⟩).mono ?_; rintro e w5 ⟨v5, rfl, hv5, hb5⟩
      exact hK _ _ hb5 hv5
    · have e0 : A_.tmps[5]?.getD undef = .agg #[.bool s, .slice o1 k1 c1, .slice o2 k2 c2] := hr 5 (by kernel_rfl)
      have h5 : RFrac W (A_.tmps[7]?.getD undef) (negQ (t, m, c)).1 (negQ (t, m, c)).2.1 (negQ (t, m, c)).2.2 := hr 7 (by kernel_rfl)
      have H5 := Lib.hid h5
      clear hb hr h5; go_simp
      refine (PL.out _ _ _ ⟨_, _, _, _, _, _, rfl, HN.out.go hg, HD.out.go hg⟩ H5.out).mono ?_; rintro e w5 ⟨v5, rfl, hv5, hb5⟩
      exact hK _ _ hb5 hv5
  rintro g4 w14 hb14 ⟨-, -, -, h20, -⟩
  simp only [List.drop_succ_cons, List.drop_zero, List.take_succ_cons, List.take_zero, putHead, Option.getD_some, Act.put, List.setIfInBounds_toArray, List.set_cons_zero, List.set_cons_succ]
  replace h20 : RFrac w14 (g4 8) q.1 q.2.1 q.2.2 := h20
  generalize g4 8 = v20 at *
  obtain ⟨o7, k7, c7, o8, k8, c8, rfl, hqn, hqd⟩ := h20
  have HB9 := Lib.hid (bstep HB1.out hb14); have BR9 := Lib.hid (BR.out.go hb14); have QN := Lib.hid hqn; have QD := Lib.hid hqd
  clear hb14 hqn hqd
  obtain ⟨x0, x1, x2, f0, f1, f2⟩ := BR9.out.facts
  go_wp2_with fail
  obtain ⟨e0, e1, e2, hn9, hd9, hb9⟩ := boxq_ret (t := q.1) BR9.out QN.out QD.out HB9.out (by omega)
  refine bodyPost_ret (v := .agg #[.bool q.1, .slice o7 k7 c7, .slice o8 k8 c8]) ?_ rfl ⟨_, rfl, ⟨_, _, _, _, _, _, rfl, hn9, hd9⟩, hb9⟩
  simp [results, Try.f73, go_sem, e0, e1, e2]

set_option maxHeartbeats 4000000 in
set_option maxRecDepth 100000 in
theorem ragainst_any {w : World} {v u : Value} {p q : Q3} (h : RFrac w v p.1 p.2.1 p.2.2) (k : RFrac w u q.1 q.2.1 q.2.2) (l1 : RLen p.2.1 ≤ 40000) (l2 : RLen p.2.2 ≤ 40000) (l3 : RLen q.2.1 ≤ 40000) (l4 : RLen q.2.2 ≤ 40000) (hp : Can p) (hq : Can q) :
    Calls Try.prog 78 #[v, u] w fun e w' => e = .returned (.int .i64 (cmpQ p q)) ∧ Below w.heap.size w w' := by
  have MI : Hid (∀ W, Below w.heap.size w W → Calls Try.prog 73 #[v, u] W (RRetQ W (plusQ p (negQ q)))) := fun W hb => rminus_any (h.go hb) (k.go hb) l1 l2 l3 l4 hp.1 hq.1
  have SG : Hid (∀ W v, RFrac W v (plusQ p (negQ q)).1 (plusQ p (negQ q)).2.1 (plusQ p (negQ q)).2.2 → Calls Try.prog 86 #[v] W fun e w' => e = .returned (.int .i64 (cmpQ p q)) ∧ Below W.heap.size W w') := fun W v h => by
    have hc := (low_spec (s := addS p.1 (p.2.1 * (negQ q).2.2) (negQ q).1 ((negQ q).2.1 * p.2.2)) (n := addN p.1 (p.2.1 * (negQ q).2.2) (negQ q).1 ((negQ q).2.1 * p.2.2)) (d := p.2.2 * (negQ q).2.2) (Nat.mul_pos hp.1 (show 0 < (negQ q).2.2 from hq.1))).1
    have := rsign_any h hc.2.2
    rwa [sign_minus hp hq] at this
  obtain ⟨s, n, d⟩ := p
  obtain ⟨t, m, c⟩ := q
  obtain ⟨o1, k1, c1, o2, k2, c2, rfl, hn, hd⟩ := h
  obtain ⟨o3, k3, c3, o4, k4, c4, rfl, hm, hc⟩ := k
  obtain ⟨B1, bA, bB⟩ := boxesQ2 w (.bool s) (.slice o1 k1 c1) (.slice o2 k2 c2) (.bool t) (.slice o3 k3 c3) (.slice o4 k4 c4)
  have HB1 := Lib.hid B1
  obtain ⟨x0, x1, x2, -, -, -⟩ := bA.facts
  obtain ⟨y0, y1, y2, -, -, -⟩ := bB.facts
  clear hn hd hm hc bA bB B1 l1 l2 l3 l4 hp hq
  generalize plusQ (s, n, d) (negQ (t, m, c)) = q at *
  generalize cmpQ (s, n, d) (t, m, c) = r at *
  go_enter Try.func78, Try.ntmps78
  go_wp2_with fail
  refine (MI.out _ HB1.out).mono ?_; rintro e w2 ⟨v2, rfl, hv2, hb2⟩
  have HV2 := Lib.hid hv2; have HB2 := Lib.hid (bstep HB1.out hb2); clear hv2 hb2
  go_wp2_with fail
  refine (SG.out _ _ HV2.out).mono ?_; rintro e w3 ⟨rfl, hb3⟩
  have HB3 := Lib.hid (bstep HB2.out hb3); clear hb3
  go_wp2_with fail
  go_ret
  exact ⟨rfl, HB3.out⟩
end Go.Proofs.Ytlkdahgfnfdakaa
