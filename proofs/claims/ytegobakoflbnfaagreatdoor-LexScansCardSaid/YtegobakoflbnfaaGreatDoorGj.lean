/- The reference's Minus, Against. The reference's Add, Sub, Mul, Div, Cmp. The reference's Down, Floor, Sign of texts. The reference's Round and Pow of texts: the mathematics. The reference's calls at the level of numbers; boxes that hold a number. The reference's Pow of texts. The reference's powers of 10. The reference's number: digits before and behind a point, as a fraction's text. The reference's number is the program's. The reference's next token is the program's first one. -/
import Derived.Test.YtegobakoflbnfaaGreatDoorGi
import Derived.Test.YtegobakoflbnfaaGreatDoorMA
import Derived.Test.YtegobakoflbnfaaGreatDoorGf
namespace Go.Proofs.YtegobakoflbnfaaGreatDoor.QA
open Go Go.RowKit Go.Shelf WN LM

def plusQ (p q : Q3) : Q3 := lowQ (addS p.1 (p.2.1 * q.2.2) q.1 (q.2.1 * p.2.2)) (addN p.1 (p.2.1 * q.2.2) q.1 (q.2.1 * p.2.2)) (p.2.2 * q.2.2)
theorem plusQ_any {w : World} {v u : Value} {p q : Q3} (h : RFrac w v p.1 p.2.1 p.2.2) (k : RFrac w u q.1 q.2.1 q.2.2) (l1 : RLen p.2.1 ≤ 40000) (l2 : RLen p.2.2 ≤ 40000) (l3 : RLen q.2.1 ≤ 40000) (l4 : RLen q.2.2 ≤ 40000) (d0 : 0 < p.2.2) (c0 : 0 < q.2.2) :
    Calls Tryz.prog 50 #[v, u] w (RRetQ w (plusQ p q)) := rplus_any h k l1 l2 l3 l4 d0 c0
theorem sgn_low {S : Bool} {N D : Nat} (h : 0 < D) : sgn (lowQ S N D).1 (lowQ S N D).2.1 = (sgi S N).sign := by
  show sgn (S && decide (N ≠ 0)) (N / Nat.gcd N D) = _
  by_cases h0 : N = 0
  · subst h0
    rw [Nat.zero_div]
    cases S <;> simp [sgn, sgi]
  · have hg : 0 < Nat.gcd N D := Nat.gcd_pos_of_pos_right _ h
    have h1 : N / Nat.gcd N D ≠ 0 := Nat.ne_of_gt (Nat.div_pos (Nat.le_of_dvd (Nat.pos_of_ne_zero h0) (Nat.gcd_dvd_left N D)) hg)
    have h2 : (S && decide (N ≠ 0)) = S := by simp [h0]
    rw [h2]
    unfold sgn sgi
    cases S
    · simp only [Bool.false_eq_true, if_false, if_neg h1]
      exact (Int.sign_eq_one_of_pos (by omega)).symm
    · simp only [if_true]
      exact (Int.sign_eq_neg_one_of_neg (by omega)).symm
theorem neg_sgi (t : Bool) (m : Nat) : sgi (!t && decide (m ≠ 0)) m = -sgi t m := by
  rw [sgi_dec]
  unfold sgi; cases t <;> simp
theorem sign_minus {p q : Q3} (hp : Can p) (hq : Can q) : sgn (plusQ p (negQ q)).1 (plusQ p (negQ q)).2.1 = cmpQ p q := by
  unfold plusQ
  rw [sgn_low (Nat.mul_pos hp.1 (show 0 < (negQ q).2.2 from hq.1)), add_int, cmpQ_sign]
  show (sgi p.1 (p.2.1 * q.2.2) + sgi (!q.1 && decide (q.2.1 ≠ 0)) (q.2.1 * p.2.2)).sign = _
  rw [sgi_mul, sgi_mul, neg_sgi, Int.neg_mul]
  rfl

set_option maxHeartbeats 4000000 in
set_option maxRecDepth 100000 in
theorem rminus_any {w : World} {v u : Value} {s t : Bool} {n d m c : Nat} (h : RFrac w v s n d) (k : RFrac w u t m c) (ln : RLen n ≤ 40000) (ld : RLen d ≤ 40000) (lm : RLen m ≤ 40000) (lc : RLen c ≤ 40000) (d0 : 0 < d) (p0 : 0 < c) :
    Calls Tryz.prog 65 #[v, u] w (RRetQ w (plusQ (s, n, d) (negQ (t, m, c)))) := by
  obtain ⟨o1, k1, c1, o2, k2, c2, rfl, hn, hd⟩ := h
  obtain ⟨o3, k3, c3, o4, k4, c4, rfl, hm, hc⟩ := k
  obtain ⟨B1, bA, bB, bR⟩ := boxesQ3 w (.bool s) (.slice o1 k1 c1) (.slice o2 k2 c2) (.bool t) (.slice o3 k3 c3) (.slice o4 k4 c4) (.bool false) (.slice none 0 0) (.slice none 0 0)
  have HN := Lib.hid (hn.go B1); have HD := Lib.hid (hd.go B1); have HM := Lib.hid (hm.go B1); have HC := Lib.hid (hc.go B1)
  have BA := Lib.hid bA; have BB := Lib.hid bB; have BR := Lib.hid bR; have HB1 := Lib.hid B1
  obtain ⟨q, hq⟩ : ∃ q, q = plusQ (s, n, d) (negQ (t, m, c)) := ⟨_, rfl⟩
  have PL : Hid (∀ W v u, RFrac W v s n d → RFrac W u (negQ (t, m, c)).1 (negQ (t, m, c)).2.1 (negQ (t, m, c)).2.2 → Calls Tryz.prog 50 #[v, u] W (RRetQ W q)) := fun W v u h k => by
    rw [hq]
    exact plusQ_any (p := (s, n, d)) (q := negQ (t, m, c)) h k ln ld lm lc d0 p0
  rw [← hq]
  clear hn hd hm hc bA bB bR B1 ln ld lm lc d0 p0 hq
  go_enter Tryz.func65, Tryz.ntmps65
  go_wp2_with fail
  generalize ((w.alloc (.cells #[.bool s, .slice o1 k1 c1, .slice o2 k2 c2] 76)).alloc (.cells #[.bool t, .slice o3 k3 c3, .slice o4 k4 c4] 76)).alloc (.cells #[.bool false, .slice none 0 0, .slice none 0 0] 76) = w1 at *
  refine region_inv 4 9 [(5, Is (.agg #[.bool s, .slice o1 k1 c1, .slice o2 k2 c2])), (6, Is (.agg #[.bool t, .slice o3 k3 c3, .slice o4 k4 c4])), (7, IsRF (negQ (t, m, c)).1 (negQ (t, m, c)).2.1 (negQ (t, m, c)).2.2), (8, IsRF q.1 q.2.1 q.2.2)] (by kernel_rfl) rfl (by kernel_rfl) ?_ ?_
  · refine steps_cons rfl (fun A_ W hb hr hg K hK => ?_) <| steps_cons rfl (fun A_ W hb hr hg K hK => ?_) <| steps_cons rfl (fun A_ W hb hr hg K hK => ?_) <| steps_cons rfl (fun A_ W hb hr hg K hK => ?_) trivial
    · have e0 : A_.tmps[2]?.getD undef = .pointer (some ⟨w.heap.size, 0, none⟩) := hb 2 (by kernel_rfl)
      obtain ⟨x0, x1, x2, -, -, -⟩ := (BA.out.go hg).facts
      clear hb hr; go_simp; exact hK _ _ (Below.refl _ _) rfl
    · have e0 : A_.tmps[3]?.getD undef = .pointer (some ⟨w.heap.size + 1, 0, none⟩) := hb 3 (by kernel_rfl)
      obtain ⟨x0, x1, x2, -, -, -⟩ := (BB.out.go hg).facts
      clear hb hr; go_simp; exact hK _ _ (Below.refl _ _) rfl
    · have e0 : A_.tmps[6]?.getD undef = .agg #[.bool t, .slice o3 k3 c3, .slice o4 k4 c4] := hr 6 (by kernel_rfl)
      clear hb hr; go_simp
      refine (ropp_any ⟨_, _, _, _, _, _, rfl, HM.out.go hg, HC.out.go hg⟩).mono ?_; rintro e w5 ⟨v5, rfl, hv5, hb5⟩
      exact hK _ _ hb5 hv5
    · have e0 : A_.tmps[5]?.getD undef = .agg #[.bool s, .slice o1 k1 c1, .slice o2 k2 c2] := hr 5 (by kernel_rfl)
      have h5 : RFrac W (A_.tmps[7]?.getD undef) (negQ (t, m, c)).1 (negQ (t, m, c)).2.1 (negQ (t, m, c)).2.2 := hr 7 (by kernel_rfl)
      have H5 := Lib.hid h5
      clear hb hr h5; go_simp
      refine (PL.out _ _ _ ⟨_, _, _, _, _, _, rfl, HN.out.go hg, HD.out.go hg⟩ H5.out).mono ?_; rintro e w5 ⟨v5, rfl, hv5, hb5⟩
      exact hK _ _ hb5 hv5
  rintro g4 w14 hb14 ⟨-, -, -, h20, -⟩
  simp only [List.drop_succ_cons, List.drop_zero, List.take_succ_cons, List.take_zero, putHead, Option.getD_some, Act.put, List.setIfInBounds_toArray, List.set_cons_zero, List.set_cons_succ]
  replace h20 : RFrac w14 (g4 8) q.1 q.2.1 q.2.2 := h20
  generalize g4 8 = v20 at *
  obtain ⟨o7, k7, c7, o8, k8, c8, rfl, hqn, hqd⟩ := h20
  have HB9 := Lib.hid (bstep HB1.out hb14); have BR9 := Lib.hid (BR.out.go hb14); have QN := Lib.hid hqn; have QD := Lib.hid hqd
  clear hb14 hqn hqd
  obtain ⟨x0, x1, x2, f0, f1, f2⟩ := BR9.out.facts
  go_wp2_with fail
  obtain ⟨e0, e1, e2, hn9, hd9, hb9⟩ := boxq_ret (t := q.1) BR9.out QN.out QD.out HB9.out (by omega)
  refine bodyPost_ret (v := .agg #[.bool q.1, .slice o7 k7 c7, .slice o8 k8 c8]) ?_ rfl ⟨_, rfl, ⟨_, _, _, _, _, _, rfl, hn9, hd9⟩, hb9⟩
  simp [results, Tryz.f65, go_sem, e0, e1, e2]

end Go.Proofs.YtegobakoflbnfaaGreatDoor.QA

namespace Go.Proofs.YtegobakoflbnfaaGreatDoor.QA
open Go Go.RowKit Go.Shelf WN LM

theorem read_small {l : List UInt8} {p : Q3} (h : readQ l = some p) : RLen p.2.1 ≤ 100 ∧ RLen p.2.2 ≤ 100 := by
  obtain ⟨p1, p2, p3, p4, p5, -⟩ := readQ_q h
  have f : ∀ x, Dig x ≤ 300 → RLen x ≤ 100 := fun x hx => by
    have := (dig_len4 x).2
    rcases Nat.eq_zero_or_pos x with h0 | h0
    · rw [h0, rlen_zero]; omega
    · have := this h0; omega
  exact ⟨f _ p1, f _ p2⟩
theorem low_small {s : Bool} {n d k : Nat} (h1 : RLen n ≤ k) (h2 : RLen d ≤ k) : RLen (lowQ s n d).2.1 ≤ k ∧ RLen (lowQ s n d).2.2 ≤ k :=
  ⟨Nat.le_trans (rlen_mono (Nat.div_le_self _ _)) h1, Nat.le_trans (rlen_mono (Nat.div_le_self _ _)) h2⟩
theorem addN_le (s t : Bool) (X Y : Nat) : addN s X t Y ≤ X + Y := by unfold addN; split; omega; split <;> omega
theorem plus_small {p q : Q3} (h1 : RLen p.2.1 ≤ 100) (h2 : RLen p.2.2 ≤ 100) (h3 : RLen q.2.1 ≤ 100) (h4 : RLen q.2.2 ≤ 100) : RLen (plusQ p q).2.1 ≤ 1000 ∧ RLen (plusQ p q).2.2 ≤ 1000 := by
  have a1 := rlen_mul p.2.1 q.2.2
  have a2 := rlen_mul q.2.1 p.2.2
  have a3 := rlen_mul p.2.2 q.2.2
  have a4 := rlen_add (p.2.1 * q.2.2) (q.2.1 * p.2.2)
  have a5 := rlen_mono (addN_le p.1 q.1 (p.2.1 * q.2.2) (q.2.1 * p.2.2))
  exact low_small (by omega) (by omega)
theorem plus_eq {p q : Q3} (hp : Can p) (hq : Can q) : plusQ p q = addQ p q := low_add hp hq
theorem mul_small {p q : Q3} (hp : Can p) (hq : Can q) (h1 : RLen p.2.1 ≤ 100) (h2 : RLen p.2.2 ≤ 100) (h3 : RLen q.2.1 ≤ 100) (h4 : RLen q.2.2 ≤ 100) : RLen (mulQ p q).2.1 ≤ 1000 ∧ RLen (mulQ p q).2.2 ≤ 1000 := by
  rw [← low_mul hp hq]
  exact low_small (Nat.le_trans (rlen_mul _ _) (by omega)) (Nat.le_trans (rlen_mul _ _) (by omega))

end Go.Proofs.YtegobakoflbnfaaGreatDoor.QA

namespace Go.Proofs.YtegobakoflbnfaaGreatDoor.QA
open Go Go.RowKit Go.Shelf WN LM

theorem low_int {s : Bool} {N : Nat} : lowQ s N 1 = (s && decide (N ≠ 0), N, 1) := by
  unfold lowQ; rw [Nat.gcd_one_right, Nat.div_one]

set_option maxHeartbeats 4000000 in
set_option maxRecDepth 100000 in
theorem rdown_any {w : World} {v : Value} {s : Bool} {n d : Nat} (h : RFrac w v s n d) (ln : RLen n ≤ 40000) (ld : RLen d ≤ 40000) (d0 : 0 < d) : Calls Tryz.prog 64 #[v] w (RRetQ w (floorQ (s, n, d))) := by
  have N1 : Hid (∀ W, Calls Tryz.prog 73 #[.int .u64 1] W (RRet W 1)) := fun W => natOf_any 1 (by omega) W
  obtain ⟨o1, k1, c1, o2, k2, c2, rfl, hn, hd⟩ := h
  obtain ⟨B1, bA, bR⟩ := boxesQ2 w (.bool s) (.slice o1 k1 c1) (.slice o2 k2 c2) (.bool false) (.slice none 0 0) (.slice none 0 0)
  have DV := Lib.hid (rdiv_any (hn.go B1) (hd.go B1) d0 (by omega) (by omega))
  have BA := Lib.hid bA; have BR := Lib.hid bR; have HB1 := Lib.hid B1
  have lq : RLen (n / d) ≤ 40000 := Nat.le_trans (rlen_mono (Nat.div_le_self _ _)) ln
  have ADD : Hid (∀ W v u, RNum W v (n / d) → RNum W u 1 → Calls Tryz.prog 75 #[v, u] W (RRet W (n / d + 1))) := fun W v u h1 h2 => radd_any h1 h2 (by omega) (by rw [rlen_one]; omega)
  have lq1 : RLen (n / d + 1) ≤ 40001 := Nat.le_trans (rlen_add _ _) (by rw [rlen_one]; omega)
  obtain ⟨x0, x1, x2, -, -, -⟩ := bA.facts
  have FQ : Hid (∀ N, floorN s n d = N → floorQ (s, n, d) = lowQ s N 1) := fun N h => by rw [low_int, ← h]; rfl
  have LW : Hid (∀ N, RLen N ≤ 40001 → ∀ W v u, RNum W v N → RNum W u 1 → Calls Tryz.prog 72 #[.bool s, v, u] W (RRetQ W (lowQ s N 1))) := fun N hN W v u h1 h2 => lowest_any s h1 h2 (by omega) (by omega) (by rw [rlen_one]; omega)
  have LQ : Hid (RLen (n / d) ≤ 40001) := Nat.le_trans lq (by omega)
  have LQ1 := Lib.hid lq1
  have FN : Hid ((s = false ∨ n % d = 0) → floorN s n d = n / d) := fun h => by
    unfold floorN
    rcases h with h | h
    · rw [h]; rfl
    · rw [h]; simp
  have FN1 : Hid (s = true → n % d ≠ 0 → floorN s n d = n / d + 1) := fun h1 h2 => by
    unfold floorN
    rw [h1, decide_eq_true h2]; rfl
  clear hn hd bA bR B1 ln ld d0 lq lq1
  go_enter Tryz.func64, Tryz.ntmps64
  go_wp2_with fail
  generalize ((w.alloc (.cells #[.bool s, .slice o1 k1 c1, .slice o2 k2 c2] 76)).alloc (.cells #[.bool false, .slice none 0 0, .slice none 0 0] 76)) = w1 at *
  refine DV.out.mono ?_; rintro e w2 ⟨v1, v2, rfl, hv1, hv2, hb2⟩
  have BA2 := Lib.hid (BA.out.go hb2); have BR2 := Lib.hid (BR.out.go hb2); have HBL0 := Lib.hid (bstep HB1.out hb2); have NQ := Lib.hid hv1
  obtain ⟨o9, c9, rfl⟩ := hv2.shape
  clear hb2 hv1 hv2 x0 x1 x2 BA BR DV
  obtain ⟨x0, x1, x2, -, -, -⟩ := BA2.out.facts
  obtain ⟨R, hR⟩ : ∃ R, RLen (n % d) = R := ⟨_, rfl⟩
  have HRz : Hid (R = 0 ↔ n % d = 0) := by rw [← hR]; exact rlen_eq_zero
  rw [hR]
  clear hR
  by_cases hup : s = true ∧ 0 < R
  · obtain ⟨hs, hr⟩ := hup
    obtain ⟨q, hq⟩ : ∃ q, q = floorQ (s, n, d) := ⟨_, rfl⟩
    have LWR : Hid (∀ W v u, RNum W v (n / d + 1) → RNum W u 1 → Calls Tryz.prog 72 #[.bool s, v, u] W (RRetQ W q)) := by
      have h9 := FN1.out hs (fun h => by have := HRz.out.2 h; omega)
      rw [hq, FQ.out _ h9]; exact LW.out _ LQ1.out
    have QE : Hid (∀ e w', RRetQ w q e w' → RRetQ w (floorQ (s, n, d)) e w') := fun e w' h => by rw [← hq]; exact h
    clear hq FN FN1 FQ LW LQ LQ1 HRz
    subst hs
    go_wp2_with fail
    refine (N1.out _).mono ?_; rintro e w3 ⟨v3, rfl, hv3, hb3⟩
    have BA3 := Lib.hid (BA2.out.go hb3); have BR3 := Lib.hid (BR2.out.go hb3); have HBL1 := Lib.hid (bstep HBL0.out hb3); have NQ3 := Lib.hid (NQ.out.go hb3); have HV3 := Lib.hid hv3
    clear hb3 hv3
    go_wp2_with fail
    refine (ADD.out _ _ _ NQ3.out HV3.out).mono ?_; rintro e w4 ⟨v4, rfl, hv4, hb4⟩
    have BA := Lib.hid (BA3.out.go hb4); have BR := Lib.hid (BR3.out.go hb4); have HBL := Lib.hid (bstep HBL1.out hb4); have NQ4 := Lib.hid hv4
    clear hb4 hv4 x0 x1 x2
    go_wp2_with fail
    refine region_inv 5 28 [(23, Is (.pointer (some ⟨w.heap.size, 0, none⟩))), (24, Is (.bool true)), (25, Is (v4)), (26, IsR 1), (27, IsRF q.1 q.2.1 q.2.2)] (by kernel_rfl) rfl (by kernel_rfl) ?_ ?_
    · refine steps_cons rfl (fun A_ W hb hr hg K hK => ?_) <| steps_cons rfl (fun A_ W hb hr hg K hK => ?_) <| steps_cons rfl (fun A_ W hb hr hg K hK => ?_) <| steps_cons rfl (fun A_ W hb hr hg K hK => ?_) <| steps_cons rfl (fun A_ W hb hr hg K hK => ?_) trivial
      · have e0 : A_.tmps[1]?.getD undef = .pointer (some ⟨w.heap.size, 0, none⟩) := hb 1 (by kernel_rfl)
        clear hb hr; go_simp; exact hK _ _ (Below.refl _ _) rfl
      · have e0 : A_.tmps[23]?.getD undef = .pointer (some ⟨w.heap.size, 0, none⟩) := hr 23 (by kernel_rfl)
        have c0 := (BA.out.go hg).facts.1
        clear hb hr; go_simp; exact hK _ _ (Below.refl _ _) rfl
      · have e0 : A_.tmps[3]?.getD undef = v4 := hb 3 (by kernel_rfl)
        clear hb hr; go_simp; exact hK _ _ (Below.refl _ _) rfl
      · clear hb hr; go_simp
        refine (N1.out W).mono ?_; rintro e w5 ⟨v5, rfl, hv5, hb5⟩
        exact hK _ _ hb5 hv5
      · have e0 : A_.tmps[24]?.getD undef = .bool true := hr 24 (by kernel_rfl)
        have e1 : A_.tmps[25]?.getD undef = v4 := hr 25 (by kernel_rfl)
        have h5 : RNum W (A_.tmps[26]?.getD undef) 1 := hr 26 (by kernel_rfl)
        have H5 := Lib.hid h5
        clear hb hr h5; go_simp
        refine (LWR.out _ _ _ (NQ4.out.go hg) H5.out).mono ?_; rintro e w5 ⟨v5, rfl, hv5, hb5⟩
        exact hK _ _ hb5 hv5
    rintro g4 w14 hb14 ⟨-, -, -, -, h20, -⟩
    simp only [List.drop_succ_cons, List.drop_zero, List.take_succ_cons, List.take_zero, putHead, Option.getD_some, Act.put, List.setIfInBounds_toArray, List.set_cons_zero, List.set_cons_succ]
    replace h20 : RFrac w14 (g4 27) q.1 q.2.1 q.2.2 := h20
    generalize g4 27 = v20 at *
    obtain ⟨o7, k7, c7, o8, k8, c8, rfl, hqn, hqd⟩ := h20
    have HB9 := Lib.hid (bstep HBL.out hb14); have BR9 := Lib.hid (BR.out.go hb14); have QN := Lib.hid hqn; have QD := Lib.hid hqd
    clear hb14 hqn hqd
    obtain ⟨x0, x1, x2, f0, f1, f2⟩ := BR9.out.facts
    go_wp2_with fail
    obtain ⟨e0, e1, e2, hn9, hd9, hb9⟩ := boxq_ret (t := q.1) BR9.out QN.out QD.out HB9.out (by omega)
    refine bodyPost_ret (v := .agg #[.bool q.1, .slice o7 k7 c7, .slice o8 k8 c8]) ?_ rfl (QE.out _ _ ⟨_, rfl, ⟨_, _, _, _, _, _, rfl, hn9, hd9⟩, hb9⟩)
    simp [results, Tryz.f64, go_sem, e0, e1, e2]
  · obtain ⟨q, hq⟩ : ∃ q, q = floorQ (s, n, d) := ⟨_, rfl⟩
    have LWR : Hid (∀ W v u, RNum W v (n / d) → RNum W u 1 → Calls Tryz.prog 72 #[.bool s, v, u] W (RRetQ W q)) := by
      have h9 := FN.out (by
        cases s
        · exact Or.inl rfl
        · right; exact HRz.out.1 (by by_cases h : 0 < R; exact absurd ⟨rfl, h⟩ hup; omega))
      rw [hq, FQ.out _ h9]; exact LW.out _ LQ.out
    have QE : Hid (∀ e w', RRetQ w q e w' → RRetQ w (floorQ (s, n, d)) e w') := fun e w' h => by rw [← hq]; exact h
    clear hq FN FN1 FQ LW LQ LQ1 HRz
    have BA := BA2; have BR := BR2; have HBL := HBL0
    clear BA2 BR2 HBL0
    cases s
    · go_wp2_with fail
      clear x0 x1 x2 hup
      refine region_inv 5 28 [(23, Is (.pointer (some ⟨w.heap.size, 0, none⟩))), (24, Is (.bool false)), (25, Is (v1)), (26, IsR 1), (27, IsRF q.1 q.2.1 q.2.2)] (by kernel_rfl) rfl (by kernel_rfl) ?_ ?_
      · refine steps_cons rfl (fun A_ W hb hr hg K hK => ?_) <| steps_cons rfl (fun A_ W hb hr hg K hK => ?_) <| steps_cons rfl (fun A_ W hb hr hg K hK => ?_) <| steps_cons rfl (fun A_ W hb hr hg K hK => ?_) <| steps_cons rfl (fun A_ W hb hr hg K hK => ?_) trivial
        · have e0 : A_.tmps[1]?.getD undef = .pointer (some ⟨w.heap.size, 0, none⟩) := hb 1 (by kernel_rfl)
          clear hb hr; go_simp; exact hK _ _ (Below.refl _ _) rfl
        · have e0 : A_.tmps[23]?.getD undef = .pointer (some ⟨w.heap.size, 0, none⟩) := hr 23 (by kernel_rfl)
          have c0 := (BA.out.go hg).facts.1
          clear hb hr; go_simp; exact hK _ _ (Below.refl _ _) rfl
        · have e0 : A_.tmps[3]?.getD undef = v1 := hb 3 (by kernel_rfl)
          clear hb hr; go_simp; exact hK _ _ (Below.refl _ _) rfl
        · clear hb hr; go_simp
          refine (N1.out W).mono ?_; rintro e w5 ⟨v5, rfl, hv5, hb5⟩
          exact hK _ _ hb5 hv5
        · have e0 : A_.tmps[24]?.getD undef = .bool false := hr 24 (by kernel_rfl)
          have e1 : A_.tmps[25]?.getD undef = v1 := hr 25 (by kernel_rfl)
          have h5 : RNum W (A_.tmps[26]?.getD undef) 1 := hr 26 (by kernel_rfl)
          have H5 := Lib.hid h5
          clear hb hr h5; go_simp
          refine (LWR.out _ _ _ (NQ.out.go hg) H5.out).mono ?_; rintro e w5 ⟨v5, rfl, hv5, hb5⟩
          exact hK _ _ hb5 hv5
      rintro g4 w14 hb14 ⟨-, -, -, -, h20, -⟩
      simp only [List.drop_succ_cons, List.drop_zero, List.take_succ_cons, List.take_zero, putHead, Option.getD_some, Act.put, List.setIfInBounds_toArray, List.set_cons_zero, List.set_cons_succ]
      replace h20 : RFrac w14 (g4 27) q.1 q.2.1 q.2.2 := h20
      generalize g4 27 = v20 at *
      obtain ⟨o7, k7, c7, o8, k8, c8, rfl, hqn, hqd⟩ := h20
      have HB9 := Lib.hid (bstep HBL.out hb14); have BR9 := Lib.hid (BR.out.go hb14); have QN := Lib.hid hqn; have QD := Lib.hid hqd
      clear hb14 hqn hqd
      obtain ⟨x0, x1, x2, f0, f1, f2⟩ := BR9.out.facts
      go_wp2_with fail
      obtain ⟨e0, e1, e2, hn9, hd9, hb9⟩ := boxq_ret (t := q.1) BR9.out QN.out QD.out HB9.out (by omega)
      refine bodyPost_ret (v := .agg #[.bool q.1, .slice o7 k7 c7, .slice o8 k8 c8]) ?_ rfl (QE.out _ _ ⟨_, rfl, ⟨_, _, _, _, _, _, rfl, hn9, hd9⟩, hb9⟩)
      simp [results, Tryz.f64, go_sem, e0, e1, e2]
    · have hR0 : R = 0 := by by_cases h : 0 < R; exact absurd ⟨rfl, h⟩ hup; omega
      subst hR0
      clear hup
      go_wp2_with fail
      clear x0 x1 x2
      refine region_inv 5 28 [(23, Is (.pointer (some ⟨w.heap.size, 0, none⟩))), (24, Is (.bool true)), (25, Is (v1)), (26, IsR 1), (27, IsRF q.1 q.2.1 q.2.2)] (by kernel_rfl) rfl (by kernel_rfl) ?_ ?_
      · refine steps_cons rfl (fun A_ W hb hr hg K hK => ?_) <| steps_cons rfl (fun A_ W hb hr hg K hK => ?_) <| steps_cons rfl (fun A_ W hb hr hg K hK => ?_) <| steps_cons rfl (fun A_ W hb hr hg K hK => ?_) <| steps_cons rfl (fun A_ W hb hr hg K hK => ?_) trivial
        · have e0 : A_.tmps[1]?.getD undef = .pointer (some ⟨w.heap.size, 0, none⟩) := hb 1 (by kernel_rfl)
          clear hb hr; go_simp; exact hK _ _ (Below.refl _ _) rfl
        · have e0 : A_.tmps[23]?.getD undef = .pointer (some ⟨w.heap.size, 0, none⟩) := hr 23 (by kernel_rfl)
          have c0 := (BA.out.go hg).facts.1
          clear hb hr; go_simp; exact hK _ _ (Below.refl _ _) rfl
        · have e0 : A_.tmps[3]?.getD undef = v1 := hb 3 (by kernel_rfl)
          clear hb hr; go_simp; exact hK _ _ (Below.refl _ _) rfl
        · clear hb hr; go_simp
          refine (N1.out W).mono ?_; rintro e w5 ⟨v5, rfl, hv5, hb5⟩
          exact hK _ _ hb5 hv5
        · have e0 : A_.tmps[24]?.getD undef = .bool true := hr 24 (by kernel_rfl)
          have e1 : A_.tmps[25]?.getD undef = v1 := hr 25 (by kernel_rfl)
          have h5 : RNum W (A_.tmps[26]?.getD undef) 1 := hr 26 (by kernel_rfl)
          have H5 := Lib.hid h5
          clear hb hr h5; go_simp
          refine (LWR.out _ _ _ (NQ.out.go hg) H5.out).mono ?_; rintro e w5 ⟨v5, rfl, hv5, hb5⟩
          exact hK _ _ hb5 hv5
      rintro g4 w14 hb14 ⟨-, -, -, -, h20, -⟩
      simp only [List.drop_succ_cons, List.drop_zero, List.take_succ_cons, List.take_zero, putHead, Option.getD_some, Act.put, List.setIfInBounds_toArray, List.set_cons_zero, List.set_cons_succ]
      replace h20 : RFrac w14 (g4 27) q.1 q.2.1 q.2.2 := h20
      generalize g4 27 = v20 at *
      obtain ⟨o7, k7, c7, o8, k8, c8, rfl, hqn, hqd⟩ := h20
      have HB9 := Lib.hid (bstep HBL.out hb14); have BR9 := Lib.hid (BR.out.go hb14); have QN := Lib.hid hqn; have QD := Lib.hid hqd
      clear hb14 hqn hqd
      obtain ⟨x0, x1, x2, f0, f1, f2⟩ := BR9.out.facts
      go_wp2_with fail
      obtain ⟨e0, e1, e2, hn9, hd9, hb9⟩ := boxq_ret (t := q.1) BR9.out QN.out QD.out HB9.out (by omega)
      refine bodyPost_ret (v := .agg #[.bool q.1, .slice o7 k7 c7, .slice o8 k8 c8]) ?_ rfl (QE.out _ _ ⟨_, rfl, ⟨_, _, _, _, _, _, rfl, hn9, hd9⟩, hb9⟩)
      simp [results, Tryz.f64, go_sem, e0, e1, e2]

end Go.Proofs.YtegobakoflbnfaaGreatDoor.QA

namespace Go.Proofs.YtegobakoflbnfaaGreatDoor.QA
open Go Go.RowKit Go.Shelf WN LM

theorem sgi_low {S : Bool} {M D : Nat} : sgi (lowQ S M D).1 (lowQ S M D).2.1 = sgi S (M / Nat.gcd M D) := by
  show sgi (S && decide (M ≠ 0)) (M / Nat.gcd M D) = _
  by_cases h0 : M = 0
  · subst h0; simp [sgi]
  · simp [h0]
theorem cmp_low {S t : Bool} {M D m c : Nat} (h : 0 < D) : cmpQ (lowQ S M D) (t, m, c) = (sgi S M * c - sgi t m * D).sign := by
  have hg : 0 < Nat.gcd M D := Nat.gcd_pos_of_pos_right _ h
  have hn := Nat.div_mul_cancel (Nat.gcd_dvd_left M D)
  have hd := Nat.div_mul_cancel (Nat.gcd_dvd_right M D)
  rw [cmpQ_sign, sgi_low]
  show (sgi S (M / Nat.gcd M D) * (c : Int) - sgi t m * ((D / Nat.gcd M D : Nat) : Int)).sign = _
  have e1 : sgi S M = sgi S (M / Nat.gcd M D) * (Nat.gcd M D : Nat) := by rw [← sgi_mul, hn]
  have e2 : (D : Int) = ((D / Nat.gcd M D : Nat) : Int) * (Nat.gcd M D : Nat) := by rw [← Int.natCast_mul, hd]
  generalize Nat.gcd M D = g at *
  generalize sgi S (M / g) = A at *
  generalize ((D / g : Nat) : Int) = B at *
  rw [e1, e2]
  have e3 : A * (g : Int) * c - sgi t m * (B * (g : Int)) = (A * c - sgi t m * B) * (g : Int) := by
    rw [Int.sub_mul, Int.mul_right_comm, Int.mul_assoc (sgi t m)]
  rw [e3, Int.sign_mul, Int.sign_eq_one_of_pos (by omega : (0 : Int) < (g : Int)), Int.mul_one]

def oneQ : Q3 := (false, 1, 1)
def halfQ : Q3 := (false, 1, 2)
theorem can_oneQ : Can oneQ := ⟨by decide, by decide, by intro h; cases h⟩
theorem can_halfQ : Can halfQ := ⟨by decide, by decide, by intro h; cases h⟩
theorem can_twoQ : Can (false, 2, 1) := ⟨by decide, by decide, by intro h; cases h⟩
theorem can_floorQ (p : Q3) : Can (floorQ p) := by
  obtain ⟨s, n, d⟩ := p
  show Can (s && decide (floorN s n d ≠ 0), floorN s n d, 1)
  refine ⟨Nat.one_pos, Nat.gcd_one_right _, ?_⟩
  intro h
  simp at h
  exact h.2
theorem can_roundQ (p : Q3) : Can (roundQ p) := by
  refine ⟨Nat.one_pos, Nat.gcd_one_right _, ?_⟩
  intro h
  have h : (p.1 && decide (roundN p.2.1 p.2.2 ≠ 0)) = true := h
  simp at h
  exact h.2
def restQ (p : Q3) : Q3 := plusQ p (negQ (floorQ p))
theorem rest_cmp {p : Q3} (hp : Can p) : cmpQ (restQ p) halfQ = (2 * (sgi p.1 p.2.1 - sgi p.1 (floorN p.1 p.2.1 p.2.2) * p.2.2) - p.2.2).sign := by
  obtain ⟨s, n, d⟩ := p
  unfold restQ plusQ halfQ
  have e : negQ (floorQ (s, n, d)) = (!(s && decide (floorN s n d ≠ 0)) && decide (floorN s n d ≠ 0), floorN s n d, 1) := rfl
  rw [e]
  have hd : 0 < d := hp.1
  show cmpQ (lowQ (addS s (n * 1) (!(s && decide (floorN s n d ≠ 0)) && decide (floorN s n d ≠ 0)) (floorN s n d * d)) (addN s (n * 1) (!(s && decide (floorN s n d ≠ 0)) && decide (floorN s n d ≠ 0)) (floorN s n d * d)) (d * 1)) (false, 1, 2) = (2 * (sgi s n - sgi s (floorN s n d) * (d : Int)) - (d : Int)).sign
  generalize floorN s n d = N
  rw [Nat.mul_one, Nat.mul_one, cmp_low hd, add_int, sgi_mul (!(s && decide (N ≠ 0)) && decide (N ≠ 0)), neg_sgi, sgi_dec]
  congr 1
  have e2 : sgi false 1 = 1 := rfl
  rw [e2]
  generalize sgi s N = F
  rw [Int.neg_mul]
  generalize F * (d : Int) = X
  show (sgi s n + -X) * 2 - 1 * (d : Int) = 2 * (sgi s n - X) - (d : Int)
  omega
theorem half_even {s : Bool} {N : Nat} : (lowQ (s != false) (N * 1) (1 * 2)).2.2 = 1 ↔ N % 2 = 0 := by
  show 1 * 2 / Nat.gcd (N * 1) (1 * 2) = 1 ↔ _
  rw [Nat.mul_one, Nat.one_mul]
  rcases Nat.mod_two_eq_zero_or_one N with h | h
  · have : Nat.gcd N 2 = 2 := Nat.gcd_eq_right (Nat.dvd_of_mod_eq_zero h)
    rw [this]; omega
  · have : Nat.gcd N 2 = 1 := by rw [Nat.gcd_comm, Nat.gcd_rec, h, Nat.gcd_one_left]
    rw [this]; omega
def oddQ (p : Q3) : Bool := !decide ((divQ (floorQ p) (false, 2, 1)).2.2 = 1)
theorem odd_eq (p : Q3) : oddQ p = decide (floorN p.1 p.2.1 p.2.2 % 2 = 1) := by
  unfold oddQ
  rw [← low_div (can_floorQ p) can_twoQ (by decide)]
  have h := half_even (s := (floorQ p).1) (N := floorN p.1 p.2.1 p.2.2)
  have e : (lowQ ((floorQ p).1 != (false, 2, 1).1) ((floorQ p).2.1 * (false, 2, 1).2.2) ((floorQ p).2.2 * (false, 2, 1).2.1)).2.2 = (lowQ ((floorQ p).1 != false) (floorN p.1 p.2.1 p.2.2 * 1) (1 * 2)).2.2 := rfl
  rw [e]
  generalize (lowQ ((floorQ p).1 != false) (floorN p.1 p.2.1 p.2.2 * 1) (1 * 2)).2.2 = y at *
  generalize floorN p.1 p.2.1 p.2.2 = N at *
  rcases Nat.mod_two_eq_zero_or_one N with h1 | h1
  · rw [decide_eq_true (h.2 h1), h1]; rfl
  · rw [decide_eq_false (fun h2 => by have := h.1 h2; omega), h1]; rfl
theorem round_int {s : Bool} {n d : Nat} (hd : 0 < d) (hs : s = true → n ≠ 0) : sgi s (roundN n d) = if 0 < 2 * (sgi s n - sgi s (floorN s n d) * d) - d ∨ (2 * (sgi s n - sgi s (floorN s n d) * d) - d = 0 ∧ floorN s n d % 2 = 1) then sgi s (floorN s n d) + 1 else sgi s (floorN s n d) := by
  have hm := Nat.div_add_mod n d
  have hl := Nat.mod_lt n hd
  have hmI : (n : Int) = d * (n / d : Nat) + (n % d : Nat) := by exact_mod_cast hm.symm
  unfold roundN floorN
  generalize n / d = q at *
  generalize n % d = r at *
  cases s
  · have e1 : sgi false n = (n : Int) := rfl
    have e2 : ∀ x, sgi false x = (x : Int) := fun _ => rfl
    rw [e2, e2, e2]
    have e3 : (if (false && decide (r ≠ 0)) = true then q + 1 else q) = q := rfl
    rw [e3, hmI, Int.mul_comm (d : Int)]
    have e4 : 2 * ((q : Int) * d + (r : Int) - q * d) - d = 2 * r - d := by omega
    rw [e4]
    split <;> split <;> omega
  · have e2 : ∀ x, sgi true x = -(x : Int) := fun _ => rfl
    rw [e2, e2, e2]
    by_cases h0 : r = 0
    · subst h0
      have e3 : (if (true && decide (0 ≠ 0)) = true then q + 1 else q) = q := rfl
      simp only [ne_eq, not_true_eq_false, decide_false, Bool.and_false, Bool.false_eq_true, if_false]
      rw [hmI, Int.mul_comm (d : Int)]
      have e4 : 2 * (-((q : Int) * d + ((0 : Nat) : Int)) - -(q : Int) * d) - d = - d := by rw [Int.neg_mul]; omega
      rw [e4]
      split <;> split <;> omega
    · simp only [ne_eq, h0, not_false_eq_true, decide_true, Bool.and_self, if_true]
      rw [hmI, Int.mul_comm (d : Int)]
      have e4 : 2 * (-((q : Int) * d + (r : Int)) - -((q + 1 : Nat) : Int) * d) - d = d - 2 * r := by
        rw [Int.neg_mul, Int.natCast_add, Int.add_mul]; omega
      rw [e4]
      split <;> split <;> omega
def upQ (p : Q3) : Bool := decide (0 < cmpQ (restQ p) halfQ) || (decide (cmpQ (restQ p) halfQ = 0) && oddQ p)
theorem sign_pos_iff (x : Int) : 0 < x.sign ↔ 0 < x := by
  rcases Int.lt_trichotomy x 0 with h | h | h
  · rw [Int.sign_eq_neg_one_of_neg h]; omega
  · rw [h]; simp
  · rw [Int.sign_eq_one_of_pos h]; omega
end Go.Proofs.YtegobakoflbnfaaGreatDoor.QA

namespace Go.Proofs.YtegobakoflbnfaaGreatDoor.QA
open Go Go.RowKit Go.Shelf WN LM

/-- a fraction in lowest terms, with at most k words on a side -/
def Ok (k : Nat) (q : Q3) : Prop := Can q ∧ RLen q.2.1 ≤ k ∧ RLen q.2.2 ≤ k
theorem Ok.up {k l : Nat} {q : Q3} (h : Ok k q) (hl : k ≤ l) : Ok l q := ⟨h.1, Nat.le_trans h.2.1 hl, Nat.le_trans h.2.2 hl⟩
theorem ok_read {l : List UInt8} {p : Q3} (h : readQ l = some p) : Ok 100 p := ⟨readQ_can h, read_small h⟩
theorem ok_oneQ : Ok 1 oneQ := ⟨can_oneQ, Nat.le_of_eq rlen_one, Nat.le_of_eq rlen_one⟩
theorem ok_two : Ok 1 (false, 2, 1) := ⟨can_twoQ, rlen_small (show 2 < 10000 by omega), Nat.le_of_eq rlen_one⟩
theorem ok_half : Ok 1 halfQ := ⟨can_halfQ, Nat.le_of_eq rlen_one, rlen_small (show 2 < 10000 by omega)⟩
theorem ok_neg {k : Nat} {p : Q3} (h : Ok k p) : Ok k (negQ p) := ⟨(negQ_spec h.1).1, h.2.1, h.2.2⟩
theorem ok_add {k l : Nat} {p q : Q3} (h : Ok k p) (g : Ok l q) : Ok (k + l + 1) (addQ p q) := by
  obtain ⟨hp, h1, h2⟩ := h
  obtain ⟨hq, h3, h4⟩ := g
  have a1 := rlen_mul p.2.1 q.2.2
  have a2 := rlen_mul q.2.1 p.2.2
  have a3 := rlen_mul p.2.2 q.2.2
  have a4 := rlen_add (p.2.1 * q.2.2) (q.2.1 * p.2.2)
  have a5 := rlen_mono (addN_le p.1 q.1 (p.2.1 * q.2.2) (q.2.1 * p.2.2))
  refine ⟨(addQ_spec hp hq).1, ?_⟩
  rw [← plus_eq hp hq]
  exact low_small (by omega) (by omega)
theorem ok_mul {k l : Nat} {p q : Q3} (h : Ok k p) (g : Ok l q) : Ok (k + l) (mulQ p q) := by
  obtain ⟨hp, h1, h2⟩ := h
  obtain ⟨hq, h3, h4⟩ := g
  refine ⟨(mulQ_spec hp hq).1, ?_⟩
  rw [← low_mul hp hq]
  exact low_small (Nat.le_trans (rlen_mul _ _) (by omega)) (Nat.le_trans (rlen_mul _ _) (by omega))
theorem ok_div {k l : Nat} {p q : Q3} (h : Ok k p) (g : Ok l q) (h0 : q.2.1 ≠ 0) : Ok (k + l) (divQ p q) := by
  obtain ⟨hp, h1, h2⟩ := h
  obtain ⟨hq, h3, h4⟩ := g
  refine ⟨(divQ_spec hp hq h0).1, ?_⟩
  rw [← low_div hp hq h0]
  exact low_small (Nat.le_trans (rlen_mul _ _) (by omega)) (Nat.le_trans (rlen_mul _ _) (by omega))
theorem ok_floor {k : Nat} {p : Q3} (h : Ok k p) : Ok (k + 1) (floorQ p) := by
  refine ⟨can_floorQ p, ?_, ?_⟩
  · have h1 : floorN p.1 p.2.1 p.2.2 ≤ p.2.1 + 1 := by
      have := Nat.div_le_self p.2.1 p.2.2
      unfold floorN; split <;> omega
    have h2 := rlen_add p.2.1 1
    have h3 := h.2.1
    have h4 := rlen_mono h1
    have h5 := rlen_pos h.1.1
    have h6 := h.2.2
    rw [rlen_one] at h2
    show RLen (floorN p.1 p.2.1 p.2.2) ≤ _
    omega
  · show RLen 1 ≤ _
    rw [rlen_one]; omega

theorem cOf {w : World} (n : Int) (n1 : -9223372036854775808 ≤ n) (n2 : n ≤ 9223372036854775807) : Calls Tryz.prog 48 #[.int .i64 n] w (RRetQ w (intQ n)) := rof_any w n n1 n2
theorem cOf0 (w : World) : Calls Tryz.prog 48 #[.int .i64 0] w (RRetQ w (false, 0, 1)) := rof_any w 0 (by omega) (by omega)
theorem cOf1 (w : World) : Calls Tryz.prog 48 #[.int .i64 1] w (RRetQ w oneQ) := rof_any w 1 (by omega) (by omega)
theorem cOf2 (w : World) : Calls Tryz.prog 48 #[.int .i64 2] w (RRetQ w (false, 2, 1)) := rof_any w 2 (by omega) (by omega)
theorem cPlus {w : World} {v u : Value} {p q : Q3} (hp : Ok 10000 p) (hq : Ok 10000 q) (h : RFrac w v p.1 p.2.1 p.2.2) (k : RFrac w u q.1 q.2.1 q.2.2) : Calls Tryz.prog 50 #[v, u] w (RRetQ w (addQ p q)) := by
  rw [← plus_eq hp.1 hq.1]
  exact plusQ_any h k (Nat.le_trans hp.2.1 (by omega)) (Nat.le_trans hp.2.2 (by omega)) (Nat.le_trans hq.2.1 (by omega)) (Nat.le_trans hq.2.2 (by omega)) hp.1.1 hq.1.1
theorem cMinus {w : World} {v u : Value} {p q : Q3} (hp : Ok 10000 p) (hq : Ok 10000 q) (h : RFrac w v p.1 p.2.1 p.2.2) (k : RFrac w u q.1 q.2.1 q.2.2) : Calls Tryz.prog 65 #[v, u] w (RRetQ w (subQ p q)) := by
  rw [show subQ p q = plusQ p (negQ q) from (plus_eq hp.1 (negQ_spec hq.1).1).symm]
  exact rminus_any h k (Nat.le_trans hp.2.1 (by omega)) (Nat.le_trans hp.2.2 (by omega)) (Nat.le_trans hq.2.1 (by omega)) (Nat.le_trans hq.2.2 (by omega)) hp.1.1 hq.1.1
theorem cOver {w : World} {v u : Value} {p q : Q3} (hp : Ok 10000 p) (hq : Ok 10000 q) (h0 : q.2.1 ≠ 0) (h : RFrac w v p.1 p.2.1 p.2.2) (k : RFrac w u q.1 q.2.1 q.2.2) : Calls Tryz.prog 51 #[v, u] w (RRetQ w (divQ p q)) := by
  rw [← low_div hp.1 hq.1 h0]
  exact rover_any h k (Nat.le_trans hp.2.1 (by omega)) (Nat.le_trans hp.2.2 (by omega)) (Nat.le_trans hq.2.1 (by omega)) (Nat.le_trans hq.2.2 (by omega)) hp.1.1 (Nat.pos_of_ne_zero h0)
theorem cTimes {w : World} {v u : Value} {p q : Q3} (hp : Ok 10000 p) (hq : Ok 10000 q) (h : RFrac w v p.1 p.2.1 p.2.2) (k : RFrac w u q.1 q.2.1 q.2.2) : Calls Tryz.prog 49 #[v, u] w (RRetQ w (mulQ p q)) := by
  rw [← low_mul hp.1 hq.1]
  exact rtimes_any h k (Nat.le_trans hp.2.1 (by omega)) (Nat.le_trans hp.2.2 (by omega)) (Nat.le_trans hq.2.1 (by omega)) (Nat.le_trans hq.2.2 (by omega)) hp.1.1 hq.1.1
theorem cDown {w : World} {v : Value} {p : Q3} (hp : Ok 10000 p) (h : RFrac w v p.1 p.2.1 p.2.2) : Calls Tryz.prog 64 #[v] w (RRetQ w (floorQ p)) :=
  rdown_any h (Nat.le_trans hp.2.1 (by omega)) (Nat.le_trans hp.2.2 (by omega)) hp.1.1
theorem cOpp {w : World} {v : Value} {p : Q3} (h : RFrac w v p.1 p.2.1 p.2.2) : Calls Tryz.prog 93 #[v] w (RRetQ w (negQ p)) := ropp_any h
/-- what returns an int -/
def RetI (w : World) (i : Int) (e : Ending) (w' : World) : Prop := e = .returned (.int .i64 i) ∧ Below w.heap.size w w'
def RetB (w : World) (b : Bool) (e : Ending) (w' : World) : Prop := e = .returned (.bool b) ∧ Below w.heap.size w w'
theorem cSign {w : World} {v : Value} {p : Q3} (hp : Can p) (h : RFrac w v p.1 p.2.1 p.2.2) : Calls Tryz.prog 63 #[v] w (RetI w (signQ p)) := rsign_any h hp.2.2
theorem cWhole {w : World} {v : Value} {p : Q3} (hp : Ok 10000 p) (h : RFrac w v p.1 p.2.1 p.2.2) : Calls Tryz.prog 79 #[v] w (RetB w (decide (p.2.2 = 1))) := rwhole_any h (Nat.le_trans hp.2.2 (by omega))
theorem cZero {w : World} {v : Value} {p : Q3} (h : RFrac w v p.1 p.2.1 p.2.2) : Calls Tryz.prog 66 #[v] w (RetB w (decide (p.2.1 = 0))) := rzero_any h
/-- block B is a box that holds the number q -/
def QB (W : World) (B : Nat) (q : Q3) : Prop := ∃ o1 k1 c1 o2 k2 c2, BoxQ W B (.bool q.1) (.slice o1 k1 c1) (.slice o2 k2 c2) ∧ RNum W (.slice o1 k1 c1) q.2.1 ∧ RNum W (.slice o2 k2 c2) q.2.2
theorem QB.go {W W' : World} {B : Nat} {q : Q3} (h : QB W B q) (hb : Below W.heap.size W W') : QB W' B q := by
  obtain ⟨o1, k1, c1, o2, k2, c2, h1, h2, h3⟩ := h
  exact ⟨_, _, _, _, _, _, h1.go hb, h2.go hb, h3.go hb⟩
theorem QB.new {W : World} {q : Q3} {o1 o2 : Option Addr} {k1 c1 k2 c2 : Nat} (h1 : RNum W (.slice o1 k1 c1) q.2.1) (h2 : RNum W (.slice o2 k2 c2) q.2.2) :
    QB (W.alloc (.cells #[.bool q.1, .slice o1 k1 c1, .slice o2 k2 c2] 76)) W.heap.size q ∧ Below W.heap.size W (W.alloc (.cells #[.bool q.1, .slice o1 k1 c1, .slice o2 k2 c2] 76)) := by
  have b := below_alloc W (.cells #[.bool q.1, .slice o1 k1 c1, .slice o2 k2 c2] 76)
  exact ⟨⟨_, _, _, _, _, _, BoxQ.new .., h1.go b, h2.go b⟩, b⟩
theorem QB.open {W : World} {B : Nat} {q : Q3} (h : QB W B q) : ∃ o1 k1 c1 o2 k2 c2, (W.cell? ⟨B, 0, none⟩ = some (.bool q.1) ∧ W.cell? ⟨B, 1, none⟩ = some (.slice o1 k1 c1) ∧ W.cell? ⟨B, 2, none⟩ = some (.slice o2 k2 c2)) ∧ RFrac W (.agg #[.bool q.1, .slice o1 k1 c1, .slice o2 k2 c2]) q.1 q.2.1 q.2.2 := by
  obtain ⟨o1, k1, c1, o2, k2, c2, h1, h2, h3⟩ := h
  have := h1.facts
  exact ⟨_, _, _, _, _, _, ⟨this.1, this.2.1, this.2.2.1⟩, ⟨_, _, _, _, _, _, rfl, h2, h3⟩⟩
end Go.Proofs.YtegobakoflbnfaaGreatDoor.QA

namespace Go.Proofs.YtegobakoflbnfaaGreatDoor.QA
open Go Go.RowKit Go.Shelf WN LM

theorem RNum.set1 {w : World} {v : Value} {n p : Nat} (h : RNum w v n) {s : Bool} {o1 o2 : Option Addr} {k1 k2 c1 c2 : Nat} (hb : BoxQ w p (.bool s) (.slice o1 k1 c1) (.slice o2 k2 c2)) (k : Nat) (x : Value) :
    RNum (w.setCell ⟨p, k, none⟩ x) v n := by
  obtain ⟨l, ⟨oa, ca, rfl, hc, hcell⟩, hl⟩ := h
  refine ⟨l, ⟨oa, ca, rfl, hc, fun i hi => ?_⟩, hl⟩
  obtain ⟨b, off, rfl, e⟩ := hcell i hi
  refine ⟨b, off, rfl, ?_⟩
  have hne : p ≠ b := by
    rintro rfl
    rw [cell_of_row _ _ _ _ _ _ hb] at e
    rcases Nat.lt_or_ge (off + i) 3 with h | h
    · rcases (show off + i = 0 ∨ off + i = 1 ∨ off + i = 2 by omega) with h | h | h <;> (rw [h] at e; simp at e)
    · rw [Array.getElem?_eq_none (by simpa using h)] at e; cases e
  rw [World.cell?_setCell_far _ _ _ _ hne]
  exact e
theorem BoxQ.far {w : World} {p q : Nat} {a b c : Value} (h : BoxQ w p a b c) (hq : p ≠ q) (k : Nat) (x : Value) : BoxQ (w.setCell ⟨q, k, none⟩ x) p a b c := (heap_setCell_other w ⟨q, k, none⟩ p x hq).trans h
theorem BoxQ.set1 {w : World} {p : Nat} {a b c : Value} (h : BoxQ w p a b c) (x : Value) : BoxQ (w.setCell ⟨p, 1, none⟩ x) p a x c := heap_setCell_same w p 1 _ 76 x h
theorem BoxQ.set2 {w : World} {p : Nat} {a b c : Value} (h : BoxQ w p a b c) (x : Value) : BoxQ (w.setCell ⟨p, 2, none⟩ x) p a b x := heap_setCell_same w p 2 _ 76 x h
theorem QB.put {w W : World} {B : Nat} {q r : Q3} {o1 o2 : Option Addr} {k1 c1 k2 c2 : Nat} (h : QB W B q) (hn : RNum W (.slice o1 k1 c1) r.2.1) (hd : RNum W (.slice o2 k2 c2) r.2.2) (hb : Below w.heap.size w W) (hp : w.heap.size ≤ B) :
    QB (((W.setCell ⟨B, 0, none⟩ (.bool r.1)).setCell ⟨B, 1, none⟩ (.slice o1 k1 c1)).setCell ⟨B, 2, none⟩ (.slice o2 k2 c2)) B r ∧ Below w.heap.size w (((W.setCell ⟨B, 0, none⟩ (.bool r.1)).setCell ⟨B, 1, none⟩ (.slice o1 k1 c1)).setCell ⟨B, 2, none⟩ (.slice o2 k2 c2)) := by
  obtain ⟨_, _, _, _, _, _, bx, -, -⟩ := h
  exact ⟨⟨_, _, _, _, _, _, bx.set _ _ _, hn.set3 bx _ _ _, hd.set3 bx _ _ _⟩, three_below _ _ _ hb hp⟩
theorem QB.all {W : World} {B : Nat} {q : Q3} (h : QB W B q) : ∃ o1 k1 c1 o2 k2 c2, (W.cell? ⟨B, 0, none⟩ = some (.bool q.1) ∧ W.cell? ⟨B, 1, none⟩ = some (.slice o1 k1 c1) ∧ W.cell? ⟨B, 2, none⟩ = some (.slice o2 k2 c2) ∧ W.frozen? ⟨B, 0, none⟩ = false ∧ W.frozen? ⟨B, 1, none⟩ = false ∧ W.frozen? ⟨B, 2, none⟩ = false) ∧ RNum W (.slice o1 k1 c1) q.2.1 ∧ RNum W (.slice o2 k2 c2) q.2.2 := by
  obtain ⟨o1, k1, c1, o2, k2, c2, h1, h2, h3⟩ := h
  exact ⟨_, _, _, _, _, _, h1.facts, h2, h3⟩
/-- where the loop of Pow stands -/
def PowI (w : World) (A B : Nat) (x : Q3) (sg : Bool) (i j : Nat) (W : World) : Prop := QB W A x ∧ QB W B (sg, x.2.1 ^ i, x.2.2 ^ j) ∧ Below w.heap.size w W
theorem PowI.go {w : World} {A B : Nat} {x : Q3} {sg : Bool} {i j : Nat} {W W' : World} (h : PowI w A B x sg i j W) (hb : Below W.heap.size W W') : PowI w A B x sg i j W' := ⟨h.1.go hb, h.2.1.go hb, bstep h.2.2 hb⟩
theorem PowI.num {w : World} {A B : Nat} {x : Q3} {sg : Bool} {i j : Nat} {W : World} (h : PowI w A B x sg i j W) (hB : w.heap.size ≤ B) (hA : A ≠ B) {o : Option Addr} {k c : Nat} (hv : RNum W (.slice o k c) (x.2.1 ^ i * x.2.1)) : PowI w A B x sg (i + 1) j (W.setCell ⟨B, 1, none⟩ (.slice o k c)) := by
  obtain ⟨⟨_, _, _, _, _, _, b1, n1, d1⟩, ⟨_, _, _, _, _, _, b2, n2, d2⟩, hb⟩ := h
  refine ⟨⟨_, _, _, _, _, _, b1.far hA _ _, n1.set1 b2 _ _, d1.set1 b2 _ _⟩, ⟨_, _, _, _, _, _, b2.set1 _, ?_, d2.set1 b2 _ _⟩, hb.setCell (p := ⟨B, 1, none⟩) hB _⟩
  show RNum _ _ (x.2.1 ^ (i + 1))
  rw [Nat.pow_succ]
  exact hv.set1 b2 _ _
theorem PowI.den {w : World} {A B : Nat} {x : Q3} {sg : Bool} {i j : Nat} {W : World} (h : PowI w A B x sg i j W) (hB : w.heap.size ≤ B) (hA : A ≠ B) {o : Option Addr} {k c : Nat} (hv : RNum W (.slice o k c) (x.2.2 ^ j * x.2.2)) : PowI w A B x sg i (j + 1) (W.setCell ⟨B, 2, none⟩ (.slice o k c)) := by
  obtain ⟨⟨_, _, _, _, _, _, b1, n1, d1⟩, ⟨_, _, _, _, _, _, b2, n2, d2⟩, hb⟩ := h
  refine ⟨⟨_, _, _, _, _, _, b1.far hA _ _, n1.set1 b2 _ _, d1.set1 b2 _ _⟩, ⟨_, _, _, _, _, _, b2.set2 _, n2.set1 b2 _ _, ?_⟩, hb.setCell (p := ⟨B, 2, none⟩) hB _⟩
  show RNum _ _ (x.2.2 ^ (j + 1))
  rw [Nat.pow_succ]
  exact hv.set1 b2 _ _
theorem rlen_npow {n k : Nat} (h : RLen n ≤ k) : ∀ i, RLen (n ^ i) ≤ k * i + 1
  | 0 => by rw [Nat.pow_zero, rlen_one]; omega
  | i + 1 => by
    have h1 := rlen_npow h i
    have h2 := rlen_mul (n ^ i) n
    rw [Nat.pow_succ, Nat.mul_succ]; omega
theorem one_over {p : Q3} (hp : Can p) (h0 : p.2.1 ≠ 0) : divQ oneQ p = invQ p := by
  obtain ⟨h1, h2⟩ := divQ_spec can_oneQ hp h0
  obtain ⟨h3, h4⟩ := invQ_spec hp h0
  refine toR_inj h1 h3 ?_
  rw [h2, h4]
  have : toR oneQ = 1 := rfl
  rw [this, Rat.div_def, Rat.one_mul]

end Go.Proofs.YtegobakoflbnfaaGreatDoor.QA

namespace Go.Proofs.YtegobakoflbnfaaGreatDoor.QA
open Go Go.RowKit Go.Shelf WN LM

theorem lowQ_one (s : Bool) (n : Nat) : lowQ s n 1 = (s && decide (n ≠ 0), n, 1) := by
  unfold lowQ
  rw [Nat.gcd_one_right, Nat.div_one, Nat.div_one]
set_option maxHeartbeats 4000000 in
set_option maxRecDepth 100000 in
theorem tens_any (w : World) (n : Nat) (hn : n ≤ 1000) : Calls Tryz.prog 52 #[.int .i64 (n : Int)] w (RRetQ w (false, 10 ^ n, 1)) := by
  have O1 : Hid (∀ W, Calls Tryz.prog 48 #[.int .i64 1] W (RRetQ W (false, 1, 1))) := cOf1
  have OT : Hid (∀ W, Calls Tryz.prog 48 #[.int .i64 10] W (RRetQ W (false, 10, 1))) := fun W => rof_any W 10 (by omega) (by omega)
  have TM : Hid (∀ i, i ≤ n → ∀ W v u, RFrac W v false (10 ^ i) 1 → RFrac W u false 10 1 → Calls Tryz.prog 49 #[v, u] W (RRetQ W (false, 10 ^ (i + 1), 1))) := fun i hi W v u h1 h2 => by
    have h3 := rlen_npow (n := 10) (k := 1) (Nat.le_of_eq (by decide)) i
    have h4 := rtimes_any h1 h2 (by omega) (by rw [rlen_one]; omega) (Nat.le_trans (rlen_small (show 10 < 10000 by omega)) (by omega)) (by rw [rlen_one]; omega) (by omega) (by omega)
    rw [show 1 * 1 = 1 from rfl, lowQ_one, ← Nat.pow_succ] at h4
    exact h4
  have HN := Lib.hid hn
  have B1 := Lib.hid (below_alloc w (.cells #[.bool false, .slice none 0 0, .slice none 0 0] 76))
  have BX1 := Lib.hid (BoxQ.new w (.bool false) (.slice none 0 0) (.slice none 0 0))
  clear hn
  go_enter Tryz.func52, Tryz.ntmps52
  go_wp2_with fail
  generalize w.alloc (.cells #[.bool false, .slice none 0 0, .slice none 0 0] 76) = w1 at *
  refine (O1.out _).mono ?_; rintro e w2 ⟨v2, rfl, hv2, hb2⟩
  obtain ⟨o1, k1, c1, o2, k2, c2, rfl, h1, h2⟩ := hv2
  obtain ⟨Q0, b3⟩ := QB.new (q := (false, 10 ^ 0, 1)) h1 h2
  have HQ0 := Lib.hid Q0
  have BX2 := Lib.hid ((BX1.out.go hb2).go b3)
  have HB := Lib.hid (bstep (bstep B1.out hb2) b3)
  have LT : Hid (w.heap.size < w2.heap.size) := lt_of_block (BX1.out.go hb2)
  clear hb2 b3 h1 h2 B1 BX1 Q0
  go_wp2_with fail
  obtain ⟨B0, hB0⟩ : ∃ B0, w.heap.size = B0 := ⟨_, rfl⟩
  rw [hB0] at BX2 LT
  rw [hB0]
  have HB0 := Lib.hid hB0
  clear hB0
  generalize w2.alloc (.cells #[.bool (false, 10 ^ 0, 1).1, .slice o1 k1 c1, .slice o2 k2 c2] 76) = w3 at *
  generalize w2.heap.size = B3 at *
  go_loopw [4] (fun v4 wr => ∃ i : Nat, i ≤ n ∧ v4 = .int .i64 (i : Nat) ∧ Hid (QB wr B3 (false, 10 ^ i, 1) ∧ BoxQ wr B0 (.bool false) (.slice none 0 0) (.slice none 0 0) ∧ Below w.heap.size w wr)) (fun v4 _ => n - (intOf v4).toNat)
  case atStart => exact ⟨0, Nat.zero_le _, rfl, HQ0.out, BX2.out, HB.out⟩
  case round =>
    obtain ⟨i, hi, rfl, hinv⟩ := hrel
    have Inv := Lib.hid hinv; clear hinv
    rename World => wr
    by_cases hlt : i < n
    · have hw : wrap64 ((i : Int) + 1) = ((i + 1 : Nat) : Int) := by unfold wrap64; have := HN.out; omega
      have HW := Lib.hid hw; have HLT := Lib.hid hlt; have HI := Lib.hid hi
      have hl2 : (i : Int) < (n : Int) := by omega
      clear hw hlt hi
      go_wp2_with fail
      refine region_inv 3 15 [(11, IsRF false (10 ^ i) 1), (12, IsRF false 10 1), (13, IsRF false (10 ^ (i + 1)) 1)] (by kernel_rfl) rfl (by kernel_rfl) ?_ ?_
      · refine steps_cons rfl (fun A_ W hb hr hg K hK => ?_) <| steps_cons rfl (fun A_ W hb hr hg K hK => ?_) <| steps_cons rfl (fun A_ W hb hr hg K hK => ?_) trivial
        · have e0 : A_.tmps[3]?.getD undef = .pointer (some ⟨B3, 0, none⟩) := hb 3 (by kernel_rfl)
          obtain ⟨o1, k1, c1, o2, k2, c2, ⟨x0, x1, x2⟩, hh⟩ := (Inv.out.1.go hg).open
          have HH := Lib.hid hh
          clear hb hr hh; go_simp; exact hK _ _ (Below.refl _ _) HH.out
        · clear hb hr; go_simp
          refine (OT.out W).mono ?_; rintro e w5 ⟨v5, rfl, hv5, hb5⟩
          exact hK _ _ hb5 hv5
        · have h1 : RFrac W (A_.tmps[11]?.getD undef) false (10 ^ i) 1 := hr 11 (by kernel_rfl)
          have H1 := Lib.hid h1
          have h2 : RFrac W (A_.tmps[12]?.getD undef) false 10 1 := hr 12 (by kernel_rfl)
          have H2 := Lib.hid h2
          clear hb hr h1 h2; go_simp
          refine (TM.out i HI.out W _ _ H1.out H2.out).mono ?_; rintro e w5 ⟨v5, rfl, hv5, hb5⟩
          exact hK _ _ hb5 hv5
      rintro g4 w14 hb14 ⟨-, -, h20, -⟩
      simp only [List.drop_succ_cons, List.drop_zero, List.take_succ_cons, List.take_zero, putHead, Option.getD_some, Act.put, List.setIfInBounds_toArray, List.set_cons_zero, List.set_cons_succ]
      replace h20 : RFrac w14 (g4 13) false (10 ^ (i + 1)) 1 := h20
      generalize g4 13 = v20 at *
      obtain ⟨o7, k7, c7, o8, k8, c8, rfl, hqn, hqd⟩ := h20
      have HB9 := Lib.hid (bstep Inv.out.2.2 hb14)
      have QP9 := Lib.hid (Inv.out.1.go hb14)
      have BX9 := Lib.hid (Inv.out.2.1.go hb14)
      obtain ⟨_, _, _, _, _, _, ⟨x0, x1, x2, f0, f1, f2⟩, -, -⟩ := QP9.out.all
      have hne : B0 ≠ B3 := by have := LT.out; omega
      have hle : w.heap.size ≤ B3 := by have := LT.out; have := HB0.out; omega
      obtain ⟨qx, hb⟩ := QP9.out.put (r := (false, 10 ^ (i + 1), 1)) hqn hqd HB9.out hle
      have HIN := Lib.hid (And.intro qx (And.intro (((BX9.out.far hne 0 (.bool false)).far hne 1 (.slice o7 k7 c7)).far hne 2 (.slice o8 k8 c8)) hb))
      clear hb14 hqn hqd qx hb HB9 QP9 BX9 Inv hne hle
      go_wp2_with fail
      go_roundw
      case rel => exact ⟨i + 1, HLT.out, by first | exact congrArg (Value.int .i64) HW.out | go_num, HIN.out⟩
      case measure => have h9 := HLT.out; first | (rw [HW.out]; simp [intOf]; omega) | (simp [intOf]; omega)
    · have hik : i = n := by omega
      subst hik
      have hl2 : ¬ (i : Int) < (i : Int) := by omega
      clear hi hlt
      obtain ⟨oa, ka, ca, ob, kb, cb, ⟨y0, y1, y2, -, -, -⟩, na, da⟩ := Inv.out.1.all
      obtain ⟨x0, x1, x2, f0, f1, f2⟩ := Inv.out.2.1.facts
      have QN := Lib.hid na; have QD := Lib.hid da; have HB9 := Lib.hid Inv.out.2.2; have BR9 := Lib.hid Inv.out.2.1
      clear na da Inv
      go_wp2_with fail
      obtain ⟨e0, e1, e2, hn9, hd9, hb9⟩ := boxq_ret (t := false) BR9.out QN.out QD.out HB9.out (by have := HB0.out; omega)
      refine bodyPost_ret (v := .agg #[.bool false, .slice oa ka ca, .slice ob kb cb]) ?_ rfl ⟨_, rfl, ⟨_, _, _, _, _, _, rfl, hn9, hd9⟩, hb9⟩
      simp [results, Tryz.f52, go_sem, e0, e1, e2]
end Go.Proofs.YtegobakoflbnfaaGreatDoor.QA

namespace Go.Proofs.YtegobakoflbnfaaGreatDoor.QA
open Go Go.RowKit Go.Shelf WN LM

theorem plusQ_nat (a b : Nat) : plusQ (false, a, 1) (false, b, 1) = (false, a + b, 1) := by
  unfold plusQ
  show lowQ (addS false (a * 1) false (b * 1)) (addN false (a * 1) false (b * 1)) (1 * 1) = _
  rw [Nat.mul_one, Nat.mul_one, Nat.mul_one, lowQ_one]; rfl
theorem cat_at (a b : ByteArray) {i : Nat} (h : i < (a ++ b).size) : (a.data.toList ++ b.data.toList)[i]? = some (a ++ b)[i] := by
  have := Lib.data_getElem? (a ++ b) i h
  rwa [show (a ++ b).data.toList = a.data.toList ++ b.data.toList from by simp] at this
/-- the text of a number with k digits behind the point -/
def numText (n k : Nat) : List UInt8 := ratText false (lowQ false n (10 ^ k)).2.1 (lowQ false n (10 ^ k)).2.2
set_option maxHeartbeats 8000000 in
set_option maxRecDepth 100000 in
theorem number_any (w : World) (a b : ByteArray) (ha : a.size ≤ 15) (hb : b.size ≤ 15) (hd : (a.data.toList ++ b.data.toList).all isD = true) :
    Calls Tryz.prog 33 #[.string a, .string b] w fun e w' => e = .returned (.string ⟨(numText (dval (a.data.toList ++ b.data.toList)) b.size).toArray⟩) ∧ Below w.heap.size w w' := by
  obtain ⟨L, hL⟩ : ∃ L, L = a.data.toList ++ b.data.toList := ⟨_, rfl⟩
  rw [← hL] at hd ⊢
  have hLl : L.length = a.size + b.size := by rw [hL, List.length_append]; rfl
  have ht : ∀ i, dval (L.take i) < 10 ^ 30 := fun i => by
    have h1 : (L.take i).all isD = true := List.all_eq_true.2 fun x hx => List.all_eq_true.1 hd x (List.mem_of_mem_take hx)
    refine Nat.lt_of_lt_of_le (dval_lt h1) (Nat.pow_le_pow_right (by omega) ?_)
    rw [List.length_take]; omega
  have hr : ∀ i, RLen (dval (L.take i)) ≤ 31 := fun i => by
    have h1 := rlen_npow (n := 10) (k := 1) (Nat.le_of_eq (by decide)) 30
    exact Nat.le_trans (rlen_mono (Nat.le_of_lt (ht i))) (by omega)
  have h10 : RLen 10 ≤ 1 := rlen_small (by omega)
  have h1r : RLen 1 ≤ 1 := rlen_small (by omega)
  have O0 : Hid (∀ W, Calls Tryz.prog 48 #[.int .i64 0] W (RRetQ W (false, 0, 1))) := cOf0
  have OT : Hid (∀ W, Calls Tryz.prog 48 #[.int .i64 10] W (RRetQ W (false, 10, 1))) := fun W => rof_any W 10 (by omega) (by omega)
  have OC : Hid (∀ (c : Nat), c < 10 → ∀ W, Calls Tryz.prog 48 #[.int .i64 (c : Int)] W (RRetQ W (false, c, 1))) := fun c hc W => by
    have := rof_any W (c : Int) (by omega) (by omega)
    rwa [decide_eq_false (by omega), Int.natAbs_natCast] at this
  have TM : Hid (∀ i, ∀ W v u, RFrac W v false (dval (L.take i)) 1 → RFrac W u false 10 1 → Calls Tryz.prog 49 #[v, u] W (RRetQ W (false, dval (L.take i) * 10, 1))) := fun i W v u h1 h2 => by
    have h4 := rtimes_any h1 h2 (Nat.le_trans (hr i) (by omega)) (by omega) (by omega) (by omega) (by omega) (by omega)
    rw [show 1 * 1 = 1 from rfl, lowQ_one] at h4
    exact h4
  have PL : Hid (∀ i c, c < 10 → ∀ W v u, RFrac W v false (dval (L.take i) * 10) 1 → RFrac W u false c 1 → Calls Tryz.prog 50 #[v, u] W (RRetQ W (false, dval (L.take i) * 10 + c, 1))) := fun i c hc W v u h1 h2 => by
    have h3 := rlen_mul (dval (L.take i)) 10
    have h5 := hr i
    have h6 : RLen c ≤ 1 := rlen_small (by omega)
    have h4 := plusQ_any (p := (false, dval (L.take i) * 10, 1)) (q := (false, c, 1)) h1 h2 (by show RLen (dval (L.take i) * 10) ≤ _; omega) (by show RLen 1 ≤ _; omega) (by show RLen c ≤ _; omega) (by show RLen 1 ≤ _; omega) (by show 0 < 1; omega) (by show 0 < 1; omega)
    rwa [plusQ_nat] at h4
  obtain ⟨N, hN⟩ : ∃ N, N = dval L := ⟨_, rfl⟩
  obtain ⟨k, hk⟩ : ∃ k, k = b.size := ⟨_, rfl⟩
  have hNr : RLen N ≤ 31 := by have := hr L.length; rwa [List.take_length, ← hN] at this
  have hKr : RLen (10 ^ k) ≤ 16 := by
    have h1 := rlen_npow (n := 10) (k := 1) h10 k
    omega
  have TE : Hid (∀ W, Calls Tryz.prog 52 #[.int .i64 (k : Int)] W (RRetQ W (false, 10 ^ k, 1))) := fun W => tens_any W k (by omega)
  have OV : Hid (∀ W v u, RFrac W v false N 1 → RFrac W u false (10 ^ k) 1 → Calls Tryz.prog 51 #[v, u] W (RRetQ W (lowQ false N (10 ^ k)))) := fun W v u h1 h2 => by
    have h4 := rover_any h1 h2 (by omega) (by omega) (by omega) (by omega) (by omega) (Nat.pow_pos (by omega))
    rwa [Nat.mul_one, Nat.one_mul] at h4
  obtain ⟨q, hq⟩ : ∃ q, q = lowQ false N (10 ^ k) := ⟨_, rfl⟩
  have WR : Hid (∀ W v, RFrac W v q.1 q.2.1 q.2.2 → Calls Tryz.prog 53 #[v] W fun e w' => e = .returned (.string ⟨(numText N k).toArray⟩) ∧ Below W.heap.size W w') := fun W v h => by
    have h1 := rlen_mono (Nat.div_le_self N (Nat.gcd N (10 ^ k)))
    have h2 := rlen_mono (Nat.div_le_self (10 ^ k) (Nat.gcd N (10 ^ k)))
    have := rwrite_any h (by rw [hq]; show RLen (N / _) ≤ _; omega) (by rw [hq]; show RLen (10 ^ k / _) ≤ _; omega)
    have e : ratText q.1 q.2.1 q.2.2 = numText N k := by rw [hq]; rfl
    rwa [e] at this
  rw [← hq] at OV
  rw [← hN, ← hk]
  have HN := Lib.hid hN; have HK := Lib.hid hk; have HD := Lib.hid hd; have HLL := Lib.hid hLl; have HL := Lib.hid hL
  have HA := Lib.hid ha; have HBs := Lib.hid hb
  have c1 : ¬ (a.size + b.size > 9223372036854775807) := by omega
  have hsum : wrap64 ((a.size : Int) + (b.size : Int)) = ((a.size + b.size : Nat) : Int) := by unfold wrap64; omega
  have HSUM := Lib.hid hsum
  have hcs : (a ++ b).size = a.size + b.size := ByteArray.size_append
  have HCS := Lib.hid hcs
  have hbk : (b.size : Int) = (k : Int) := by omega
  clear hd hLl ht hr h10 h1r hN hk hNr hKr hL hq hsum hcs ha hb
  go_enter Tryz.func33, Tryz.ntmps33
  go_wp2_with fail
  refine (O0.out _).mono ?_; rintro e w2 ⟨v2, rfl, hv2, hb2⟩
  obtain ⟨o1, k1, c1', o2, k2, c2, rfl, h1, h2⟩ := hv2
  obtain ⟨Q0, b3⟩ := QB.new (q := (false, 0, 1)) h1 h2
  have HQ0 := Lib.hid Q0
  have HB := Lib.hid (bstep hb2 b3)
  have LE : Hid (w.heap.size ≤ w2.heap.size) := hb2.size
  clear hb2 b3 h1 h2 Q0
  go_wp2_with fail
  generalize w2.alloc (.cells #[.bool (false, 0, 1).1, .slice o1 k1 c1', .slice o2 k2 c2] 76) = w3 at *
  generalize w2.heap.size = B3 at *
  go_loopw [6] (fun v6 wr => ∃ i : Nat, i ≤ a.size + b.size ∧ v6 = .int .i64 (i : Nat) ∧ Hid (QB wr B3 (false, dval (L.take i), 1) ∧ Below w.heap.size w wr)) (fun v6 _ => a.size + b.size - (intOf v6).toNat)
  case atStart => exact ⟨0, Nat.zero_le _, rfl, by have := HQ0.out; exact this, HB.out⟩
  case round =>
    obtain ⟨i, hi, rfl, hinv⟩ := hrel
    have Inv := Lib.hid hinv; clear hinv
    rename World => wr
    by_cases hlt : i < a.size + b.size
    · have hw : wrap64 ((i : Int) + 1) = ((i + 1 : Nat) : Int) := by unfold wrap64; have := HA.out; have := HBs.out; omega
      have hic : i < (a ++ b).size := by have := HCS.out; omega
      have hat := cat_at a b hic
      obtain ⟨c, hc⟩ : ∃ c, c = (a ++ b)[i] := ⟨_, rfl⟩
      rw [← hc, ← HL.out] at hat
      have hci : ((a ++ b)[i].toNat : Int) = (c.toNat : Int) := by rw [hc]
      have hcd : isD c = true := List.all_eq_true.1 HD.out c (List.mem_of_getElem? hat)
      have hc1 : 48 ≤ c.toNat ∧ c.toNat ≤ 57 := by unfold isD at hcd; simpa using hcd
      have hsub : IntKind.u8.wrap ((c.toNat : Int) - 48) = ((c.toNat - 48 : Nat) : Int) := by
        rw [show (c.toNat : Int) - 48 = ((c.toNat - 48 : Nat) : Int) by omega]
        exact IntWalk.u8_in _ ⟨by omega, by omega⟩
      have HT : Hid (dval (L.take (i + 1)) = dval (L.take i) * 10 + (c.toNat - 48)) := by
        show _ = _
        rw [List.take_add_one, hat, Option.toList_some, dval_snoc, Nat.mul_comm]
      have HW := Lib.hid hw; have HLT := Lib.hid hlt; have HI := Lib.hid hi
      have hl2 : (i : Int) < ((a.size + b.size : Nat) : Int) := by omega
      have hl3 : (i : Int) < ((a ++ b).size : Int) := by omega
      clear hw hlt hi hat hcd
      go_wp2_with fail
      obtain ⟨d, hde⟩ : ∃ d, d = c.toNat - 48 := ⟨_, rfl⟩
      rw [← hde] at hsub HT
      have HDL : Hid (d < 10) := by show d < 10; omega
      have HS := Lib.hid hsub
      clear hsub hde hc1
      obtain ⟨V, hV⟩ : ∃ V, V = dval (L.take i) := ⟨_, rfl⟩
      have TMi := Lib.hid (TM.out i)
      have PLi := Lib.hid (PL.out i d HDL.out)
      rw [← hV] at HT TMi PLi Inv
      clear hV
      have h64 : wrap64 (d : Int) = (d : Int) := by unfold wrap64; have := HDL.out; omega
      refine region_inv 8 37 [(23, IsRF false V 1), (24, IsRF false 10 1), (25, IsRF false (V * 10) 1), (26, Is (.int .u8 (c.toNat : Int))), (27, Is (.int .u8 (d : Int))), (28, Is (.int .i64 (d : Int))), (29, IsRF false d 1), (30, IsRF false (V * 10 + d) 1)] (by kernel_rfl) rfl (by kernel_rfl) ?_ ?_
      · refine steps_cons rfl (fun A_ W hb hr hg K hK => ?_) <| steps_cons rfl (fun A_ W hb hr hg K hK => ?_) <| steps_cons rfl (fun A_ W hb hr hg K hK => ?_) <| steps_cons rfl (fun A_ W hb hr hg K hK => ?_) <| steps_cons rfl (fun A_ W hb hr hg K hK => ?_) <| steps_cons rfl (fun A_ W hb hr hg K hK => ?_) <| steps_cons rfl (fun A_ W hb hr hg K hK => ?_) <| steps_cons rfl (fun A_ W hb hr hg K hK => ?_) trivial
        · have e0 : A_.tmps[5]?.getD undef = .pointer (some ⟨B3, 0, none⟩) := hb 5 (by kernel_rfl)
          obtain ⟨o1, k1, c1, o2, k2, c2, ⟨x0, x1, x2⟩, hh⟩ := (Inv.out.1.go hg).open
          have HH := Lib.hid hh
          clear hb hr hh; go_simp; exact hK _ _ (Below.refl _ _) HH.out
        · clear hb hr; go_simp
          refine (OT.out W).mono ?_; rintro e w5 ⟨v5, rfl, hv5, hb5⟩
          exact hK _ _ hb5 hv5
        · have h1 : RFrac W (A_.tmps[23]?.getD undef) false V 1 := hr 23 (by kernel_rfl)
          have H1 := Lib.hid h1
          have h2 : RFrac W (A_.tmps[24]?.getD undef) false 10 1 := hr 24 (by kernel_rfl)
          have H2 := Lib.hid h2
          clear hb hr h1 h2; go_simp
          refine (TMi.out W _ _ H1.out H2.out).mono ?_; rintro e w5 ⟨v5, rfl, hv5, hb5⟩
          exact hK _ _ hb5 hv5
        · have e0 : A_.tmps[7]?.getD undef = .int .u8 (c.toNat : Int) := hb 7 (by kernel_rfl)
          clear hb hr; go_simp; exact hK _ _ (Below.refl _ _) rfl
        · have e0 : A_.tmps[26]?.getD undef = .int .u8 (c.toNat : Int) := hr 26 (by kernel_rfl)
          clear hb hr; have := HS.out; go_simp; exact hK _ _ (Below.refl _ _) rfl
        · have e0 : A_.tmps[27]?.getD undef = .int .u8 (d : Int) := hr 27 (by kernel_rfl)
          clear hb hr; go_simp; exact hK _ _ (Below.refl _ _) (by show Value.int .i64 _ = _; first | exact congrArg (Value.int .i64) h64 | exact congrArg (Value.int .i64) (by have := HDL.out; rw [IntKind.wrap_i64]; omega))
        · have e0 : A_.tmps[28]?.getD undef = .int .i64 (d : Int) := hr 28 (by kernel_rfl)
          clear hb hr; go_simp
          refine (OC.out d HDL.out W).mono ?_; rintro e w5 ⟨v5, rfl, hv5, hb5⟩
          exact hK _ _ hb5 hv5
        · have h1 : RFrac W (A_.tmps[25]?.getD undef) false (V * 10) 1 := hr 25 (by kernel_rfl)
          have H1 := Lib.hid h1
          have h2 : RFrac W (A_.tmps[29]?.getD undef) false d 1 := hr 29 (by kernel_rfl)
          have H2 := Lib.hid h2
          clear hb hr h1 h2; go_simp
          refine (PLi.out W _ _ H1.out H2.out).mono ?_; rintro e w5 ⟨v5, rfl, hv5, hb5⟩
          exact hK _ _ hb5 hv5
      rintro g4 w14 hb14 ⟨-, -, -, -, -, -, -, h20, -⟩
      simp only [List.drop_succ_cons, List.drop_zero, List.take_succ_cons, List.take_zero, putHead, Option.getD_some, Act.put, List.setIfInBounds_toArray, List.set_cons_zero, List.set_cons_succ]
      replace h20 : RFrac w14 (g4 30) false (V * 10 + d) 1 := h20
      generalize g4 30 = v20 at *
      obtain ⟨o7, k7, c7, o8, k8, c8, rfl, hqn, hqd⟩ := h20
      have HB9 := Lib.hid (bstep Inv.out.2 hb14)
      have QP9 := Lib.hid (Inv.out.1.go hb14)
      obtain ⟨_, _, _, _, _, _, ⟨x0, x1, x2, f0, f1, f2⟩, -, -⟩ := QP9.out.all
      obtain ⟨qx, hb⟩ := QP9.out.put (r := (false, V * 10 + d, 1)) hqn hqd HB9.out LE.out
      rw [← HT.out] at qx
      have HIN := Lib.hid (And.intro qx hb)
      clear hb14 hqn hqd qx hb HB9 QP9 Inv
      go_wp2_with fail
      go_roundw
      case rel => exact ⟨i + 1, HLT.out, by first | exact congrArg (Value.int .i64) HW.out | go_num, HIN.out⟩
      case measure => have h9 := HLT.out; first | (rw [HW.out]; simp [intOf]; omega) | (simp [intOf]; omega)
    · have hik : i = a.size + b.size := by omega
      have hl2 : ¬ (i : Int) < ((a.size + b.size : Nat) : Int) := by omega
      have HI : Hid (dval (L.take i) = N) := by
        show _ = _
        rw [hik, ← HLL.out, List.take_length, HN.out]
      clear hi hlt
      go_wp2_with fail
      rw [HI.out] at Inv
      refine region_inv 6 37 [(31, IsRF false N 1), (32, Is (.string b)), (33, Is (.int .i64 (k : Int))), (34, IsRF false (10 ^ k) 1), (35, IsRF q.1 q.2.1 q.2.2), (36, Is (.string ⟨(numText N k).toArray⟩))] (by kernel_rfl) rfl (by kernel_rfl) ?_ ?_
      · refine steps_cons rfl (fun A_ W hb hr hg K hK => ?_) <| steps_cons rfl (fun A_ W hb hr hg K hK => ?_) <| steps_cons rfl (fun A_ W hb hr hg K hK => ?_) <| steps_cons rfl (fun A_ W hb hr hg K hK => ?_) <| steps_cons rfl (fun A_ W hb hr hg K hK => ?_) <| steps_cons rfl (fun A_ W hb hr hg K hK => ?_) trivial
        · have e0 : A_.tmps[5]?.getD undef = .pointer (some ⟨B3, 0, none⟩) := hb 5 (by kernel_rfl)
          obtain ⟨o1, k1, c1, o2, k2, c2, ⟨x0, x1, x2⟩, hh⟩ := (Inv.out.1.go hg).open
          have HH := Lib.hid hh
          clear hb hr hh; go_simp; exact hK _ _ (Below.refl _ _) HH.out
        · have e0 : A_.tmps[1]?.getD undef = .string b := hb 1 (by kernel_rfl)
          clear hb hr; go_simp; exact hK _ _ (Below.refl _ _) rfl
        · have e0 : A_.tmps[32]?.getD undef = .string b := hr 32 (by kernel_rfl)
          clear hb hr; go_simp; exact hK _ _ (Below.refl _ _) rfl
        · have e0 : A_.tmps[33]?.getD undef = .int .i64 (k : Int) := hr 33 (by kernel_rfl)
          clear hb hr; go_simp
          refine (TE.out W).mono ?_; rintro e w5 ⟨v5, rfl, hv5, hb5⟩
          exact hK _ _ hb5 hv5
        · have h1 : RFrac W (A_.tmps[31]?.getD undef) false N 1 := hr 31 (by kernel_rfl)
          have H1 := Lib.hid h1
          have h2 : RFrac W (A_.tmps[34]?.getD undef) false (10 ^ k) 1 := hr 34 (by kernel_rfl)
          have H2 := Lib.hid h2
          clear hb hr h1 h2; go_simp
          refine (OV.out W _ _ H1.out H2.out).mono ?_; rintro e w5 ⟨v5, rfl, hv5, hb5⟩
          exact hK _ _ hb5 hv5
        · have h1 : RFrac W (A_.tmps[35]?.getD undef) q.1 q.2.1 q.2.2 := hr 35 (by kernel_rfl)
          have H1 := Lib.hid h1
          clear hb hr h1; go_simp
          refine (WR.out W _ H1.out).mono ?_; rintro e w5 ⟨rfl, hb5⟩
          exact hK _ _ hb5 rfl
      rintro g4 w14 hb14 ⟨-, -, -, -, -, h20, -⟩
      simp only [List.drop_succ_cons, List.drop_zero, List.take_succ_cons, List.take_zero, putHead, Option.getD_some, Act.put, List.setIfInBounds_toArray, List.set_cons_zero, List.set_cons_succ]
      replace h20 : g4 36 = .string ⟨(numText N k).toArray⟩ := h20
      rw [h20]
      have HB9 := Lib.hid (bstep Inv.out.2 hb14)
      clear hb14 Inv h20
      go_wp2_with fail
      go_ret
      exact ⟨rfl, HB9.out⟩
end Go.Proofs.YtegobakoflbnfaaGreatDoor.QA

namespace Go.Proofs.YtegobakoflbnfaaGreatDoor.QA
open Go Go.RowKit Go.Shelf WN LM

theorem dval_dv (l : List UInt8) : dval l = dv l := by
  unfold dval dv dvA
  congr 1
  funext a c
  rw [Nat.mul_comm]
theorem decT_dec (n : Nat) : decT n = Lib.decDigits n := by
  induction n using Nat.strongRecOn with
  | _ n ih =>
    unfold decT
    by_cases h0 : n = 0
    · subst h0; rw [if_pos rfl, Go.Proofs.YtegobakoflbnfaaGreatDoor.dec_small (by omega)]; rfl
    · rw [if_neg h0, dec_pos (by omega)]
      by_cases h : n < 10
      · rw [Go.Proofs.YtegobakoflbnfaaGreatDoor.dec_small h, show n / 10 = 0 by omega, dec_zero, show n % 10 = n by omega]; rfl
      · rw [Go.Proofs.YtegobakoflbnfaaGreatDoor.dec_step n h, ← ih (n / 10) (by omega)]
        unfold decT
        rw [if_neg (by omega)]
theorem numText_frac {l r : List UInt8} (hr : Go.Proofs.YtegobakoflbnfaaGreatDoor.Dig r) : numText (dval (l ++ r)) r.length = fracL l r := by
  rw [dval_dv, dv_app]
  obtain ⟨T, hT⟩ : ∃ T, T = 10 ^ r.length := ⟨_, rfl⟩
  have hlt := dv_lt hr
  have hT0 : 0 < T := by rw [hT]; exact Nat.pow_pos (by omega)
  unfold numText fracL
  rw [← hT] at hlt ⊢
  generalize dv l = A at *
  generalize dv r = B at *
  have hg : Nat.gcd (A * T + B) T = Nat.gcd T B := by
    rw [Nat.gcd_comm, Nat.add_comm, Nat.gcd_add_mul_right_right]
  unfold lowQ
  show ratText false ((A * T + B) / Nat.gcd (A * T + B) T) (T / Nat.gcd (A * T + B) T) = _
  rw [hg]
  have hgT : Nat.gcd T B ∣ T := Nat.gcd_dvd_left T B
  have hgB : Nat.gcd T B ∣ B := Nat.gcd_dvd_right T B
  have hg0 : 0 < Nat.gcd T B := Nat.gcd_pos_of_pos_left _ hT0
  have hdiv : (A * T + B) / Nat.gcd T B = A * (T / Nat.gcd T B) + B / Nat.gcd T B := by
    obtain ⟨t, ht⟩ := hgT
    obtain ⟨u, hu⟩ := hgB
    generalize Nat.gcd T B = g at *
    subst ht
    subst hu
    rw [Nat.mul_div_cancel_left _ hg0, Nat.mul_div_cancel_left _ hg0, ← Nat.mul_left_comm, ← Nat.mul_add, Nat.mul_div_cancel_left _ hg0]
  rw [hdiv]
  unfold ratText
  rw [decT_dec, decT_dec]
  by_cases h1 : T / Nat.gcd T B = 1
  · have hTg : T = Nat.gcd T B := by
      have := Nat.div_mul_cancel hgT
      rw [h1, Nat.one_mul] at this; exact this.symm
    have hB : B = 0 := by
      rw [← hTg] at hgB
      exact Nat.eq_zero_of_dvd_of_lt hgB hlt
    subst hB
    rw [h1, if_pos rfl, if_pos rfl, Nat.mul_one, Nat.zero_div]
    simp
  · rw [if_neg h1, if_neg h1, long_eq]
    simp
end Go.Proofs.YtegobakoflbnfaaGreatDoor.QA

namespace Go.Proofs.YtegobakoflbnfaaGreatDoor
open Go Go.RowKit

/-- a number as the reference reads it -/
def rnumL (l : List UInt8) : T3 :=
  if 15 < pre (runP true) l ∨ 15 < rplaces l (pre (runP true) l) then noT
  else (3, ⟨(QA.numText (QA.dval (l.take (pre (runP true) l) ++ (l.drop (pre (runP true) l + 1)).take (rplaces l (pre (runP true) l)))) ((l.drop (pre (runP true) l + 1)).take (rplaces l (pre (runP true) l))).length).toArray⟩,
    if rplaces l (pre (runP true) l) = 0 then pre (runP true) l else pre (runP true) l + 1 + rplaces l (pre (runP true) l))
theorem dig_of_all {l : List UInt8} (h : l.all (inC digC) = true) : Dig l := fun b hb => inC_dig (List.all_eq_true.1 h b hb)
theorem rplaces_dig (l : List UInt8) (n : Nat) : Dig ((l.drop (n + 1)).take (rplaces l n)) := by
  unfold rplaces
  split
  · rw [runP_dig]; exact dig_of_all (pre_all _ _)
  · intro b hb; simp at hb
theorem rnum_eq (l : List UInt8) : rnumL l = numL l := by
  unfold rnumL numL
  rw [QA.numText_frac (rplaces_dig l _), rplaces_eq, runP_dig]
  unfold numLen
  by_cases h : placesT l (pre (inC digC) l) = 0
  · rw [if_pos h, if_neg (by omega : ¬ 0 < placesT l (pre (inC digC) l))]
  · rw [if_neg h, if_pos (by omega : 0 < placesT l (pre (inC digC) l)), Nat.add_assoc]
/-- a symbol as the reference finds it -/
def rsymL (l : List UInt8) : T3 := match symsL.find? (fun k => Lib.hasPrefix l k) with
  | some k => (5, ⟨k.toArray⟩, k.length)
  | none => noT
def symQ (l : List UInt8) : T3 := if clL l = 7 then symL l else noT
theorem find_congr {α : Type} {p q : α → Bool} : ∀ {L : List α}, (∀ k ∈ L, p k = q k) → L.find? p = L.find? q
  | [], _ => rfl
  | a :: L, h => by
    rw [List.find?_cons, List.find?_cons, h a (List.mem_cons_self ..), find_congr fun k hk => h k (List.mem_cons_of_mem _ hk)]
theorem syms_shape : ∀ k ∈ symsL, (∃ x, k = [x]) ∨ (∃ x, k = [x, 61]) ∨ (∃ x, k = [x, 62]) := by
  intro k hk
  simp only [symsL, List.mem_cons, List.not_mem_nil, or_false] at hk
  rcases hk with h | h | h | h | h | h | h | h | h | h | h | h | h | h | h | h | h | h | h | h | h <;> subst h <;> simp
theorem hp2 (a b c d : UInt8) (t : List UInt8) : Lib.hasPrefix (c :: d :: t) [a, b] = (a == c && b == d) := by
  unfold Lib.hasPrefix
  simp [List.isPrefixOf]
theorem hp2_one (a b c : UInt8) : Lib.hasPrefix [c] [a, b] = false := by
  unfold Lib.hasPrefix
  simp [List.isPrefixOf]
theorem rsym_two (c d : UInt8) (t : List UInt8) : rsymL (c :: d :: t) = rsymL [c, d] := by
  unfold rsymL
  rw [find_congr (q := fun k => Lib.hasPrefix [c, d] k) fun k hk => ?_]
  rcases syms_shape k hk with ⟨x, rfl⟩ | ⟨x, rfl⟩ | ⟨x, rfl⟩
  · rw [hp_cons, hp_cons]
  · rw [hp2, hp2]
  · rw [hp2, hp2]
theorem rsym_one (c d : UInt8) (h1 : d ≠ 61) (h2 : d ≠ 62) : rsymL [c, d] = rsymL [c] := by
  unfold rsymL
  rw [find_congr (q := fun k => Lib.hasPrefix [c] k) fun k hk => ?_]
  rcases syms_shape k hk with ⟨x, rfl⟩ | ⟨x, rfl⟩ | ⟨x, rfl⟩
  · rw [hp_cons, hp_cons]
  · rw [hp2, hp2_one, show ((61 : UInt8) == d) = false by rw [beq_eq_false_iff_ne]; exact fun h => h1 h.symm, Bool.and_false]
  · rw [hp2, hp2_one, show ((62 : UInt8) == d) = false by rw [beq_eq_false_iff_ne]; exact fun h => h2 h.symm, Bool.and_false]
theorem sym_two (c d : UInt8) (t : List UInt8) : symQ (c :: d :: t) = symQ [c, d] := by
  unfold symQ symL symN
  rw [dbl_cons c d t, show clL (c :: d :: t) = clL [c, d] from rfl]
  cases isDbl dbl [c, d] <;> rfl
theorem sym_one (c d : UInt8) (h1 : d ≠ 61) (h2 : d ≠ 62) : symQ [c, d] = symQ [c] := by
  have hd : isDbl dbl [c, d] = false := by
    unfold isDbl dbl
    simp only [List.any_cons, List.any_nil, hp2, Bool.or_false]
    rw [show ((61 : UInt8) == d) = false by rw [beq_eq_false_iff_ne]; exact fun h => h1 h.symm, show ((62 : UInt8) == d) = false by rw [beq_eq_false_iff_ne]; exact fun h => h2 h.symm]
    simp
  unfold symQ symL symN
  rw [hd, dbl_one, show clL [c, d] = clL [c] from rfl]
  rfl
def symOk (l : List UInt8) : Bool := decide (rsymL l = symQ l)
theorem sym_tab1 (c : UInt8) : symOk [c] = true := u8_all (p := fun c => symOk [c]) (by decide +kernel) c
theorem sym_tab61 (c : UInt8) : symOk [c, 61] = true := u8_all (p := fun c => symOk [c, 61]) (by decide +kernel) c
theorem sym_tab62 (c : UInt8) : symOk [c, 62] = true := u8_all (p := fun c => symOk [c, 62]) (by decide +kernel) c
theorem rsym_eq (l : List UInt8) (hl : l ≠ []) : rsymL l = symQ l := by
  cases l with
  | nil => exact absurd rfl hl
  | cons c t =>
    cases t with
    | nil => exact of_decide_eq_true (sym_tab1 c)
    | cons d t =>
      rw [rsym_two, sym_two]
      by_cases h1 : d = 61
      · subst h1; exact of_decide_eq_true (sym_tab61 c)
      · by_cases h2 : d = 62
        · subst h2; exact of_decide_eq_true (sym_tab62 c)
        · rw [rsym_one c d h1 h2, sym_one c d h1 h2]; exact of_decide_eq_true (sym_tab1 c)
/-- the token that the reference finds first -/
def rtk (l : List UInt8) : T3 := match l with
  | [] => noT
  | c :: t => if isLet c.toNat then rwordL (c :: t) else if isDg c.toNat then rnumL (c :: t) else if c = 34 then rquoL (c :: t) else rsymL (c :: t)
theorem qu_cl : ∀ n : Fin 256, decide (n.val = 34) = decide (classN n.val = 6) := by decide +kernel
theorem rtk_eq (l : List UInt8) (hl : l ≠ []) : rtk l = tk0 l := by
  rw [tk0_eq]
  cases l with
  | nil => exact absurd rfl hl
  | cons c t =>
    show (if isLet c.toNat then rwordL (c :: t) else if isDg c.toNat then rnumL (c :: t) else if c = 34 then rquoL (c :: t) else rsymL (c :: t)) = _
    rw [rword_eq, rnum_eq, rquo_eq _ (by simp), rsym_eq _ (by simp), let_class, dig_class]
    have hq : (c = 34) ↔ classN c.toNat = 6 := by
      have h := qu_cl ⟨c.toNat, c.toNat_lt⟩
      have h2 : (c.toNat = 34) ↔ classN c.toNat = 6 := by
        have := congrArg (· = true) h
        simpa using this
      rw [← h2]
      exact ⟨fun e => by rw [e]; rfl, fun e => u8_of (n := 34) (by decide) e⟩
    have hc : clL (c :: t) = classN c.toNat := rfl
    rw [hc]
    unfold symQ
    rw [hc]
    by_cases h3 : classN c.toNat = 3
    · rw [decide_eq_true h3, if_pos rfl, if_pos h3]
    · rw [decide_eq_false h3, if_neg (by decide), if_neg h3]
      by_cases h4 : classN c.toNat = 4
      · rw [decide_eq_true h4, if_pos rfl, if_pos h4]
      · rw [decide_eq_false h4, if_neg (by decide), if_neg h4]
        by_cases h6 : classN c.toNat = 6
        · rw [if_pos (hq.2 h6), if_pos h6]
        · rw [if_neg (fun h => h6 (hq.1 h)), if_neg h6]
end Go.Proofs.YtegobakoflbnfaaGreatDoor
