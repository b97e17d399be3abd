import Derived.Test.YtlkdahgfnfdakaaFracP
namespace Go.Proofs.Ytlkdahgfnfdakaa
open Go.RowKit WN LM

set_option maxHeartbeats 4000000 in
set_option maxRecDepth 100000 in
theorem simplest_zero {w : World} {v u : Value} {s : Bool} {n d m c : Nat} {t : Bool} (h : Frac w v s n d) (k : Frac w u t m c) (ln : Len n ≤ 1000000000) (hst : (s && t) = false) (hz : sgn s n ≤ 0) :
    Calls Try.prog 94 #[v, u] w (RetF w false 0 1) := by
  obtain ⟨o1, k1, c1', o2, k2, c2', rfl, hn, hd⟩ := h.box
  obtain ⟨o3, k3, c3', o4, k4, c4', rfl, hm, hc⟩ := k.box
  clear h k
  obtain ⟨B1, bA, bB, bR⟩ := boxes3 w (.bool s) (.slice o1 k1 c1') (.slice o2 k2 c2') (.bool t) (.slice o3 k3 c3') (.slice o4 k4 c4') (.bool false) (.slice none 0 0) (.slice none 0 0)
  have Hn := Lib.hid (hn.go B1); have Hd := Lib.hid (hd.go B1)
  clear hn hd hm hc
  have SG := Lib.hid (fun w' v h => sign_num (w := w') (v := v) (s := s) (n := n) (d := d) h (by omega))
  have hzd : decide (sgn s n ≤ 0) = true := by simp [hz]
  clear hz
  generalize sgn s n = sg at *
  go_enter Try.func94, Try.ntmps94
  obtain ⟨c0, c1, c2, f0, f1, f2⟩ := Box3.facts bA
  obtain ⟨d0, d1, d2⟩ := Box3.cells bB
  have BA := Lib.hid bA; have BB := Lib.hid bB; have BR := Lib.hid bR; have HB1 := Lib.hid B1
  clear bA bB bR B1
  have IN := Lib.hid (fun w' => integer_num (w := w') (va := .slice none 0 0) (a := 0) false (Num.nil w') (by rw [len_zero]; omega))
  cases s
  · go_wp2_with fail
    generalize ((w.alloc (.cells #[.bool false, .slice o1 k1 c1', .slice o2 k2 c2'] 55)).alloc (.cells #[.bool t, .slice o3 k3 c3', .slice o4 k4 c4'] 55)).alloc (.cells #[.bool false, .slice none 0 0, .slice none 0 0] 55) = w1 at *
    refine (SG.out _ _ ⟨_, _, rfl, Hn.out, Hd.out⟩).mono ?_; rintro e w2 ⟨rfl, hb2⟩
    have HB2 := Lib.hid hb2; clear hb2
    go_wp2_with fail
    refine (IN.out _).mono ?_; rintro e w3 ⟨v3, rfl, hv3, hb3⟩
    obtain ⟨p5, q5, z5, p6, q6, z6, rfl, hx5, hx6⟩ := hv3.box
    have BR3 := Lib.hid (BR.out.go (bstep HB2.out hb3)); have B3 := Lib.hid (bstep HB1.out (bstep HB2.out hb3))
    have Hx5 := Lib.hid hx5; have Hx6 := Lib.hid hx6
    clear hv3 hb3 hx5 hx6 c0 c1 c2 d0 d1 d2 f0 f1 f2
    obtain ⟨r0, r1, r2, f0, f1, f2⟩ := Box3.facts BR3.out
    go_wp2_with fail
    obtain ⟨e0, e1, e2, hret⟩ := box_ret (t := false) BR3.out Hx5.out Hx6.out B3.out (by omega)
    refine bodyPost_ret ?_ rfl hret
    simp [results, Try.f94, go_sem, e0, e1, e2]
  · obtain rfl : t = false := by simpa using hst
    clear hst
    go_wp2_with fail
    generalize ((w.alloc (.cells #[.bool true, .slice o1 k1 c1', .slice o2 k2 c2'] 55)).alloc (.cells #[.bool false, .slice o3 k3 c3', .slice o4 k4 c4'] 55)).alloc (.cells #[.bool false, .slice none 0 0, .slice none 0 0] 55) = w1 at *
    refine (SG.out _ _ ⟨_, _, rfl, Hn.out, Hd.out⟩).mono ?_; rintro e w2 ⟨rfl, hb2⟩
    have HB2 := Lib.hid hb2; clear hb2
    go_wp2_with fail
    refine (IN.out _).mono ?_; rintro e w3 ⟨v3, rfl, hv3, hb3⟩
    obtain ⟨p5, q5, z5, p6, q6, z6, rfl, hx5, hx6⟩ := hv3.box
    have BR3 := Lib.hid (BR.out.go (bstep HB2.out hb3)); have B3 := Lib.hid (bstep HB1.out (bstep HB2.out hb3))
    have Hx5 := Lib.hid hx5; have Hx6 := Lib.hid hx6
    clear hv3 hb3 hx5 hx6 c0 c1 c2 d0 d1 d2 f0 f1 f2
    obtain ⟨r0, r1, r2, f0, f1, f2⟩ := Box3.facts BR3.out
    go_wp2_with fail
    obtain ⟨e0, e1, e2, hret⟩ := box_ret (t := false) BR3.out Hx5.out Hx6.out B3.out (by omega)
    refine bodyPost_ret ?_ rfl hret
    simp [results, Try.f94, go_sem, e0, e1, e2]

set_option maxHeartbeats 4000000 in
set_option maxRecDepth 100000 in
theorem simplest_above {w : World} {v u : Value} {n d m c : Nat} {t : Bool} (h : Frac w v false n d) (k : Frac w u t m c) (ln : Len n ≤ 1000000000) (ld : Len d ≤ 1000000000) (lm : Len m ≤ 1000000000) (lc : Len c ≤ 1000000000)
    (n0 : 0 < n) (d0' : 0 < d) (c0' : 0 < c) (hle : n * c ≤ m * d) :
    Calls Try.prog 94 #[v, u] w (RetF w false (simpl n d m c).1 (simpl n d m c).2) := by
  obtain ⟨o1, k1, c1', o2, k2, c2', rfl, hn, hd⟩ := h.box
  obtain ⟨o3, k3, c3', o4, k4, c4', rfl, hm, hc⟩ := k.box
  clear h k
  obtain ⟨B1, bA, bB, bR⟩ := boxes3 w (.bool false) (.slice o1 k1 c1') (.slice o2 k2 c2') (.bool t) (.slice o3 k3 c3') (.slice o4 k4 c4') (.bool false) (.slice none 0 0) (.slice none 0 0)
  have Hn := Lib.hid (hn.go B1); have Hd := Lib.hid (hd.go B1)
  have Hm := Lib.hid (hm.go B1); have Hc := Lib.hid (hc.go B1)
  clear hn hd hm hc
  have hsg : sgn false n = 1 := by unfold sgn; rw [if_neg (by simp), if_neg (by omega)]
  have SG := Lib.hid (fun w' v h => sign_num (w := w') (v := v) (s := false) (n := n) (d := d) h (by omega))
  rw [hsg] at SG
  clear hsg
  have SA := Lib.hid (fun w' va vb vc vd a b c' d' => simplestAbove_num (d + c) w' va vb vc vd n d m c (Nat.le_refl _) a b c' d' ln ld lm lc d0' c0' (by exact hle))
  have bd := simpl_bound _ n d m c (Nat.le_refl _) d0' c0' hle
  clear n0 d0' c0' hle
  generalize (simpl n d m c).1 = N at *
  generalize (simpl n d m c).2 = D at *
  clear bd
  go_enter Try.func94, Try.ntmps94
  obtain ⟨c0, c1, c2, f0, f1, f2⟩ := Box3.facts bA
  obtain ⟨d0, d1, d2⟩ := Box3.cells bB
  have BA := Lib.hid bA; have BB := Lib.hid bB; have BR := Lib.hid bR; have HB1 := Lib.hid B1
  clear bA bB bR B1
  go_wp2_with fail
  generalize ((w.alloc (.cells #[.bool false, .slice o1 k1 c1', .slice o2 k2 c2'] 55)).alloc (.cells #[.bool t, .slice o3 k3 c3', .slice o4 k4 c4'] 55)).alloc (.cells #[.bool false, .slice none 0 0, .slice none 0 0] 55) = w1 at *
  refine (SG.out _ _ ⟨_, _, rfl, Hn.out, Hd.out⟩).mono ?_; rintro e w2 ⟨rfl, hb2⟩
  have HB2 := Lib.hid hb2; clear hb2
  clear c0 c1 c2 d0 d1 d2 f0 f1 f2
  obtain ⟨c0, c1, c2, f0, f1, f2⟩ := Box3.facts (BA.out.go HB2.out)
  obtain ⟨d0, d1, d2⟩ := Box3.cells (BB.out.go HB2.out)
  go_wp2_with fail
  refine (SA.out _ _ _ _ _ (Hn.out.go HB2.out) (Hd.out.go HB2.out) (Hm.out.go HB2.out) (Hc.out.go HB2.out)).mono ?_; rintro e w3 ⟨v3, v4, rfl, hv3, hv4, hb3⟩
  obtain ⟨p5, q5, z5, rfl⟩ := hv3.shape
  obtain ⟨p6, q6, z6, rfl⟩ := hv4.shape
  have BR3 := Lib.hid (BR.out.go (bstep HB2.out hb3)); have B3 := Lib.hid (bstep HB1.out (bstep HB2.out hb3))
  have Hx5 := Lib.hid hv3; have Hx6 := Lib.hid hv4
  clear hv3 hv4 hb3 c0 c1 c2 d0 d1 d2 f0 f1 f2
  obtain ⟨r0, r1, r2, f0, f1, f2⟩ := Box3.facts BR3.out
  go_wp2_with fail
  obtain ⟨e0, e1, e2, hret⟩ := box_ret (t := false) BR3.out Hx5.out Hx6.out B3.out (by omega)
  refine bodyPost_ret ?_ rfl hret
  simp [results, Try.f94, go_sem, e0, e1, e2]

set_option maxHeartbeats 4000000 in
set_option maxRecDepth 100000 in
theorem simplest_both {w : World} {v u : Value} {n d m c : Nat} (h : Frac w v true n d) (k : Frac w u true m c) (ln : Len n ≤ 1000000000) (ld : Len d ≤ 1000000000) (lm : Len m ≤ 1000000000) (lc : Len c ≤ 1000000000)
    (n0 : 0 < n) (m0 : 0 < m) (d0' : 0 < d) (c0' : 0 < c) (hle : m * d ≤ n * c) :
    Calls Try.prog 94 #[v, u] w (RetF w (decide ((simpl m c n d).1 ≠ 0)) (simpl m c n d).1 (simpl m c n d).2) := by
  obtain ⟨o1, k1, c1', o2, k2, c2', rfl, hn, hd⟩ := h.box
  obtain ⟨o3, k3, c3', o4, k4, c4', rfl, hm, hc⟩ := k.box
  clear h k
  obtain ⟨B1, bA, bB, bR⟩ := boxes3 w (.bool true) (.slice o1 k1 c1') (.slice o2 k2 c2') (.bool true) (.slice o3 k3 c3') (.slice o4 k4 c4') (.bool false) (.slice none 0 0) (.slice none 0 0)
  have Hn := Lib.hid (hn.go B1); have Hd := Lib.hid (hd.go B1)
  have Hm := Lib.hid (hm.go B1); have Hc := Lib.hid (hc.go B1)
  clear hn hd hm hc
  have NA := Lib.hid (fun w' v h => negated_num (w := w') (v := v) (s := true) (n := n) (d := d) h (by omega))
  have NB := Lib.hid (fun w' v h => negated_num (w := w') (v := v) (s := true) (n := m) (d := c) h (by omega))
  have SA := Lib.hid (fun w' v u a b => simplest_above (w := w') (v := v) (u := u) (n := m) (d := c) (m := n) (c := d) (t := false) a b lm lc ln ld m0 c0' d0' hle)
  have bd := simpl_bound _ m c n d (Nat.le_refl _) c0' d0' hle
  have l1 := len_mono bd.1
  clear n0 m0 d0' c0' hle bd
  generalize (simpl m c n d).1 = N at *
  generalize (simpl m c n d).2 = D at *
  have NR := Lib.hid (fun w' v h => negated_num (w := w') (v := v) (s := false) (n := N) (d := D) h (by omega))
  simp only [Bool.not_true, Bool.false_and, Bool.not_false, Bool.true_and] at NA NB NR
  generalize decide (N ≠ 0) = S at *
  go_enter Try.func94, Try.ntmps94
  obtain ⟨c0, c1, c2, f0, f1, f2⟩ := Box3.facts bA
  obtain ⟨d0, d1, d2⟩ := Box3.cells bB
  have BA := Lib.hid bA; have BB := Lib.hid bB; have BR := Lib.hid bR; have HB1 := Lib.hid B1
  clear bA bB bR B1
  go_wp2_with fail
  generalize ((w.alloc (.cells #[.bool true, .slice o1 k1 c1', .slice o2 k2 c2'] 55)).alloc (.cells #[.bool true, .slice o3 k3 c3', .slice o4 k4 c4'] 55)).alloc (.cells #[.bool false, .slice none 0 0, .slice none 0 0] 55) = w1 at *
  clear c0 c1 c2 d0 d1 d2 f0 f1 f2
  refine region_inv 6 38 [(13, Is (.agg #[.bool true, .slice o3 k3 c3', .slice o4 k4 c4'])), (14, IsFrac false m c), (15, Is (.agg #[.bool true, .slice o1 k1 c1', .slice o2 k2 c2'])), (16, IsFrac false n d), (17, IsFrac false N D), (18, IsFrac S N D)] (by kernel_rfl) rfl (by kernel_rfl) ?_ ?_
  · refine steps_cons rfl (fun a W hb hr hg K hK => ?_) <| steps_cons rfl (fun a W hb hr hg K hK => ?_) <| steps_cons rfl (fun a W hb hr hg K hK => ?_) <| steps_cons rfl (fun a W hb hr hg K hK => ?_) <| steps_cons rfl (fun a W hb hr hg K hK => ?_) <| steps_cons rfl (fun a W hb hr hg K hK => ?_) trivial
    · have e : a.tmps[3]?.getD undef = .pointer (some ⟨w.heap.size + 1, 0, none⟩) := hb 3 (by kernel_rfl)
      obtain ⟨c0, c1, c2, f0, f1, f2⟩ := Box3.facts (BB.out.go hg)
      clear hb hr; go_simp; exact hK _ _ (Below.refl _ _) rfl
    · have e : a.tmps[13]?.getD undef = _ := hr 13 (by kernel_rfl)
      clear hb hr; go_simp
      refine (NB.out _ _ ⟨_, _, rfl, Hm.out.go hg, Hc.out.go hg⟩).mono ?_; rintro e w2 ⟨v2, rfl, hv2, hb2⟩
      exact hK _ _ hb2 hv2
    · have e : a.tmps[2]?.getD undef = .pointer (some ⟨w.heap.size, 0, none⟩) := hb 2 (by kernel_rfl)
      obtain ⟨c0, c1, c2, f0, f1, f2⟩ := Box3.facts (BA.out.go hg)
      clear hb hr; go_simp; exact hK _ _ (Below.refl _ _) rfl
    · have e : a.tmps[15]?.getD undef = _ := hr 15 (by kernel_rfl)
      clear hb hr; go_simp
      refine (NA.out _ _ ⟨_, _, rfl, Hn.out.go hg, Hd.out.go hg⟩).mono ?_; rintro e w2 ⟨v2, rfl, hv2, hb2⟩
      exact hK _ _ hb2 hv2
    · have e : Frac W (a.tmps[14]?.getD undef) false m c := hr 14 (by kernel_rfl)
      have e' : Frac W (a.tmps[16]?.getD undef) false n d := hr 16 (by kernel_rfl)
      have E := Lib.hid e; have E' := Lib.hid e'
      clear hb hr e e'; go_simp
      refine (SA.out _ _ _ E.out E'.out).mono ?_; rintro e w2 ⟨v2, rfl, hv2, hb2⟩
      exact hK _ _ hb2 hv2
    · have e : Frac W (a.tmps[17]?.getD undef) false N D := hr 17 (by kernel_rfl)
      have E := Lib.hid e
      clear hb hr e; go_simp
      refine (NR.out _ _ E.out).mono ?_; rintro e w2 ⟨v2, rfl, hv2, hb2⟩
      exact hK _ _ hb2 hv2
  · rintro g w2 hb2 ⟨-, -, -, -, -, h18, -⟩
    simp only [List.drop_succ_cons, List.drop_zero, List.take_succ_cons, List.take_zero, putHead, Option.getD_some, Act.put, List.setIfInBounds_toArray, List.set_cons_zero, List.set_cons_succ]
    replace h18 : Frac w2 (g 18) S N D := h18
    generalize g 18 = v8 at *
    obtain ⟨p5, q5, z5, p6, q6, z6, rfl, hx5, hx6⟩ := h18.box
    have BR2 := Lib.hid (BR.out.go hb2); have Hx5 := Lib.hid hx5; have Hx6 := Lib.hid hx6; have B2 := Lib.hid (bstep HB1.out hb2)
    clear hx5 hx6 h18 hb2
    obtain ⟨r0, r1, r2, f0, f1, f2⟩ := Box3.facts BR2.out
    go_wp2_with fail
    obtain ⟨e0, e1, e2, hret⟩ := box_ret (t := S) BR2.out Hx5.out Hx6.out B2.out (by omega)
    refine bodyPost_ret ?_ rfl hret
    simp [results, Try.f94, go_sem, e0, e1, e2]
end Go.Proofs.Ytlkdahgfnfdakaa
