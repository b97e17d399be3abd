import Derived.Test.YtlkdahgfnfdakaaFracB
namespace Go.Proofs.Ytlkdahgfnfdakaa
open Go.RowKit WN LM

/-- the boxes of two arguments and of a result, new -/
theorem boxes3 (w : World) (a0 a1 a2 b0 b1 b2 r0 r1 r2 : Value) :
    Below w.heap.size w (((w.alloc (.cells #[a0, a1, a2] 55)).alloc (.cells #[b0, b1, b2] 55)).alloc (.cells #[r0, r1, r2] 55)) ∧
    Box3 (((w.alloc (.cells #[a0, a1, a2] 55)).alloc (.cells #[b0, b1, b2] 55)).alloc (.cells #[r0, r1, r2] 55)) w.heap.size a0 a1 a2 ∧
    Box3 (((w.alloc (.cells #[a0, a1, a2] 55)).alloc (.cells #[b0, b1, b2] 55)).alloc (.cells #[r0, r1, r2] 55)) (w.heap.size + 1) b0 b1 b2 ∧
    Box3 (((w.alloc (.cells #[a0, a1, a2] 55)).alloc (.cells #[b0, b1, b2] 55)).alloc (.cells #[r0, r1, r2] 55)) (w.heap.size + 2) r0 r1 r2 := by
  have s1 : (w.alloc (.cells #[a0, a1, a2] 55)).heap.size = w.heap.size + 1 := by simp
  have s2 : ((w.alloc (.cells #[a0, a1, a2] 55)).alloc (.cells #[b0, b1, b2] 55)).heap.size = w.heap.size + 2 := by simp
  refine ⟨(((Below.refl _ w).alloc (Nat.le_refl _) _).alloc (by omega) _).alloc (by omega) _, ?_, ?_, ?_⟩
  · exact (alloc_lt _ _ _ (by omega)).trans ((alloc_lt _ _ _ (by omega)).trans (Box3.new w a0 a1 a2))
  · exact (alloc_lt _ _ _ (by omega)).trans (by have := Box3.new (w.alloc (.cells #[a0, a1, a2] 55)) b0 b1 b2; rwa [s1] at this)
  · have := Box3.new ((w.alloc (.cells #[a0, a1, a2] 55)).alloc (.cells #[b0, b1, b2] 55)) r0 r1 r2; rwa [s2] at this
theorem boxes2 (w : World) (a0 a1 a2 b0 b1 b2 : Value) :
    Below w.heap.size w ((w.alloc (.cells #[a0, a1, a2] 55)).alloc (.cells #[b0, b1, b2] 55)) ∧
    Box3 ((w.alloc (.cells #[a0, a1, a2] 55)).alloc (.cells #[b0, b1, b2] 55)) w.heap.size a0 a1 a2 ∧
    Box3 ((w.alloc (.cells #[a0, a1, a2] 55)).alloc (.cells #[b0, b1, b2] 55)) (w.heap.size + 1) b0 b1 b2 := by
  have s1 : (w.alloc (.cells #[a0, a1, a2] 55)).heap.size = w.heap.size + 1 := by simp
  refine ⟨((Below.refl _ w).alloc (Nat.le_refl _) _).alloc (by omega) _, ?_, ?_⟩
  · exact (alloc_lt _ _ _ (by omega)).trans (Box3.new w a0 a1 a2)
  · have := Box3.new (w.alloc (.cells #[a0, a1, a2] 55)) b0 b1 b2; rwa [s1] at this

theorem Box3.go {w w' : World} {p : Nat} {a b c : Value} (h : Box3 w p a b c) (hb : Below w.heap.size w w') : Box3 w' p a b c := h.below hb h.lt
theorem Num.go {w w' : World} {v : Value} {n : Nat} (h : Num w v n) (hb : Below w.heap.size w w') : Num w' v n := h.below hb (Nat.le_refl _)
theorem bstep {w w1 w2 : World} (h : Below w.heap.size w w1) (k : Below w1.heap.size w1 w2) : Below w.heap.size w w2 := h.trans (k.mono h.size)
theorem below_alloc (w : World) (o : Obj) : Below w.heap.size w (w.alloc o) := (Below.refl _ w).alloc (Nat.le_refl _) o

set_option maxHeartbeats 2000000 in
set_option maxRecDepth 100000 in
theorem fracTimes_num {w : World} {v u : Value} {s t : Bool} {n d m c : Nat} (h : Frac w v s n d) (k : Frac w u t m c) (ln : Len n ≤ 1000000000) (ld : Len d ≤ 1000000000) (lm : Len m ≤ 1000000000) (lc : Len c ≤ 1000000000) (d0 : 0 < d) (c0 : 0 < c) :
    Calls Try.prog 64 #[v, u] w (RetF w (((s && decide (n ≠ 0)) != (t && decide (m ≠ 0))) && decide (n / Nat.gcd n c * (m / Nat.gcd m d) ≠ 0)) (n / Nat.gcd n c * (m / Nat.gcd m d)) (c / Nat.gcd n c * (d / Nat.gcd m d))) := by
  obtain ⟨o1, k1, c1', o2, k2, c2', rfl, hn, hd⟩ := h.box
  obtain ⟨o3, k3, c3', o4, k4, c4', rfl, hm, hc⟩ := k.box
  clear h k
  have d0' := Lib.hid d0; have c0' := Lib.hid c0; clear d0 c0
  obtain ⟨B1, bA, bB, bR⟩ := boxes3 w (.bool s) (.slice o1 k1 c1') (.slice o2 k2 c2') (.bool t) (.slice o3 k3 c3') (.slice o4 k4 c4') (.bool false) (.slice none 0 0) (.slice none 0 0)
  have Hn := Lib.hid (hn.go B1); have Hd := Lib.hid (hd.go B1); have Hm := Lib.hid (hm.go B1); have Hc := Lib.hid (hc.go B1)
  clear hn hd hm hc
  obtain ⟨c0, c1, c2, f0, f1, f2⟩ := Box3.facts bA
  obtain ⟨d0, d1, d2⟩ := Box3.cells bB
  have BA := Lib.hid bA; have BB := Lib.hid bB; have BR := Lib.hid bR; have HB1 := Lib.hid B1
  clear bA bB bR B1 f0 f1 f2
  suffices main : ∀ R : Ending → World → Prop, Hid (∀ e w', RetF w (((s && decide (n ≠ 0)) != (t && decide (m ≠ 0))) && decide (n / Nat.gcd n c * (m / Nat.gcd m d) ≠ 0)) (n / Nat.gcd n c * (m / Nat.gcd m d)) (c / Nat.gcd n c * (d / Nat.gcd m d)) e w' → R e w') → Calls Try.prog 64 #[.agg #[.bool s, .slice o1 k1 c1', .slice o2 k2 c2'], .agg #[.bool t, .slice o3 k3 c3', .slice o4 k4 c4']] w R from main _ (fun _ _ h => h)
  intro R HR
  have F1 := Lib.hid (fraction_num s Hn.out Hc.out ln lc c0'.out)
  have F2 := Lib.hid (fun w' hb => fraction_num (w := w') t (Hm.out.go hb) (Hd.out.go hb) lm ld d0'.out)
  have lx1 := len_mono (Nat.div_le_self n (Nat.gcd n c)); have lx2 := len_mono (Nat.div_le_self c (Nat.gcd n c))
  have ly1 := len_mono (Nat.div_le_self m (Nat.gcd m d)); have ly2 := len_mono (Nat.div_le_self d (Nat.gcd m d))
  generalize (s && decide (n ≠ 0)) = sx at *
  generalize (t && decide (m ≠ 0)) = sy at *
  generalize n / Nat.gcd n c = X1 at *
  generalize c / Nat.gcd n c = X2 at *
  generalize m / Nat.gcd m d = Y1 at *
  generalize d / Nat.gcd m d = Y2 at *
  go_enter Try.func64, Try.ntmps64
  go_wp2_with fail
  generalize ((w.alloc (.cells #[.bool s, .slice o1 k1 c1', .slice o2 k2 c2'] 55)).alloc (.cells #[.bool t, .slice o3 k3 c3', .slice o4 k4 c4'] 55)).alloc (.cells #[.bool false, .slice none 0 0, .slice none 0 0] 55) = w1 at *
  refine F1.out.mono ?_
  rintro e w2 ⟨vx, rfl, hx, hb2⟩
  clear c0 c1 c2 d0 d1 d2
  obtain ⟨p1, q1, z1, p2, q2, z2, rfl, hx1, hx2⟩ := hx.box
  have bXb := below_alloc w2 (.cells #[.bool sx, .slice p1 q1 z1, .slice p2 q2 z2] 55)
  have step2 := Lib.hid (bstep hb2 bXb)
  have BX := Lib.hid (Box3.new w2 (.bool sx) (.slice p1 q1 z1) (.slice p2 q2 z2))
  have HX1 := Lib.hid (hx1.go bXb); have HX2 := Lib.hid (hx2.go bXb)
  have c0 := (BA.out.go step2.out).c0
  have c1 := (BA.out.go step2.out).c1
  have c2 := (BA.out.go step2.out).c2
  obtain ⟨d0, d1, d2⟩ := Box3.cells (BB.out.go step2.out)
  clear bXb hx1 hx2 hb2 hx
  go_wp2_with fail
  generalize hg2 : w2.alloc (.cells #[.bool sx, .slice p1 q1 z1, .slice p2 q2 z2] 55) = w2' at *
  refine (F2.out _ step2.out).mono ?_
  rintro e w3 ⟨vy, rfl, hy, hb3⟩
  clear c0 c1 c2 d0 d1 d2
  obtain ⟨p3, q3, z3, p4, q4, z4, rfl, hy1, hy2⟩ := hy.box
  have bYb := below_alloc w3 (.cells #[.bool sy, .slice p3 q3 z3, .slice p4 q4 z4] 55)
  have step3 := Lib.hid (bstep hb3 bYb)
  have BY := Lib.hid (Box3.new w3 (.bool sy) (.slice p3 q3 z3) (.slice p4 q4 z4))
  have HY1 := Lib.hid (hy1.go bYb); have HY2 := Lib.hid (hy2.go bYb)
  have c0 := (BX.out.go step3.out).c0
  have c1 := (BX.out.go step3.out).c1
  have c2 := (BX.out.go step3.out).c2
  clear bYb hy1 hy2 hb3 hy
  go_wp2_with fail
  have T1 := times_num (HX1.out.go step3.out) HY1.out (by omega) (by omega)
  have by0 := BY.out.c0
  have by1 := BY.out.c1
  have by2 := BY.out.c2
  generalize hg3 : w3.alloc (.cells #[.bool sy, .slice p3 q3 z3, .slice p4 q4 z4] 55) = w3' at *
  refine T1.mono ?_
  rintro e w4 ⟨v4, rfl, h4, hb4⟩
  obtain ⟨p5, q5, z5, rfl⟩ := h4.shape
  have H4 := Lib.hid h4; clear h4 T1
  have HB4 := Lib.hid hb4
  clear c0 c1 c2 by0 by1 by2
  have c0 := (BX.out.go (bstep step3.out hb4)).c0
  have c1 := (BX.out.go (bstep step3.out hb4)).c1
  have c2 := (BX.out.go (bstep step3.out hb4)).c2
  have d0 := (BY.out.go hb4).c0
  have d1 := (BY.out.go hb4).c1
  have d2 := (BY.out.go hb4).c2
  clear hb4
  go_wp2_with fail
  refine (times_num (HX2.out.go (bstep step3.out HB4.out)) (HY2.out.go HB4.out) (by omega) (by omega)).mono ?_
  rintro e w5 ⟨v5, rfl, h5, hb5⟩
  obtain ⟨p6, q6, z6, rfl⟩ := h5.shape
  have H5 := Lib.hid h5; clear h5
  have HB5 := Lib.hid hb5
  have H45 := Lib.hid (H4.out.go hb5)
  clear c0 c1 c2 d0 d1 d2
  have step5 := Lib.hid (bstep (bstep step2.out step3.out) (bstep HB4.out hb5))
  have br := BR.out.go step5.out
  have c0 := (BX.out.go (bstep step3.out (bstep HB4.out hb5))).c0
  have d0 := (BY.out.go (bstep HB4.out hb5)).c0
  obtain ⟨r0, r1, r2, f0, f1, f2⟩ := Box3.facts br
  have BR5 := Lib.hid br
  have B5 := Lib.hid (bstep HB1.out step5.out)
  clear hb5 br hg2 hg3
  have Hdec : Hid (decide (X1 * Y1 = 0) = !decide (X1 * Y1 ≠ 0)) := by show _ = _; simp
  have lz := len_mul X1 Y1
  cases sx <;> cases sy
  all_goals first
    | (go_wp2_with fail
       obtain ⟨e0, e1, e2, hret⟩ := box_ret (t := false) BR5.out H45.out H5.out B5.out (by omega)
       refine bodyPost_ret ?_ rfl (HR.out _ _ hret)
       simp [results, Try.f64, go_sem, e0, e1, e2])
    | (go_wp2_with fail
       refine (isZero_num H45.out (by omega)).mono ?_; rintro e w6 ⟨rfl, rfl⟩; rw [Hdec.out]
       generalize hd : decide (X1 * Y1 ≠ 0) = t' at *
       have Hd' := Lib.hid hd; clear hd
       go_wp2_with fail
       obtain ⟨e0, e1, e2, hret⟩ := box_ret (t := t') BR5.out H45.out H5.out B5.out (by omega)
       refine bodyPost_ret ?_ rfl (HR.out _ _ hret)
       simp [results, Try.f64, go_sem, e0, e1, e2])
end Go.Proofs.Ytlkdahgfnfdakaa
