import Derived.Test.YtlkdahgfnfdakaaFracG
namespace Go.Proofs.Ytlkdahgfnfdakaa
open Go.RowKit WN LM

/-- the size of the greatest integer that is not greater -/
def floorN (s : Bool) (n d : Nat) : Nat := if s && decide (n % d ≠ 0) then n / d + 1 else n / d

set_option maxHeartbeats 2000000 in
set_option maxRecDepth 100000 in
theorem floor_num {w : World} {v : Value} {s : Bool} {n d : Nat} (h : Frac w v s n d) (ln : Len n ≤ 1000000000) (ld : Len d ≤ 1000000000) (d0 : 0 < d) : Calls Try.prog 80 #[v] w (RetF w (s && decide (floorN s n d ≠ 0)) (floorN s n d) 1) := by
  obtain ⟨o1, k1, c1', o2, k2, c2', rfl, hn, hd⟩ := h.box
  clear h
  obtain ⟨B1, bA, bR⟩ := boxes2 w (.bool s) (.slice o1 k1 c1') (.slice o2 k2 c2') (.bool false) (.slice none 0 0) (.slice none 0 0)
  have Hn := Lib.hid (hn.go B1); have Hd := Lib.hid (hd.go B1)
  clear hn hd
  suffices main : ∀ R : Ending → World → Prop, Hid (∀ e w', RetF w (s && decide (floorN s n d ≠ 0)) (floorN s n d) 1 e w' → R e w') → Calls Try.prog 80 #[.agg #[.bool s, .slice o1 k1 c1', .slice o2 k2 c2']] w R from main _ (fun _ _ h => h)
  intro R HR
  have D0 := Lib.hid d0; clear d0
  have l1 := len_mono (Nat.div_le_self n d)
  have l2 := len_add (n / d) 1
  have l3 := len_small (show 1 < 1000000000 by omega)
  have l4 := len_mono (Nat.mod_le n d)
  have BR := Lib.hid bR; have HB1 := Lib.hid B1; have BA := Lib.hid bA
  have c0 := bA.c0; have c1 := bA.c1; have c2 := bA.c2
  clear bA bR B1
  go_enter Try.func80, Try.ntmps80
  go_wp2_with fail
  generalize (w.alloc (.cells #[.bool s, .slice o1 k1 c1', .slice o2 k2 c2'] 55)).alloc (.cells #[.bool false, .slice none 0 0, .slice none 0 0] 55) = w1 at *
  refine (over_num Hn.out Hd.out ln ld D0.out).mono ?_; rintro e w2 ⟨vq, vr, rfl, hq, hr, hb2⟩
  have Hq := Lib.hid hq; have Hr := Lib.hid hr; clear hq hr
  clear c0 c1 c2
  have c0 := (BA.out.go hb2).c0
  have B2 := Lib.hid (bstep HB1.out hb2); have BR2 := Lib.hid (BR.out.go hb2); have BA2 := Lib.hid (BA.out.go hb2)
  clear hb2
  by_cases hc : s = true ∧ n % d ≠ 0
  · obtain ⟨rfl, hm⟩ := hc
    have Hf : Hid (floorN true n d = n / d + 1) := by show _ = _; unfold floorN; rw [if_pos (by simp [hm])]
    rw [Hf.out] at HR
    have hmd : Hid (decide (n % d = 0) = false) := by show _ = _; simp [hm]
    clear hm
    have IN := Lib.hid (fun w' v h => integer_num (w := w') (va := v) (a := n / d + 1) true h (by omega))
    generalize (true && decide (n / d + 1 ≠ 0)) = sz at *
    go_wp2_with fail
    refine (isZero_num Hr.out (by omega)).mono ?_; rintro e w3 ⟨rfl, rfl⟩; rw [hmd.out]
    go_wp2_with fail
    refine (one_num _).mono ?_; rintro e w3 ⟨v3, rfl, hv3, hb3⟩
    have Hv3 := Lib.hid hv3; clear hv3
    go_wp2_with fail
    refine (plus_num (Hq.out.go hb3) Hv3.out (by omega) (by omega)).mono ?_; rintro e w4 ⟨v4, rfl, hv4, hb4⟩
    have Hv4 := Lib.hid hv4; clear hv4
    have B4 := Lib.hid (bstep hb3 hb4); clear hb3 hb4 c0
    have c0 := (BA2.out.go B4.out).c0
    go_wp2_with fail
    refine (IN.out _ _ Hv4.out).mono ?_; rintro e w5 ⟨v5, rfl, hv5, hb5⟩
    obtain ⟨p5, q5, z5, p6, q6, z6, rfl, hx5, hx6⟩ := hv5.box
    have Hx5 := Lib.hid hx5; have Hx6 := Lib.hid hx6
    have BR5 := Lib.hid (BR2.out.go (bstep B4.out hb5)); have B5 := Lib.hid (bstep (bstep B2.out B4.out) hb5)
    clear hv5 hx5 hx6 hb5 c0
    obtain ⟨r0, r1, r2, f0, f1, f2⟩ := Box3.facts BR5.out
    go_wp2_with fail
    obtain ⟨e0, e1, e2, hret⟩ := box_ret (t := sz) BR5.out Hx5.out Hx6.out B5.out (by omega)
    refine bodyPost_ret ?_ rfl (HR.out _ _ hret)
    simp [results, Try.f80, go_sem, e0, e1, e2]
  · have Hf : Hid (floorN s n d = n / d) := by
      show _ = _; unfold floorN; rw [if_neg]; intro h; simp at h; exact hc ⟨h.1, h.2⟩
    rw [Hf.out] at HR
    have IN := Lib.hid (fun w' v h => integer_num (w := w') (va := v) (a := n / d) s h (by omega))
    cases s
    · generalize (false && decide (n / d ≠ 0)) = sz at *
      clear hc
      go_wp2_with fail
      refine (IN.out _ _ Hq.out).mono ?_; rintro e w5 ⟨v5, rfl, hv5, hb5⟩
      obtain ⟨p5, q5, z5, p6, q6, z6, rfl, hx5, hx6⟩ := hv5.box
      have Hx5 := Lib.hid hx5; have Hx6 := Lib.hid hx6
      have BR5 := Lib.hid (BR2.out.go hb5); have B5 := Lib.hid (bstep B2.out hb5)
      clear hv5 hx5 hx6 hb5 c0
      obtain ⟨r0, r1, r2, f0, f1, f2⟩ := Box3.facts BR5.out
      go_wp2_with fail
      obtain ⟨e0, e1, e2, hret⟩ := box_ret (t := sz) BR5.out Hx5.out Hx6.out B5.out (by omega)
      refine bodyPost_ret ?_ rfl (HR.out _ _ hret)
      simp [results, Try.f80, go_sem, e0, e1, e2]
    · have hm : n % d = 0 := by
        rcases Nat.eq_zero_or_pos (n % d) with h | h
        · exact h
        · exact (hc ⟨rfl, by omega⟩).elim
      have hmd : Hid (decide (n % d = 0) = true) := by show _ = _; simp [hm]
      clear hm hc
      generalize (true && decide (n / d ≠ 0)) = sz at *
      go_wp2_with fail
      refine (isZero_num Hr.out (by omega)).mono ?_; rintro e w3 ⟨rfl, rfl⟩; rw [hmd.out]
      go_wp2_with fail
      refine (IN.out _ _ Hq.out).mono ?_; rintro e w5 ⟨v5, rfl, hv5, hb5⟩
      obtain ⟨p5, q5, z5, p6, q6, z6, rfl, hx5, hx6⟩ := hv5.box
      have Hx5 := Lib.hid hx5; have Hx6 := Lib.hid hx6
      have BR5 := Lib.hid (BR2.out.go hb5); have B5 := Lib.hid (bstep B2.out hb5)
      clear hv5 hx5 hx6 hb5 c0
      obtain ⟨r0, r1, r2, f0, f1, f2⟩ := Box3.facts BR5.out
      go_wp2_with fail
      obtain ⟨e0, e1, e2, hret⟩ := box_ret (t := sz) BR5.out Hx5.out Hx6.out B5.out (by omega)
      refine bodyPost_ret ?_ rfl (HR.out _ _ hret)
      simp [results, Try.f80, go_sem, e0, e1, e2]
end Go.Proofs.Ytlkdahgfnfdakaa
