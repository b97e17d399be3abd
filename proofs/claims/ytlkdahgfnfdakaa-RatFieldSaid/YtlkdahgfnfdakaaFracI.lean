import Derived.Test.YtlkdahgfnfdakaaFracH
namespace Go.Proofs.Ytlkdahgfnfdakaa
open Go.RowKit WN LM

/-- the size of the nearest integer, of two the even one -/
def roundN (n d : Nat) : Nat := if d < n % d + n % d ∨ (n % d + n % d = d ∧ n / d % 2 = 1) then n / d + 1 else n / d

theorem wp_cut1 {P : Program} {c : Code} {Q : Exit → Act → World → Prop} {a : Act} {w : World} {R : Value → World → Prop} (F : Value → Act) (h : c.wp P (OnlyNormal fun a' w' => ∃ v1, a' = F v1 ∧ R v1 w') a w)
    (h2 : ∀ v1 w', R v1 w' → Q .normal (F v1) w') : c.wp P Q a w :=
  wp_mono h (OnlyNormal.elim (by rintro a' w' ⟨v1, rfl, h⟩; exact h2 v1 w' h))

set_option maxHeartbeats 4000000 in
set_option maxRecDepth 100000 in
theorem round_num {w : World} {v : Value} {s : Bool} {n d : Nat} (h : Frac w v s n d) (ln : Len n ≤ 1000000000) (ld : Len d ≤ 1000000000) (d0 : 0 < d) : Calls Try.prog 82 #[v] w (RetF w (s && decide (roundN n d ≠ 0)) (roundN n d) 1) := by
  obtain ⟨o1, k1, c1', o2, k2, c2', rfl, hn, hd⟩ := h.box
  clear h
  obtain ⟨B1, bA, bR⟩ := boxes2 w (.bool s) (.slice o1 k1 c1') (.slice o2 k2 c2') (.bool false) (.slice none 0 0) (.slice none 0 0)
  have Hn := Lib.hid (hn.go B1); have Hd := Lib.hid (hd.go B1)
  clear hn hd
  suffices main : ∀ R : Ending → World → Prop, Hid (∀ e w', RetF w (s && decide (roundN n d ≠ 0)) (roundN n d) 1 e w' → R e w') → Calls Try.prog 82 #[.agg #[.bool s, .slice o1 k1 c1', .slice o2 k2 c2']] w R from main _ (fun _ _ h => h)
  intro R HR
  have D0 := Lib.hid d0; clear d0
  have l1 := len_mono (Nat.div_le_self n d)
  have l2 := len_add (n / d) 1
  have l3 := len_small (show 1 < 1000000000 by omega)
  have l4 := len_mono (Nat.mod_le n d)
  have l5 := len_add (n % d) (n % d)
  have BR := Lib.hid bR; have HB1 := Lib.hid B1; have BA := Lib.hid bA
  have c0 := bA.c0; have c1 := bA.c1; have c2 := bA.c2
  clear bA bR B1
  go_enter Try.func82, Try.ntmps82
  go_wp2_with fail
  generalize (w.alloc (.cells #[.bool s, .slice o1 k1 c1', .slice o2 k2 c2'] 55)).alloc (.cells #[.bool false, .slice none 0 0, .slice none 0 0] 55) = w1 at *
  refine (over_num Hn.out Hd.out ln ld D0.out).mono ?_; rintro e w2 ⟨vq, vr, rfl, hq, hr, hb2⟩
  have Hq := Lib.hid hq; have Hr := Lib.hid hr; clear hq hr
  clear c0 c1 c2
  have B2 := Lib.hid (bstep HB1.out hb2); have BR2 := Lib.hid (BR.out.go hb2); have BA2 := Lib.hid (BA.out.go hb2); have Hd2 := Lib.hid (Hd.out.go hb2)
  clear hb2
  go_wp2_with fail
  obtain ⟨cr, hcr⟩ : ∃ cr, cmpN (n % d + n % d) d = cr := ⟨_, rfl⟩
  have P1 := Lib.hid (plus_num Hr.out.drew Hr.out.drew (by omega) (by omega))
  have P2 := Lib.hid (fun w' v h k => by have := compare_num (w := w') (va := v) (vb := .slice o2 k2 c2') (a := n % d + n % d) (b := d) h k (by omega) (by omega); rw [hcr] at this; exact this)
  have Hcr := Lib.hid hcr; clear hcr
  apply wp_cut1 (R := fun v1 w' => Below w2.heap.size w2 w')
  case h =>
    have c0 := BA2.out.c0; have c1 := BA2.out.c1; have c2 := BA2.out.c2
    go_region_held (fun w' => Below w2.heap.size w2 w' ∧ w'.cell? ⟨w.heap.size, 0, none⟩ = some (.bool s) ∧ w'.cell? ⟨w.heap.size, 1, none⟩ = some (.slice o1 k1 c1') ∧ w'.cell? ⟨w.heap.size, 2, none⟩ = some (.slice o2 k2 c2'))
      (first | exact ⟨below_drew w2, c0, c1, c2⟩ | exact at_go (by assumption) hb5 | exact at_go (by assumption) hb4)
      ((first
        | (go_at_call 116; (with_reducible refine P1.out.mono ?_); rintro e w4 ⟨v4, rfl, hv4, hb4⟩)
        | (go_at_call 118; (with_reducible refine (P2.out _ _ hv4 (Hd2.out.go (bstep (below_drew w2) hb4))).mono ?_); rintro e w5 ⟨rfl, hb5⟩)))
    all_goals (
      have hb : Below w2.heap.size w2 w5 := bstep (bstep (below_drew w2) hb4) hb5
      exact ⟨v4, rfl, hb⟩)
  case h2 =>
    rintro v1 w3 hb3
    have c0 := (BA2.out.go hb3).c0
    have HX := Lib.hid (Hq.out.go hb3); have BRX := Lib.hid (BR2.out.go hb3); have BX := Lib.hid (bstep B2.out hb3); have BA3 := Lib.hid (BA2.out.go hb3)
    clear hb3 Hq Hr BR2 BA2 B2 Hd2 P1 P2
    rcases Nat.lt_trichotomy (n % d + n % d) d with hlt | heq | hgt
    · have hc1 : cr = -1 := by rw [← Hcr.out]; unfold cmpN; rw [if_pos hlt]
      have Hf : Hid (roundN n d = n / d) := by show _ = _; unfold roundN; rw [if_neg (by omega)]
      rw [Hf.out] at HR
      have IN := Lib.hid (fun w' v h => integer_num (w := w') (va := v) (a := n / d) s h (by omega))
      generalize (s && decide (n / d ≠ 0)) = sz at *
      clear hlt
      subst hc1
      go_wp2_with fail
      refine (IN.out _ _ HX.out).mono ?_; rintro e w5 ⟨v5, rfl, hv5, hb5⟩
      obtain ⟨p5, q5, z5, p6, q6, z6, rfl, hx5, hx6⟩ := hv5.box
      have Hx5 := Lib.hid hx5; have Hx6 := Lib.hid hx6
      have BR5 := Lib.hid (BRX.out.go hb5); have B5 := Lib.hid (bstep BX.out hb5)
      clear hv5 hx5 hx6 hb5 c0
      obtain ⟨r0, r1, r2, f0, f1, f2⟩ := Box3.facts BR5.out
      go_wp2_with fail
      obtain ⟨e0, e1, e2, hret⟩ := box_ret (t := sz) BR5.out Hx5.out Hx6.out B5.out (by omega)
      refine bodyPost_ret ?_ rfl (HR.out _ _ hret)
      simp [results, Try.f82, go_sem, e0, e1, e2]
    · have hc1 : cr = 0 := by rw [← Hcr.out]; unfold cmpN; rw [if_neg (by omega), if_neg (by omega)]
      subst hc1
      by_cases hodd : n / d % 2 = 1
      · have Hf : Hid (roundN n d = n / d + 1) := by show _ = _; unfold roundN; rw [if_pos (.inr ⟨heq, hodd⟩)]
        rw [Hf.out] at HR
        have IN := Lib.hid (fun w' v h => integer_num (w := w') (va := v) (a := n / d + 1) s h (by omega))
        generalize (s && decide (n / d + 1 ≠ 0)) = sz at *
        have Hod : Hid (decide (n / d % 2 = 1) = true) := by show _ = _; simp [hodd]
        clear heq hodd
        go_wp2_with fail
        refine (isOdd_num HX.out (by omega)).mono ?_; rintro e w4 ⟨rfl, rfl⟩; rw [Hod.out]
        go_wp2_with fail
        refine (one_num _).mono ?_; rintro e w4 ⟨v4, rfl, hv4, hb4⟩
        have Hv4 := Lib.hid hv4; clear hv4
        go_wp2_with fail
        refine (plus_num (HX.out.go hb4) Hv4.out (by omega) (by omega)).mono ?_; rintro e w6 ⟨v6, rfl, hv6, hb6⟩
        have HX := Lib.hid hv6; have BRX := Lib.hid (BRX.out.go (bstep hb4 hb6)); have BX := Lib.hid (bstep BX.out (bstep hb4 hb6))
        have c0 := (BA3.out.go (bstep hb4 hb6)).c0
        clear hv6 hb6 hb4
        go_wp2_with fail
        refine (IN.out _ _ HX.out).mono ?_; rintro e w5 ⟨v5, rfl, hv5, hb5⟩
        obtain ⟨p5, q5, z5, p6, q6, z6, rfl, hx5, hx6⟩ := hv5.box
        have Hx5 := Lib.hid hx5; have Hx6 := Lib.hid hx6
        have BR5 := Lib.hid (BRX.out.go hb5); have B5 := Lib.hid (bstep BX.out hb5)
        clear hv5 hx5 hx6 hb5 c0
        obtain ⟨r0, r1, r2, f0, f1, f2⟩ := Box3.facts BR5.out
        go_wp2_with fail
        obtain ⟨e0, e1, e2, hret⟩ := box_ret (t := sz) BR5.out Hx5.out Hx6.out B5.out (by omega)
        refine bodyPost_ret ?_ rfl (HR.out _ _ hret)
        simp [results, Try.f82, go_sem, e0, e1, e2]
      · have Hf : Hid (roundN n d = n / d) := by show _ = _; unfold roundN; rw [if_neg (by omega)]
        rw [Hf.out] at HR
        have IN := Lib.hid (fun w' v h => integer_num (w := w') (va := v) (a := n / d) s h (by omega))
        generalize (s && decide (n / d ≠ 0)) = sz at *
        have Hod : Hid (decide (n / d % 2 = 1) = false) := by show _ = _; simp [hodd]
        clear heq hodd
        go_wp2_with fail
        refine (isOdd_num HX.out (by omega)).mono ?_; rintro e w4 ⟨rfl, rfl⟩; rw [Hod.out]
        go_wp2_with fail
        refine (IN.out _ _ HX.out).mono ?_; rintro e w5 ⟨v5, rfl, hv5, hb5⟩
        obtain ⟨p5, q5, z5, p6, q6, z6, rfl, hx5, hx6⟩ := hv5.box
        have Hx5 := Lib.hid hx5; have Hx6 := Lib.hid hx6
        have BR5 := Lib.hid (BRX.out.go hb5); have B5 := Lib.hid (bstep BX.out hb5)
        clear hv5 hx5 hx6 hb5 c0
        obtain ⟨r0, r1, r2, f0, f1, f2⟩ := Box3.facts BR5.out
        go_wp2_with fail
        obtain ⟨e0, e1, e2, hret⟩ := box_ret (t := sz) BR5.out Hx5.out Hx6.out B5.out (by omega)
        refine bodyPost_ret ?_ rfl (HR.out _ _ hret)
        simp [results, Try.f82, go_sem, e0, e1, e2]
    · have hc1 : cr = 1 := by rw [← Hcr.out]; unfold cmpN; rw [if_neg (by omega), if_pos hgt]
      have Hf : Hid (roundN n d = n / d + 1) := by show _ = _; unfold roundN; rw [if_pos (.inl hgt)]
      rw [Hf.out] at HR
      have IN := Lib.hid (fun w' v h => integer_num (w := w') (va := v) (a := n / d + 1) s h (by omega))
      generalize (s && decide (n / d + 1 ≠ 0)) = sz at *
      clear hgt
      subst hc1
      go_wp2_with fail
      refine (one_num _).mono ?_; rintro e w4 ⟨v4, rfl, hv4, hb4⟩
      have Hv4 := Lib.hid hv4; clear hv4
      go_wp2_with fail
      refine (plus_num (HX.out.go hb4) Hv4.out (by omega) (by omega)).mono ?_; rintro e w6 ⟨v6, rfl, hv6, hb6⟩
      have HX := Lib.hid hv6; have BRX := Lib.hid (BRX.out.go (bstep hb4 hb6)); have BX := Lib.hid (bstep BX.out (bstep hb4 hb6))
      have c0 := (BA3.out.go (bstep hb4 hb6)).c0
      clear hv6 hb6 hb4
      go_wp2_with fail
      refine (IN.out _ _ HX.out).mono ?_; rintro e w5 ⟨v5, rfl, hv5, hb5⟩
      obtain ⟨p5, q5, z5, p6, q6, z6, rfl, hx5, hx6⟩ := hv5.box
      have Hx5 := Lib.hid hx5; have Hx6 := Lib.hid hx6
      have BR5 := Lib.hid (BRX.out.go hb5); have B5 := Lib.hid (bstep BX.out hb5)
      clear hv5 hx5 hx6 hb5 c0
      obtain ⟨r0, r1, r2, f0, f1, f2⟩ := Box3.facts BR5.out
      go_wp2_with fail
      obtain ⟨e0, e1, e2, hret⟩ := box_ret (t := sz) BR5.out Hx5.out Hx6.out B5.out (by omega)
      refine bodyPost_ret ?_ rfl (HR.out _ _ hret)
      simp [results, Try.f82, go_sem, e0, e1, e2]
end Go.Proofs.Ytlkdahgfnfdakaa
