import Derived.Test.YtlkdahgfnfdakaaDvr
namespace Go.Proofs.Ytlkdahgfnfdakaa
open Go.RowKit WN LM

set_option maxHeartbeats 1000000 in
set_option maxRecDepth 100000 in
theorem multiple_num {w : World} {va vb : Value} {a b : Nat} (ha : Num w va a) (hb : Num w vb b) (la : Len a ≤ 1000000000) (lb : Len b ≤ 1000000000) (h0 : 0 < a) :
    Calls Try.prog 90 #[va, vb] w (Ret1 w (a * (b / Nat.gcd a b))) := by
  have Ha := Lib.hid ha
  have Hb := Lib.hid hb
  clear ha hb
  have hg : 0 < Nat.gcd a b := Nat.gcd_pos_of_pos_left _ h0
  have lg : Len (Nat.gcd a b) ≤ 1000000000 := Nat.le_trans (len_mono (Nat.gcd_le_left _ h0)) la
  have lq : Len (b / Nat.gcd a b) ≤ 1000000000 := Nat.le_trans (len_mono (Nat.div_le_self _ _)) lb
  have Hg := Lib.hid hg; clear hg
  go_enter Try.func90, Try.ntmps90
  go_wp2_with fail
  refine (divisor_num Ha.out Hb.out la lb).mono ?_; rintro e w1 ⟨v1, rfl, hv1, hb1⟩
  have Hv1 := Lib.hid hv1; clear hv1
  go_wp2_with fail
  refine (over_num (Hb.out.below hb1 (Nat.le_refl _)) Hv1.out lb lg Hg.out).mono ?_; rintro e w2 ⟨vq, vr, rfl, hvq, hvr, hb2⟩
  have Hvq := Lib.hid hvq; clear hvq hvr
  have b2 := hb1.trans (hb2.mono hb1.size)
  go_wp2_with fail
  refine (times_num (Ha.out.below b2 (Nat.le_refl _)) Hvq.out (by omega) (by omega)).mono ?_; rintro e w3 ⟨v3, rfl, hv3, hb3⟩
  go_wp2_with fail
  go_ret
  exact ⟨v3, rfl, hv3, b2.trans (hb3.mono b2.size)⟩

/-- the simplest number from a/b to c/d: what the program finds -/
def simpl (a b c d : Nat) : Nat × Nat :=
  if h : b = 0 ∨ a % b = 0 ∨ (a / b + 1) * d ≤ c then (if a % b = 0 then (a / b, 1) else (a / b + 1, 1))
  else ((a / b) * (simpl d (c - a / b * d) b (a % b)).1 + (simpl d (c - a / b * d) b (a % b)).2, (simpl d (c - a / b * d) b (a % b)).1)
termination_by b + d
decreasing_by
  all_goals
    have h1 := Nat.mod_lt a (by omega : 0 < b)
    rw [Nat.add_mul, Nat.one_mul] at h
    omega

theorem simpl_exact {a b c d : Nat} (h : a % b = 0) : simpl a b c d = (a / b, 1) := by
  rw [simpl, dif_pos (.inr (.inl h)), if_pos h]
theorem simpl_next {a b c d : Nat} (h : a % b ≠ 0) (h2 : (a / b + 1) * d ≤ c) : simpl a b c d = (a / b + 1, 1) := by
  rw [simpl, dif_pos (.inr (.inr h2)), if_neg h]
theorem simpl_rec {a b c d : Nat} (hb : 0 < b) (h : a % b ≠ 0) (h2 : c < (a / b + 1) * d) :
    simpl a b c d = ((a / b) * (simpl d (c - a / b * d) b (a % b)).1 + (simpl d (c - a / b * d) b (a % b)).2, (simpl d (c - a / b * d) b (a % b)).1) := by
  rw [simpl, dif_neg (by omega)]

theorem simpl_between {a b c d : Nat} (hb : 0 < b) (hd : 0 < d) (h : a * d ≤ c * b) (hm : a % b ≠ 0) : a / b * d < c ∧ b * (c - a / b * d) ≥ (a % b) * d := by
  have e := Nat.div_add_mod a b
  have e2 : a * d = b * (a / b * d) + a % b * d := by
    rw [← Nat.mul_assoc, ← Nat.add_mul, e]
  rw [Nat.mul_comm c b, e2] at h
  have h3 : 0 < a % b * d := Nat.mul_pos (Nat.pos_of_ne_zero hm) hd
  have h4 : a / b * d < c := by
    rcases Nat.lt_or_ge (a / b * d) c with h | h'
    · exact h
    · have := Nat.mul_le_mul_left b h'; omega
  refine ⟨h4, ?_⟩
  rw [Nat.mul_sub]
  omega

theorem simpl_bound : ∀ (N a b c d : Nat), b + d ≤ N → 0 < b → 0 < d → a * d ≤ c * b → (simpl a b c d).1 ≤ a ∧ (simpl a b c d).2 ≤ b ∧ (simpl a b c d).1 ≤ c ∧ (simpl a b c d).2 ≤ d
  | 0, a, b, c, d, hN, hb, hd, h => by omega
  | N + 1, a, b, c, d, hN, hb, hd, h => by
    have e := Nat.div_add_mod a b
    have hw := Nat.div_le_self a b
    by_cases h1 : a % b = 0
    · rw [simpl_exact h1]
      have h2 : a / b * d ≤ c := by
        have : b * (a / b * d) ≤ b * c := by rw [← Nat.mul_assoc, show b * (a / b) = a from by omega, Nat.mul_comm b c]; exact h
        exact Nat.le_of_mul_le_mul_left this hb
      have h3 : a / b * 1 ≤ a / b * d := Nat.mul_le_mul_left _ hd
      exact ⟨hw, hb, by show a / b ≤ c; omega, hd⟩
    · have h4 := Nat.mod_lt a hb
      have h5 : 1 * (a / b) ≤ b * (a / b) := Nat.mul_le_mul_right _ hb
      by_cases h2 : (a / b + 1) * d ≤ c
      · rw [simpl_next h1 h2]
        have h3 : (a / b + 1) * 1 ≤ (a / b + 1) * d := Nat.mul_le_mul_left _ hd
        exact ⟨by show a / b + 1 ≤ a; omega, hb, by show a / b + 1 ≤ c; omega, hd⟩
      · rw [simpl_rec hb h1 (by omega)]
        obtain ⟨g1, g2⟩ := simpl_between hb hd h h1
        have g3 : c - a / b * d < d := by rw [Nat.add_mul, Nat.one_mul] at h2; omega
        obtain ⟨r1, r2, r3, r4⟩ := simpl_bound N d (c - a / b * d) b (a % b) (by omega) (by omega) (by omega) (by rw [Nat.mul_comm d]; exact g2)
        generalize simpl d (c - a / b * d) b (a % b) = r at *
        have m1 : a / b * r.1 ≤ a / b * b := Nat.mul_le_mul_left _ r3
        have m2 : a / b * r.1 ≤ a / b * d := Nat.mul_le_mul_left _ r1
        rw [Nat.mul_comm (a / b) b] at m1
        exact ⟨by show a / b * r.1 + r.2 ≤ a; omega, r3, by show a / b * r.1 + r.2 ≤ c; omega, r1⟩

set_option maxHeartbeats 2000000 in
set_option maxRecDepth 100000 in
theorem simplestAbove_num : ∀ (N : Nat) (w : World) (va vb vc vd : Value) (a b c d : Nat), b + d ≤ N → Num w va a → Num w vb b → Num w vc c → Num w vd d → Len a ≤ 1000000000 → Len b ≤ 1000000000 → Len c ≤ 1000000000 → Len d ≤ 1000000000 →
    0 < b → 0 < d → a * d ≤ c * b → Calls Try.prog 128 #[va, vb, vc, vd] w (Ret2 w (simpl a b c d).1 (simpl a b c d).2)
  | 0, w, va, vb, vc, vd, a, b, c, d, hN, ha, hb, hc, hd, la, lb, lc, ld, b0, d0, hle => by omega
  | N + 1, w, va, vb, vc, vd, a, b, c, d, hN, ha, hb, hc, hd, la, lb, lc, ld, b0, d0, hle => by
    have Ha := Lib.hid ha
    have Hb := Lib.hid hb
    have Hc := Lib.hid hc
    have Hd := Lib.hid hd
    clear ha hb hc hd
    have IH := Lib.hid (simplestAbove_num N)
    have Hle := Lib.hid hle; clear hle
    have HN := Lib.hid hN; clear hN
    have lw := len_mono (Nat.div_le_self a b)
    have lr := len_mono (Nat.le_of_lt (Nat.mod_lt a b0))
    have lw1 := len_add (a / b) 1
    have l1 := len_small (show 1 < 1000000000 by omega)
    have lt1 := len_mul (a / b + 1) d
    go_enter Try.func128, Try.ntmps128
    go_wp2_with fail
    refine (over_num Ha.out Hb.out la lb b0).mono ?_; rintro e w1 ⟨vq, vr, rfl, hvq, hvr, hb1⟩
    have Hvq := Lib.hid hvq; clear hvq
    have Hvr := Lib.hid hvr; clear hvr
    by_cases h1 : a % b = 0
    · have hd1 : Hid (decide (a % b = 0) = true) := by show _ = _; simp [h1]
      have He := Lib.hid (simpl_exact (c := c) (d := d) h1)
      clear h1
      go_wp2_with fail
      refine (isZero_num Hvr.out (by omega)).mono ?_; rintro e w2 ⟨rfl, rfl⟩; rw [hd1.out]
      go_wp2_with fail
      refine (one_num _).mono ?_; rintro e w3 ⟨v3, rfl, hv3, hb3⟩
      have Hv3 := Lib.hid hv3; clear hv3
      go_wp2_with fail
      go_ret2
      exact ⟨_, _, rfl, by rw [He.out]; exact Hvq.out.below hb3 (Nat.le_refl _), by rw [He.out]; exact Hv3.out, hb1.trans (hb3.mono hb1.size)⟩
    · have hd1 : Hid (decide (a % b = 0) = false) := by show _ = _; simp [h1]
      have H1 := Lib.hid h1; clear h1
      go_wp2_with fail
      refine (isZero_num Hvr.out (by omega)).mono ?_; rintro e w2 ⟨rfl, rfl⟩; rw [hd1.out]
      go_wp2_with fail
      refine (one_num _).mono ?_; rintro e w3 ⟨v3, rfl, hv3, hb3⟩
      have Hv3 := Lib.hid hv3; clear hv3
      have b3 := hb1.trans (hb3.mono hb1.size)
      have Hvq3 := Lib.hid (Hvq.out.below hb3 (Nat.le_refl _))
      go_wp2_with fail
      refine (plus_num Hvq3.out Hv3.out (by omega) (by omega)).mono ?_; rintro e w4 ⟨v4, rfl, hv4, hb4⟩
      have Hv4 := Lib.hid hv4; clear hv4
      have b4 := b3.trans (hb4.mono b3.size)
      go_wp2_with fail
      refine (times_num Hv4.out (Hd.out.below b4 (Nat.le_refl _)) (by omega) (by omega)).mono ?_; rintro e w5 ⟨v5, rfl, hv5, hb5⟩
      have Hv5 := Lib.hid hv5; clear hv5
      have b5 := b4.trans (hb5.mono b4.size)
      go_wp2_with fail
      refine (compare_num Hv5.out (Hc.out.below b5 (Nat.le_refl _)) (by omega) (by omega)).mono ?_; rintro e w6 ⟨rfl, hb6⟩
      have b6 := b5.trans (hb6.mono b5.size)
      have hcm : (cmpN ((a / b + 1) * d) c ≤ 0 ∧ (a / b + 1) * d ≤ c) ∨ (cmpN ((a / b + 1) * d) c = 1 ∧ c < (a / b + 1) * d) := by
        generalize (a / b + 1) * d = z
        unfold cmpN
        rcases Nat.lt_trichotomy z c with h | h | h
        · rw [if_pos h]; exact .inl ⟨by omega, by omega⟩
        · rw [if_neg (by omega), if_neg (by omega)]; exact .inl ⟨by omega, by omega⟩
        · rw [if_neg (by omega), if_pos h]; exact .inr ⟨rfl, h⟩
      generalize cmpN ((a / b + 1) * d) c = r at *
      rcases hcm with ⟨hr, h2⟩ | ⟨rfl, h2⟩
      · have hrd : decide (r ≤ 0) = true := by simp [hr]
        have He := Lib.hid (simpl_next H1.out h2)
        clear h2
        go_wp2_with fail
        refine (one_num _).mono ?_; rintro e w7 ⟨v7, rfl, hv7, hb7⟩
        have Hv7 := Lib.hid hv7; clear hv7
        go_wp2_with fail
        go_ret2
        exact ⟨_, _, rfl, by rw [He.out]; exact ((Hv4.out.below hb5 (Nat.le_refl _)).below hb6 (Nat.le_refl _)).below hb7 (Nat.le_refl _), by rw [He.out]; exact Hv7.out, b6.trans (hb7.mono b6.size)⟩
      · have He := Lib.hid (simpl_rec b0 H1.out h2)
        obtain ⟨g1, g2⟩ := simpl_between b0 d0 Hle.out H1.out
        have g3 : c - a / b * d < d := by rw [Nat.add_mul, Nat.one_mul] at h2; omega
        have bd := simpl_bound _ d (c - a / b * d) b (a % b) (Nat.le_refl _) (by omega) (by have := H1.out; omega) (by rw [Nat.mul_comm d]; exact g2)
        have lwd := len_mul (a / b) d
        have g4 := Nat.mod_lt a b0
        have Hrec := Lib.hid (fun w va vb vc vd => IH.out w va vb vc vd d (c - a / b * d) b (a % b) (by have := HN.out; omega))
        have lcd := len_mono (Nat.sub_le c (a / b * d))
        have G1 := Lib.hid g1; clear g1
        have G2 := Lib.hid g2; clear g2
        clear h2 g3 IH g4
        have Hvq6 := Lib.hid ((((Hvq3.out.below hb4 (Nat.le_refl _)).below hb5 (Nat.le_refl _)).below hb6 (Nat.le_refl _)))
        go_wp2_with fail
        refine (times_num Hvq6.out (Hd.out.below b6 (Nat.le_refl _)) (by omega) (by omega)).mono ?_; rintro e w7 ⟨v7, rfl, hv7, hb7⟩
        have Hv7 := Lib.hid hv7; clear hv7
        have b7 := b6.trans (hb7.mono b6.size)
        go_wp2_with fail
        refine (minus_num (Hc.out.below b7 (Nat.le_refl _)) Hv7.out (by omega) (Nat.le_of_lt G1.out)).mono ?_; rintro e w8 ⟨v8, rfl, hv8, hb8⟩
        have Hv8 := Lib.hid hv8; clear hv8
        have b8 := b7.trans (hb8.mono b7.size)
        have q8 := (hb3.trans (hb4.mono hb3.size))
        have Hvr8 := Lib.hid ((((((Hvr.out.below hb3 (Nat.le_refl _)).below hb4 (Nat.le_refl _)).below hb5 (Nat.le_refl _)).below hb6 (Nat.le_refl _)).below hb7 (Nat.le_refl _)).below hb8 (Nat.le_refl _))
        clear q8
        go_wp2_with fail
        refine (Hrec.out _ _ _ _ _ (Hd.out.below b8 (Nat.le_refl _)) Hv8.out (Hb.out.below b8 (Nat.le_refl _)) Hvr8.out ld (by omega) lb (by omega) (by have := G1.out; omega) (by have := H1.out; omega) (by rw [Nat.mul_comm d]; exact G2.out)).mono ?_; rintro e w9 ⟨v9, v9', rfl, hv9, hv9', hb9⟩
        have Hv9 := Lib.hid hv9; clear hv9
        have Hv9' := Lib.hid hv9'; clear hv9'
        have b9 := b8.trans (hb9.mono b8.size)
        generalize simpl d (c - a / b * d) b (a % b) = s at *
        have ls1 := len_mono bd.1
        have ls2 := len_mono bd.2.1
        have ls3 := len_mul (a / b) s.1
        clear Hrec
        have Hvq9 := Lib.hid (((Hvq6.out.below hb7 (Nat.le_refl _)).below hb8 (Nat.le_refl _)).below hb9 (Nat.le_refl _))
        go_wp2_with fail
        refine (times_num Hvq9.out Hv9.out (by omega) (by omega)).mono ?_; rintro e w10 ⟨v10, rfl, hv10, hb10⟩
        have Hv10 := Lib.hid hv10; clear hv10
        have b10 := b9.trans (hb10.mono b9.size)
        go_wp2_with fail
        refine (plus_num Hv10.out (Hv9'.out.below hb10 (Nat.le_refl _)) (by omega) (by omega)).mono ?_; rintro e w11 ⟨v11, rfl, hv11, hb11⟩
        have Hv11 := Lib.hid hv11; clear hv11
        have b11 := b10.trans (hb11.mono b10.size)
        go_wp2_with fail
        go_ret2
        exact ⟨_, _, rfl, by rw [He.out]; exact Hv11.out, by rw [He.out]; exact (Hv9.out.below hb10 (Nat.le_refl _)).below hb11 (Nat.le_refl _), b11⟩
end Go.Proofs.Ytlkdahgfnfdakaa
