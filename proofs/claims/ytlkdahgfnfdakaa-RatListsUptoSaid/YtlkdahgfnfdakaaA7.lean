import Derived.Test.YtlkdahgfnfdakaaA6
import Derived.Test.YtlkdahgfnfdakaaA5
namespace Go.Proofs.Ytlkdahgfnfdakaa
open Go.RowKit WN LM

def plusX (n d c : Nat) : Nat := n * (c / Nat.gcd d c)
def plusY (m d c : Nat) : Nat := m * (d / Nat.gcd d c)
/-- a sum's numerator over the common denominator: its sign, its size -/
def plusS (s : Bool) (n d : Nat) (t : Bool) (m c : Nat) : Bool :=
  addS (s && decide (plusX n d c ≠ 0)) (plusX n d c) (t && decide (plusY m d c ≠ 0)) (plusY m d c)
def plusN (s : Bool) (n d : Nat) (t : Bool) (m c : Nat) : Nat :=
  addN (s && decide (plusX n d c ≠ 0)) (plusX n d c) (t && decide (plusY m d c ≠ 0)) (plusY m d c)
theorem addN_len (s : Bool) (X : Nat) (t : Bool) (Y : Nat) : Len (addN s X t Y) ≤ max (Len X) (Len Y) + 1 := by
  unfold addN
  have h1 := len_add X Y
  have h2 := len_mono (Nat.sub_le X Y)
  have h3 := len_mono (Nat.sub_le Y X)
  split
  · omega
  · split <;> omega

set_option maxHeartbeats 4000000 in
set_option maxRecDepth 100000 in
theorem fracPlus_num {w : World} {v u : Value} {s t : Bool} {n d m c : Nat} (h : Frac w v s n d) (k : Frac w u t m c) (ln : Len n ≤ 100000000) (ld : Len d ≤ 100000000) (lm : Len m ≤ 100000000) (lc : Len c ≤ 100000000) (d0 : 0 < d) :
    Calls Try.prog 70 #[v, u] w (if plusN s n d t m c = 0 then RetF w false 0 1 else
      RetF w (plusS s n d t m c) (plusN s n d t m c / Nat.gcd (plusN s n d t m c) (Nat.gcd d c)) (Nat.gcd d c / Nat.gcd (plusN s n d t m c) (Nat.gcd d c) * (d / Nat.gcd d c) * (c / Nat.gcd d c))) := by
  obtain ⟨o1, k1, c1', o2, k2, c2', rfl, hn, hd⟩ := h.box
  obtain ⟨o3, k3, c3', o4, k4, c4', rfl, hm, hc⟩ := k.box
  clear h k
  obtain ⟨B1, bA, bB, bR⟩ := boxes3 w (.bool s) (.slice o1 k1 c1') (.slice o2 k2 c2') (.bool t) (.slice o3 k3 c3') (.slice o4 k4 c4') (.bool false) (.slice none 0 0) (.slice none 0 0)
  have Hn := Lib.hid (hn.go B1); have Hm := Lib.hid (hm.go B1)
  have Hd := Lib.hid (hd.go B1); have Hc := Lib.hid (hc.go B1)
  clear hn hd hm hc
  have hg0 : 0 < Nat.gcd d c := Nat.gcd_pos_of_pos_left _ d0
  have lg : Len (Nat.gcd d c) ≤ 100000000 := Nat.le_trans (len_mono (Nat.gcd_le_left _ d0)) ld
  have lL := len_mono (Nat.div_le_self d (Nat.gcd d c))
  have lR := len_mono (Nat.div_le_self c (Nat.gcd d c))
  have GD := Lib.hid (divisor_num Hd.out Hc.out (by omega) (by omega))
  have d0' := Lib.hid d0; clear d0
  have hg0' := Lib.hid hg0; clear hg0
  unfold plusS plusN plusX plusY
  generalize hL : d / Nat.gcd d c = L at *
  generalize hR : c / Nat.gcd d c = R at *
  have OV1 := Lib.hid (fun w' v u a b => over_num (w := w') (va := v) (vb := u) (a := d) (b := Nat.gcd d c) a b (by omega) (by omega) hg0'.out)
  have OV2 := Lib.hid (fun w' v u a b => over_num (w := w') (va := v) (vb := u) (a := c) (b := Nat.gcd d c) a b (by omega) (by omega) hg0'.out)
  rw [hL] at OV1; rw [hR] at OV2
  clear hL hR
  generalize Nat.gcd d c = g at *
  have lX := len_mul n R
  have lY := len_mul m L
  have T1 := Lib.hid (fun w' v u a b => times_num (w := w') (va := v) (vb := u) (a := n) (b := R) a b (by omega) (by omega))
  have T2 := Lib.hid (fun w' v u a b => times_num (w := w') (va := v) (vb := u) (a := m) (b := L) a b (by omega) (by omega))
  have I1 := Lib.hid (fun w' v h => integer_num (w := w') (va := v) (a := n * R) s h (by omega))
  have I2 := Lib.hid (fun w' v h => integer_num (w := w') (va := v) (a := m * L) t h (by omega))
  generalize (s && decide (n * R ≠ 0)) = sx at *
  generalize (t && decide (m * L ≠ 0)) = sy at *
  generalize n * R = X at *
  generalize m * L = Y at *
  have lN := addN_len sx X sy Y
  have PS := Lib.hid (fun w' v u a b => plusSigned_num (w := w') (v := v) (u := u) (s := sx) (t := sy) (n := X) (d := 1) (m := Y) (c := 1) a b (by omega) (by omega))
  generalize addS sx X sy Y = S at *
  generalize addN sx X sy Y = N at *
  have FR := Lib.hid (fun w' v u a b => fraction_num (w := w') (va := v) (vb := u) (a := N) (b := g) (S && decide (N ≠ 0)) a b (by omega) (by omega) hg0'.out)
  have lD1 := len_mono (Nat.div_le_self g (Nat.gcd N g))
  have HS : Hid (N ≠ 0 → ((S && decide (N ≠ 0)) && decide (N ≠ 0)) = S) := by show _ → _; intro h; simp [h]
  have HS0 : Hid (N = 0 → (S && decide (N ≠ 0)) = false) := by show _ → _; intro h; simp [h]
  generalize (S && decide (N ≠ 0)) = S' at *
  suffices main : ∀ RR : Ending → World → Prop, Hid (∀ e w', (if N = 0 then RetF w false 0 1 else RetF w S (N / Nat.gcd N g) (g / Nat.gcd N g * L * R)) e w' → RR e w') → Calls Try.prog 70 #[.agg #[.bool s, .slice o1 k1 c1', .slice o2 k2 c2'], .agg #[.bool t, .slice o3 k3 c3', .slice o4 k4 c4']] w RR from main _ (fun _ _ h => h)
  intro RR HR
  go_enter Try.func70, Try.ntmps70
  go_wp2_with fail
  have BA := Lib.hid bA; have BB := Lib.hid bB; have BR := Lib.hid bR; have HB1 := Lib.hid B1
  clear bA bB bR B1
  generalize ((w.alloc (.cells #[.bool s, .slice o1 k1 c1', .slice o2 k2 c2'] 55)).alloc (.cells #[.bool t, .slice o3 k3 c3', .slice o4 k4 c4'] 55)).alloc (.cells #[.bool false, .slice none 0 0, .slice none 0 0] 55) = w1 at *
  obtain ⟨c0, c1, c2, f0, f1, f2⟩ := Box3.facts BA.out
  obtain ⟨d0, d1, d2⟩ := Box3.cells BB.out
  go_wp2_with fail
  refine GD.out.mono ?_; rintro e w2 ⟨v2, rfl, hv2, hb2⟩
  have Hv2 := Lib.hid hv2; have HB2 := Lib.hid hb2; clear hv2 GD
  clear c0 c1 c2 f0 f1 f2 d0 d1 d2
  obtain ⟨c0, c1, c2, f0, f1, f2⟩ := Box3.facts (BA.out.go hb2)
  obtain ⟨d0, d1, d2⟩ := Box3.cells (BB.out.go hb2)
  clear hb2
  go_wp2_with fail
  refine (OV1.out _ _ _ (Hd.out.go HB2.out) Hv2.out).mono ?_; rintro e w3 ⟨v3, v3', rfl, hv3, -, hb3⟩
  obtain ⟨o5, k5, c5', rfl⟩ := hv3.shape
  have Hv3 := Lib.hid hv3; have HB3 := Lib.hid (bstep HB2.out hb3); have Hg3 := Lib.hid (Hv2.out.go hb3); clear hv3 OV1
  clear c0 c1 c2 f0 f1 f2 d0 d1 d2 hb3
  obtain ⟨c0, c1, c2, f0, f1, f2⟩ := Box3.facts (BA.out.go HB3.out)
  obtain ⟨d0, d1, d2⟩ := Box3.cells (BB.out.go HB3.out)
  go_wp2_with fail
  refine (OV2.out _ _ _ (Hc.out.go HB3.out) Hg3.out).mono ?_; rintro e w4 ⟨v4, v4', rfl, hv4, -, hb4⟩
  obtain ⟨o6, k6, c6', rfl⟩ := hv4.shape
  have HvR := Lib.hid hv4; have HB4 := Lib.hid (bstep HB3.out hb4); have Hg4 := Lib.hid (Hg3.out.go hb4); have HvL := Lib.hid (Hv3.out.go hb4); clear hv4 OV2 Hv3 Hg3 Hv2
  clear c0 c1 c2 f0 f1 f2 d0 d1 d2 hb4
  have BA4 := Lib.hid (BA.out.go HB4.out); have BB4 := Lib.hid (BB.out.go HB4.out); have BR4 := Lib.hid (BR.out.go HB4.out)
  have Hn4 := Lib.hid (Hn.out.go HB4.out); have Hm4 := Lib.hid (Hm.out.go HB4.out)
  clear BA BB BR Hn Hm Hd Hc
  go_wp2_with fail
  refine region_inv 16 67 [(31, Is (.pointer (some ⟨w.heap.size, 0, none⟩))), (32, Is (.bool s)), (33, Is (.pointer (some ⟨w.heap.size, 1, none⟩))), (34, Is (.slice o1 k1 c1')), (35, Is (.slice o6 k6 c6')), (36, IsNum X), (37, IsFrac sx X 1),
    (38, Is (.pointer (some ⟨w.heap.size + 1, 0, none⟩))), (39, Is (.bool t)), (40, Is (.pointer (some ⟨w.heap.size + 1, 1, none⟩))), (41, Is (.slice o3 k3 c3')), (42, Is (.slice o5 k5 c5')), (43, IsNum Y), (44, IsFrac sy Y 1),
    (45, IsFrac S' N 1), (10, IsBox w4.heap.size (.bool false) (.slice none 0 0) (.slice none 0 0))] (by kernel_rfl) rfl (by kernel_rfl) ?_ ?_
  · refine steps_cons rfl (fun a W hb hr hg K hK => ?_) <| steps_cons rfl (fun a W hb hr hg K hK => ?_) <| steps_cons rfl (fun a W hb hr hg K hK => ?_) <| steps_cons rfl (fun a W hb hr hg K hK => ?_) <|
      steps_cons rfl (fun a W hb hr hg K hK => ?_) <| steps_cons rfl (fun a W hb hr hg K hK => ?_) <| steps_cons rfl (fun a W hb hr hg K hK => ?_) <| steps_cons rfl (fun a W hb hr hg K hK => ?_) <|
      steps_cons rfl (fun a W hb hr hg K hK => ?_) <| steps_cons rfl (fun a W hb hr hg K hK => ?_) <| steps_cons rfl (fun a W hb hr hg K hK => ?_) <| steps_cons rfl (fun a W hb hr hg K hK => ?_) <|
      steps_cons rfl (fun a W hb hr hg K hK => ?_) <| steps_cons rfl (fun a W hb hr hg K hK => ?_) <| steps_cons rfl (fun a W hb hr hg K hK => ?_) <| steps_cons rfl (fun a W hb hr hg K hK => ?_) trivial
    · have e : a.tmps[2]?.getD undef = .pointer (some ⟨w.heap.size, 0, none⟩) := hb 2 (by kernel_rfl)
      clear hb hr; go_simp; exact hK _ _ (Below.refl _ _) rfl
    · have e : a.tmps[31]?.getD undef = _ := hr 31 (by kernel_rfl)
      have c0 := (BA4.out.go hg).c0
      clear hb hr; go_simp; exact hK _ _ (Below.refl _ _) rfl
    · have e : a.tmps[2]?.getD undef = .pointer (some ⟨w.heap.size, 0, none⟩) := hb 2 (by kernel_rfl)
      clear hb hr; go_simp; exact hK _ _ (Below.refl _ _) rfl
    · have e : a.tmps[33]?.getD undef = _ := hr 33 (by kernel_rfl)
      have c0 := (BA4.out.go hg).c1
      clear hb hr; go_simp; exact hK _ _ (Below.refl _ _) rfl
    · have e : a.tmps[8]?.getD undef = .slice o6 k6 c6' := hb 8 (by kernel_rfl)
      clear hb hr; go_simp; exact hK _ _ (Below.refl _ _) rfl
    · have e : a.tmps[34]?.getD undef = .slice o1 k1 c1' := hr 34 (by kernel_rfl)
      have e' : a.tmps[35]?.getD undef = .slice o6 k6 c6' := hr 35 (by kernel_rfl)
      clear hb hr; go_simp
      refine (T1.out _ _ _ (Hn4.out.go hg) (HvR.out.go hg)).mono ?_; rintro e w5 ⟨v5, rfl, hv5, hb5⟩
      exact hK _ _ hb5 hv5
    · have e : a.tmps[32]?.getD undef = .bool s := hr 32 (by kernel_rfl)
      have e' : Num W (a.tmps[36]?.getD undef) X := hr 36 (by kernel_rfl)
      clear hb hr; have E' := Lib.hid e'; clear e'; go_simp
      refine (I1.out _ _ E'.out).mono ?_; rintro e w5 ⟨v5, rfl, hv5, hb5⟩
      exact hK _ _ hb5 hv5
    · have e : a.tmps[3]?.getD undef = .pointer (some ⟨w.heap.size + 1, 0, none⟩) := hb 3 (by kernel_rfl)
      clear hb hr; go_simp; exact hK _ _ (Below.refl _ _) rfl
    · have e : a.tmps[38]?.getD undef = _ := hr 38 (by kernel_rfl)
      have c0 := (BB4.out.go hg).c0
      clear hb hr; go_simp; exact hK _ _ (Below.refl _ _) rfl
    · have e : a.tmps[3]?.getD undef = .pointer (some ⟨w.heap.size + 1, 0, none⟩) := hb 3 (by kernel_rfl)
      clear hb hr; go_simp; exact hK _ _ (Below.refl _ _) rfl
    · have e : a.tmps[40]?.getD undef = _ := hr 40 (by kernel_rfl)
      have c0 := (BB4.out.go hg).c1
      clear hb hr; go_simp; exact hK _ _ (Below.refl _ _) rfl
    · have e : a.tmps[6]?.getD undef = .slice o5 k5 c5' := hb 6 (by kernel_rfl)
      clear hb hr; go_simp; exact hK _ _ (Below.refl _ _) rfl
    · have e : a.tmps[41]?.getD undef = .slice o3 k3 c3' := hr 41 (by kernel_rfl)
      have e' : a.tmps[42]?.getD undef = .slice o5 k5 c5' := hr 42 (by kernel_rfl)
      clear hb hr; go_simp
      refine (T2.out _ _ _ (Hm4.out.go hg) (HvL.out.go hg)).mono ?_; rintro e w5 ⟨v5, rfl, hv5, hb5⟩
      exact hK _ _ hb5 hv5
    · have e : a.tmps[39]?.getD undef = .bool t := hr 39 (by kernel_rfl)
      have e' : Num W (a.tmps[43]?.getD undef) Y := hr 43 (by kernel_rfl)
      clear hb hr; have E' := Lib.hid e'; clear e'; go_simp
      refine (I2.out _ _ E'.out).mono ?_; rintro e w5 ⟨v5, rfl, hv5, hb5⟩
      exact hK _ _ hb5 hv5
    · have e : Frac W (a.tmps[37]?.getD undef) sx X 1 := hr 37 (by kernel_rfl)
      have e' : Frac W (a.tmps[44]?.getD undef) sy Y 1 := hr 44 (by kernel_rfl)
      have E := Lib.hid e; have E' := Lib.hid e'; clear hb hr e e'; go_simp
      refine (PS.out _ _ _ E.out E'.out).mono ?_; rintro e w5 ⟨v5, rfl, hv5, hb5⟩
      exact hK _ _ hb5 hv5
    · clear hb hr; go_simp
      exact hK _ _ (below_alloc _ _) ⟨_, rfl, hg.size, Box3.new _ _ _ _⟩
  · rintro g' w5 hb5 ⟨-, -, -, -, -, -, -, -, -, -, -, -, -, -, h45, h10, -⟩
    simp only [List.drop_succ_cons, List.drop_zero, List.take_succ_cons, List.take_zero, putHead, Option.getD_some, Act.put, List.setIfInBounds_toArray, List.set_cons_zero, List.set_cons_succ]
    replace h45 : Frac w5 (g' 45) S' N 1 := h45
    replace h10 : ∃ p, g' 10 = .pointer (some ⟨p, 0, none⟩) ∧ w4.heap.size ≤ p ∧ Box3 w5 p (.bool false) (.slice none 0 0) (.slice none 0 0) := h10
    generalize g' 10 = v10 at *
    generalize g' 45 = v45 at *
    obtain ⟨p, rfl, hp, bS⟩ := h10
    obtain ⟨o7, k7, c7', o8, k8, c8', rfl, hN, h1⟩ := h45.box
    clear h45
    have HN := Lib.hid hN; have H1 := Lib.hid h1; have BS := Lib.hid bS; have HB5 := Lib.hid (bstep HB4.out hb5)
    have HvR5 := Lib.hid (HvR.out.go hb5); have HvL5 := Lib.hid (HvL.out.go hb5); have Hg5 := Lib.hid (Hg4.out.go hb5)
    have BR5 := Lib.hid (BR4.out.go hb5)
    have hp0 : w.heap.size + 2 < p := by have := BR4.out.lt; omega
    clear hN h1 bS hb5 BA4 BB4 BR4 HvR HvL Hg4 T1 T2 I1 I2 PS Hn4 Hm4
    generalize g' 31 = g31 at *
    generalize g' 32 = g32 at *
    generalize g' 33 = g33 at *
    generalize g' 34 = g34 at *
    generalize g' 35 = g35 at *
    generalize g' 36 = g36 at *
    generalize g' 37 = g37 at *
    generalize g' 38 = g38 at *
    generalize g' 39 = g39 at *
    generalize g' 40 = g40 at *
    generalize g' 41 = g41 at *
    generalize g' 42 = g42 at *
    generalize g' 43 = g43 at *
    generalize g' 44 = g44 at *
    obtain ⟨c0, c1, c2, f0, f1, f2⟩ := Box3.facts BS.out
    by_cases h0 : N = 0
    · have hd0 : Hid (decide (N = 0) = true) := by show _ = _; simp [h0]
      have HR0 : Hid (∀ e w', RetF w false 0 1 e w' → RR e w') := fun e w' h => HR.out e w' (by rw [if_pos h0]; exact h)
      have hS0 := HS0.out h0
      subst hS0
      have HN0 : Hid (Num w5 (.slice o7 k7 c7') 0) := by show Num _ _ _; rw [← h0]; exact HN.out
      clear HR HS HS0 FR
      go_wp2_with fail
      have BS6 := BS.out.set (.bool false) (.slice o7 k7 c7') (.slice o8 k8 c8')
      have BR6 := BR5.out.far (q := p) (x := .bool false) (y := .slice o7 k7 c7') (z := .slice o8 k8 c8') (by omega)
      have HN6 := Lib.hid (HN.out.set3 BS.out (.bool false) (.slice o7 k7 c7') (.slice o8 k8 c8'))
      have HN06 := Lib.hid (HN0.out.set3 BS.out (.bool false) (.slice o7 k7 c7') (.slice o8 k8 c8'))
      have H16 := Lib.hid (H1.out.set3 BS.out (.bool false) (.slice o7 k7 c7') (.slice o8 k8 c8'))
      have HB6 := Lib.hid (three_below (g := p) (.bool false) (.slice o7 k7 c7') (.slice o8 k8 c8') (bstep HB1.out HB5.out) (by omega))
      clear c0 c1 c2 f0 f1 f2 HN H1 BS HB5 BR5
      generalize (((w5.setCell ⟨p, 0, none⟩ (.bool false)).setCell ⟨p, 1, none⟩ (.slice o7 k7 c7')).setCell ⟨p, 2, none⟩ (.slice o8 k8 c8')) = w6 at *
      obtain ⟨c0, c1, c2, f0, f1, f2⟩ := Box3.facts BS6
      refine (isZero_num HN6.out (by omega)).mono ?_; rintro e w7 ⟨rfl, rfl⟩; rw [hd0.out]
      have BR7 := Lib.hid BR6; clear BS6 BR6
      obtain ⟨r0, r1, r2, g0, g1, g2⟩ : _ ∧ _ ∧ _ ∧ _ ∧ _ ∧ _ := ⟨BR7.out.c0, BR7.out.c1, BR7.out.c2, BR7.out.f 0, BR7.out.f 1, BR7.out.f 2⟩
      clear h0
      go_wp2_with fail
      obtain ⟨e0, e1, e2, hret⟩ := box_ret (t := false) BR7.out HN06.out H16.out HB6.out (by omega)
      refine bodyPost_ret ?_ rfl (HR0.out _ _ hret)
      simp [results, Try.f70, go_sem, e0, e1, e2]
    · have hd0 : Hid (decide (N = 0) = false) := by show _ = _; simp [h0]
      have HR0 : Hid (∀ e w', RetF w S (N / Nat.gcd N g) (g / Nat.gcd N g * L * R) e w' → RR e w') := fun e w' h => HR.out e w' (by rw [if_neg h0]; exact h)
      have HSr := Lib.hid (HS.out h0)
      clear HR HS HS0
      have H0 := Lib.hid h0; clear h0
      rw [HSr.out] at FR
      clear HSr
      generalize N / Nat.gcd N g = N1 at *
      generalize g / Nat.gcd N g = D1 at *
      go_wp2_with fail
      have BS6 := Lib.hid (BS.out.set (.bool S') (.slice o7 k7 c7') (.slice o8 k8 c8'))
      have BR6 := Lib.hid (BR5.out.far (q := p) (x := .bool S') (y := .slice o7 k7 c7') (z := .slice o8 k8 c8') (by omega))
      have HN6 := Lib.hid (HN.out.set3 BS.out (.bool S') (.slice o7 k7 c7') (.slice o8 k8 c8'))
      have HvR6 := Lib.hid (HvR5.out.set3 BS.out (.bool S') (.slice o7 k7 c7') (.slice o8 k8 c8'))
      have HvL6 := Lib.hid (HvL5.out.set3 BS.out (.bool S') (.slice o7 k7 c7') (.slice o8 k8 c8'))
      have Hg6 := Lib.hid (Hg5.out.set3 BS.out (.bool S') (.slice o7 k7 c7') (.slice o8 k8 c8'))
      have HB6 := Lib.hid (three_below (g := p) (.bool S') (.slice o7 k7 c7') (.slice o8 k8 c8') (bstep HB1.out HB5.out) (by omega))
      clear c0 c1 c2 f0 f1 f2 HN H1 BS HB5 BR5 HvR5 HvL5 Hg5
      generalize (((w5.setCell ⟨p, 0, none⟩ (.bool S')).setCell ⟨p, 1, none⟩ (.slice o7 k7 c7')).setCell ⟨p, 2, none⟩ (.slice o8 k8 c8')) = w6 at *
      refine (isZero_num HN6.out (by omega)).mono ?_; rintro e w7 ⟨rfl, rfl⟩; rw [hd0.out]
      obtain ⟨c0, c1, c2, f0, f1, f2⟩ := Box3.facts BS6.out
      go_wp2_with fail
      refine (FR.out _ _ _ HN6.out Hg6.out).mono ?_; rintro e w7 ⟨v7, rfl, hv7, hb7⟩
      obtain ⟨o9, k9, c9', o10, k10, c10', rfl, hN1, hD1⟩ := hv7.box
      have bXb := below_alloc w7 (.cells #[.bool S, .slice o9 k9 c9', .slice o10 k10 c10'] 55)
      have step7 := Lib.hid (bstep hb7 bXb)
      have BX := Lib.hid (Box3.new w7 (.bool S) (.slice o9 k9 c9') (.slice o10 k10 c10'))
      have HN1 := Lib.hid (hN1.go bXb); have HD1 := Lib.hid (hD1.go bXb)
      clear hv7 hN1 hD1 bXb hb7 FR c0 c1 c2 f0 f1 f2
      go_wp2_with fail
      generalize hW : w7.alloc (.cells #[.bool S, .slice o9 k9 c9', .slice o10 k10 c10'] 55) = w8 at *
      have lM := len_mul D1 L
      have T1 := Lib.hid (fun w' v u a b => times_num (w := w') (va := v) (vb := u) (a := D1) (b := L) a b (by omega) (by omega))
      have T2 := Lib.hid (fun w' v u a b => times_num (w := w') (va := v) (vb := u) (a := D1 * L) (b := R) a b (by omega) (by omega))
      have HvR8 := Lib.hid (HvR6.out.go step7.out); have HvL8 := Lib.hid (HvL6.out.go step7.out); have BR8 := Lib.hid (BR6.out.go step7.out); have HB8 := Lib.hid (bstep HB6.out step7.out)
      clear HvR6 HvL6 BR6 HB6 hW
      refine region_inv 11 67 [(56, Is (.pointer (some ⟨w7.heap.size, 0, none⟩))), (57, Is (.bool S)), (58, Is (.pointer (some ⟨w7.heap.size, 1, none⟩))), (59, Is (.slice o9 k9 c9')), (60, Is (.pointer (some ⟨w7.heap.size, 2, none⟩))), (61, Is (.slice o10 k10 c10')), (62, Is (.slice o5 k5 c5')), (63, IsNum (D1 * L)),
        (64, Is (.slice o6 k6 c6')), (65, IsNum (D1 * L * R)), (66, IsFrac S N1 (D1 * L * R))] (by kernel_rfl) rfl (by kernel_rfl) ?_ ?_
      · refine steps_cons rfl (fun a W hb hr hg K hK => ?_) <| steps_cons rfl (fun a W hb hr hg K hK => ?_) <| steps_cons rfl (fun a W hb hr hg K hK => ?_) <| steps_cons rfl (fun a W hb hr hg K hK => ?_) <|
          steps_cons rfl (fun a W hb hr hg K hK => ?_) <| steps_cons rfl (fun a W hb hr hg K hK => ?_) <| steps_cons rfl (fun a W hb hr hg K hK => ?_) <| steps_cons rfl (fun a W hb hr hg K hK => ?_) <|
          steps_cons rfl (fun a W hb hr hg K hK => ?_) <| steps_cons rfl (fun a W hb hr hg K hK => ?_) <| steps_cons rfl (fun a W hb hr hg K hK => ?_) trivial
        · have e : a.tmps[11]?.getD undef = .pointer (some ⟨w7.heap.size, 0, none⟩) := hb 11 (by kernel_rfl)
          clear hb hr; go_simp; exact hK _ _ (Below.refl _ _) rfl
        · have e : a.tmps[56]?.getD undef = _ := hr 56 (by kernel_rfl)
          have c0 := (BX.out.go hg).c0
          clear hb hr; go_simp; exact hK _ _ (Below.refl _ _) rfl
        · have e : a.tmps[11]?.getD undef = .pointer (some ⟨w7.heap.size, 0, none⟩) := hb 11 (by kernel_rfl)
          clear hb hr; go_simp; exact hK _ _ (Below.refl _ _) rfl
        · have e : a.tmps[58]?.getD undef = _ := hr 58 (by kernel_rfl)
          have c0 := (BX.out.go hg).c1
          clear hb hr; go_simp; exact hK _ _ (Below.refl _ _) rfl
        · have e : a.tmps[11]?.getD undef = .pointer (some ⟨w7.heap.size, 0, none⟩) := hb 11 (by kernel_rfl)
          clear hb hr; go_simp; exact hK _ _ (Below.refl _ _) rfl
        · have e : a.tmps[60]?.getD undef = _ := hr 60 (by kernel_rfl)
          have c0 := (BX.out.go hg).c2
          clear hb hr; go_simp; exact hK _ _ (Below.refl _ _) rfl
        · have e : a.tmps[6]?.getD undef = .slice o5 k5 c5' := hb 6 (by kernel_rfl)
          clear hb hr; go_simp; exact hK _ _ (Below.refl _ _) rfl
        · have e : a.tmps[61]?.getD undef = .slice o10 k10 c10' := hr 61 (by kernel_rfl)
          have e' : a.tmps[62]?.getD undef = .slice o5 k5 c5' := hr 62 (by kernel_rfl)
          clear hb hr; go_simp
          refine (T1.out _ _ _ (HD1.out.go hg) (HvL8.out.go hg)).mono ?_; rintro e w5 ⟨v5, rfl, hv5, hb5⟩
          exact hK _ _ hb5 hv5
        · have e : a.tmps[8]?.getD undef = .slice o6 k6 c6' := hb 8 (by kernel_rfl)
          clear hb hr; go_simp; exact hK _ _ (Below.refl _ _) rfl
        · have e : Num W (a.tmps[63]?.getD undef) (D1 * L) := hr 63 (by kernel_rfl)
          have e' : a.tmps[64]?.getD undef = .slice o6 k6 c6' := hr 64 (by kernel_rfl)
          have E := Lib.hid e
          clear hb hr e; go_simp
          refine (T2.out _ _ _ E.out (HvR8.out.go hg)).mono ?_; rintro e w5 ⟨v5, rfl, hv5, hb5⟩
          exact hK _ _ hb5 hv5
        · have e : a.tmps[57]?.getD undef = .bool S := hr 57 (by kernel_rfl)
          have e' : a.tmps[59]?.getD undef = .slice o9 k9 c9' := hr 59 (by kernel_rfl)
          have e2 : Num W (a.tmps[65]?.getD undef) (D1 * L * R) := hr 65 (by kernel_rfl)
          obtain ⟨o11, k11, c11', e3⟩ := e2.shape
          rw [e3] at e2
          have E := Lib.hid e2
          clear hb hr e2; go_simp
          exact hK _ _ (Below.refl _ _) ⟨_, _, rfl, HN1.out.go hg, E.out⟩
      · rintro g3 w9 hb9 ⟨-, -, -, -, -, -, -, -, -, -, h66, -⟩
        simp only [List.drop_succ_cons, List.drop_zero, List.take_succ_cons, List.take_zero, putHead, Option.getD_some, Act.put, List.setIfInBounds_toArray, List.set_cons_zero, List.set_cons_succ]
        replace h66 : Frac w9 (g3 66) S N1 (D1 * L * R) := h66
        generalize g3 66 = v66 at *
        generalize g3 56 = g56 at *
        generalize g3 57 = g57 at *
        generalize g3 58 = g58 at *
        generalize g3 59 = g59 at *
        generalize g3 60 = g60 at *
        generalize g3 61 = g61 at *
        generalize g3 62 = g62 at *
        generalize g3 63 = g63 at *
        generalize g3 64 = g64 at *
        generalize g3 65 = g65 at *
        obtain ⟨p5, q5, z5, p6, q6, z6, rfl, hx5, hx6⟩ := h66.box
        have BR9 := Lib.hid (BR8.out.go hb9)
        have Hx5 := Lib.hid hx5; have Hx6 := Lib.hid hx6; have B9 := Lib.hid (bstep HB8.out hb9)
        clear h66 hx5 hx6 hb9
        obtain ⟨r0, r1, r2, f0, f1, f2⟩ := Box3.facts BR9.out
        go_wp2_with fail
        obtain ⟨e0, e1, e2, hret⟩ := box_ret (t := S) BR9.out Hx5.out Hx6.out B9.out (by omega)
        refine bodyPost_ret ?_ rfl (HR0.out _ _ hret)
        simp [results, Try.f70, go_sem, e0, e1, e2]
end Go.Proofs.Ytlkdahgfnfdakaa

namespace Go.Proofs.Ytlkdahgfnfdakaa
open Go.RowKit WN LM

/-- the sum of two numbers: its sign, its terms -/
def sumS (s : Bool) (n d : Nat) (t : Bool) (m c : Nat) : Bool := plusS s n d t m c && decide (plusN s n d t m c ≠ 0)
def sumN (s : Bool) (n d : Nat) (t : Bool) (m c : Nat) : Nat := plusN s n d t m c / Nat.gcd (plusN s n d t m c) (Nat.gcd d c)
def sumD (s : Bool) (n d : Nat) (t : Bool) (m c : Nat) : Nat :=
  if plusN s n d t m c = 0 then 1 else Nat.gcd d c / Nat.gcd (plusN s n d t m c) (Nat.gcd d c) * (d / Nat.gcd d c) * (c / Nat.gcd d c)

theorem fracSum_num {w : World} {v u : Value} {s t : Bool} {n d m c : Nat} (h : Frac w v s n d) (k : Frac w u t m c) (ln : Len n ≤ 100000000) (ld : Len d ≤ 100000000) (lm : Len m ≤ 100000000) (lc : Len c ≤ 100000000) (d0 : 0 < d) :
    Calls Try.prog 70 #[v, u] w (RetF w (sumS s n d t m c) (sumN s n d t m c) (sumD s n d t m c)) := by
  have key := fracPlus_num h k ln ld lm lc d0
  unfold sumS sumN sumD
  by_cases h0 : plusN s n d t m c = 0
  · rw [if_pos h0] at key
    simpa [h0] using key
  · rw [if_neg h0] at key
    simpa [h0] using key

set_option maxHeartbeats 4000000 in
set_option maxRecDepth 100000 in
theorem fracMinus_num {w : World} {v u : Value} {s t : Bool} {n d m c : Nat} (h : Frac w v s n d) (k : Frac w u t m c) (ln : Len n ≤ 100000000) (ld : Len d ≤ 100000000) (lm : Len m ≤ 100000000) (lc : Len c ≤ 100000000) (d0 : 0 < d) :
    Calls Try.prog 72 #[v, u] w (RetF w (sumS s n d (!t && decide (m ≠ 0)) m c) (sumN s n d (!t && decide (m ≠ 0)) m c) (sumD s n d (!t && decide (m ≠ 0)) m c)) := by
  obtain ⟨o1, k1, c1', o2, k2, c2', rfl, hn, hd⟩ := h.box
  obtain ⟨o3, k3, c3', o4, k4, c4', rfl, hm, hc⟩ := k.box
  clear h k
  obtain ⟨B1, bA, bB, bR⟩ := boxes3 w (.bool s) (.slice o1 k1 c1') (.slice o2 k2 c2') (.bool t) (.slice o3 k3 c3') (.slice o4 k4 c4') (.bool false) (.slice none 0 0) (.slice none 0 0)
  have Hn := Lib.hid (hn.go B1); have Hm := Lib.hid (hm.go B1)
  have Hd := Lib.hid (hd.go B1); have Hc := Lib.hid (hc.go B1)
  clear hn hd hm hc
  have NG := Lib.hid (fun w' v h => negated_num (w := w') (v := v) (s := t) (n := m) (d := c) h (by omega))
  have PL := Lib.hid (fun w' v u a b => fracSum_num (w := w') (v := v) (u := u) (s := s) (t := (!t && decide (m ≠ 0))) (n := n) (d := d) (m := m) (c := c) a b ln ld lm lc d0)
  clear d0
  suffices main : ∀ RR : Ending → World → Prop, Hid (∀ e w', RetF w (sumS s n d (!t && decide (m ≠ 0)) m c) (sumN s n d (!t && decide (m ≠ 0)) m c) (sumD s n d (!t && decide (m ≠ 0)) m c) e w' → RR e w') → Calls Try.prog 72 #[.agg #[.bool s, .slice o1 k1 c1', .slice o2 k2 c2'], .agg #[.bool t, .slice o3 k3 c3', .slice o4 k4 c4']] w RR from main _ (fun _ _ h => h)
  intro RR HR
  generalize (!t && decide (m ≠ 0)) = t' at *
  generalize sumS s n d t' m c = S at *
  generalize sumN s n d t' m c = N at *
  generalize sumD s n d t' m c = D at *
  go_enter Try.func72, Try.ntmps72
  go_wp2_with fail
  have BA := Lib.hid bA; have BB := Lib.hid bB; have BR := Lib.hid bR; have HB1 := Lib.hid B1
  clear bA bB bR B1
  generalize ((w.alloc (.cells #[.bool s, .slice o1 k1 c1', .slice o2 k2 c2'] 55)).alloc (.cells #[.bool t, .slice o3 k3 c3', .slice o4 k4 c4'] 55)).alloc (.cells #[.bool false, .slice none 0 0, .slice none 0 0] 55) = w1 at *
  refine region_inv 4 9 [(5, Is (.agg #[.bool s, .slice o1 k1 c1', .slice o2 k2 c2'])), (6, Is (.agg #[.bool t, .slice o3 k3 c3', .slice o4 k4 c4'])), (7, IsFrac t' m c), (8, IsFrac S N D)] (by kernel_rfl) rfl (by kernel_rfl) ?_ ?_
  · refine steps_cons rfl (fun a W hb hr hg K hK => ?_) <| steps_cons rfl (fun a W hb hr hg K hK => ?_) <| steps_cons rfl (fun a W hb hr hg K hK => ?_) <| steps_cons rfl (fun a W hb hr hg K hK => ?_) trivial
    · have e : a.tmps[2]?.getD undef = .pointer (some ⟨w.heap.size, 0, none⟩) := hb 2 (by kernel_rfl)
      clear hb hr
      obtain ⟨c0, c1, c2, f0, f1, f2⟩ := Box3.facts (BA.out.go hg)
      go_simp
      exact hK _ _ (Below.refl _ _) rfl
    · have e : a.tmps[3]?.getD undef = .pointer (some ⟨w.heap.size + 1, 0, none⟩) := hb 3 (by kernel_rfl)
      clear hb hr
      obtain ⟨c0, c1, c2, f0, f1, f2⟩ := Box3.facts (BB.out.go hg)
      go_simp
      exact hK _ _ (Below.refl _ _) rfl
    · have e : a.tmps[6]?.getD undef = _ := hr 6 (by kernel_rfl)
      clear hb hr
      go_simp
      refine (NG.out _ _ ⟨_, _, rfl, Hm.out.go hg, Hc.out.go hg⟩).mono ?_; rintro e w2 ⟨v2, rfl, hv2, hb2⟩
      exact hK _ _ hb2 hv2
    · have e : a.tmps[5]?.getD undef = _ := hr 5 (by kernel_rfl)
      have e7 : Frac W (a.tmps[7]?.getD undef) t' m c := hr 7 (by kernel_rfl)
      clear hb hr
      have E7 := Lib.hid e7; clear e7
      go_simp
      refine (PL.out _ _ _ ⟨_, _, rfl, Hn.out.go hg, Hd.out.go hg⟩ E7.out).mono ?_; rintro e w2 ⟨v2, rfl, hv2, hb2⟩
      exact hK _ _ hb2 hv2
  · rintro g w2 hb2 ⟨-, -, -, h8, -⟩
    simp only [List.drop_succ_cons, List.drop_zero, List.take_succ_cons, List.take_zero, putHead, Option.getD_some, Act.put, List.setIfInBounds_toArray, List.set_cons_zero, List.set_cons_succ]
    replace h8 : Frac w2 (g 8) S N D := h8
    generalize g 8 = v8 at *
    generalize g 5 = g5 at *
    generalize g 6 = g6 at *
    generalize g 7 = g7 at *
    obtain ⟨p5, q5, z5, p6, q6, z6, rfl, hx5, hx6⟩ := h8.box
    have BR2 := Lib.hid (BR.out.go hb2); have Hx5 := Lib.hid hx5; have Hx6 := Lib.hid hx6; have B2 := Lib.hid (bstep HB1.out hb2)
    clear hx5 hx6 h8 hb2
    obtain ⟨r0, r1, r2, f0, f1, f2⟩ := Box3.facts BR2.out
    go_wp2_with fail
    obtain ⟨e0, e1, e2, hret⟩ := box_ret (t := S) BR2.out Hx5.out Hx6.out B2.out (by omega)
    refine bodyPost_ret ?_ rfl (HR.out _ _ hret)
    simp [results, Try.f72, go_sem, e0, e1, e2]
end Go.Proofs.Ytlkdahgfnfdakaa

namespace Go.Proofs.Ytlkdahgfnfdakaa
open Go.RowKit WN LM

/-- a power, or a number that has too many digits where the power has, too -/
def PowNum (n k N : Nat) : Prop := (N = n ^ k ∨ (300 < Dig N ∧ 300 < Dig (n ^ k))) ∧ Len N ≤ 34 + Len n
/-- a power of a number, or one whose terms have too many digits where the power's have, too -/
def RetP (w : World) (s : Bool) (n d k : Nat) (e : Ending) (w' : World) : Prop :=
  ∃ v N D, e = .returned v ∧ Frac w' v (s && decide (k % 2 = 1)) N D ∧ Below w.heap.size w w' ∧ PowNum n k N ∧ PowNum d k D
def IsPow (n k : Nat) : Rel := ⟨fun v w => ∃ N, Num w v N ∧ PowNum n k N, fun _ _ _ hb ⟨N, h1, h2⟩ => ⟨N, h1.go hb, h2⟩⟩
def IsFracPow (s : Bool) (n d k : Nat) : Rel := ⟨fun v w => ∃ N D, Frac w v s N D ∧ PowNum n k N ∧ PowNum d k D, fun _ _ _ hb ⟨N, D, h1, h2⟩ => ⟨N, D, h1.below hb (Nat.le_refl _), h2⟩⟩
theorem power_pow {w : World} {va : Value} {a : Nat} (ha : Num w va a) (la : Len a ≤ 1000000000) (n : Nat) (hn : n ≤ 1000000000) :
    Calls Try.prog 120 #[va, .int .i64 (n : Nat)] w fun e w' => ∃ v, e = .returned v ∧ (∃ N, Num w' v N ∧ PowNum a n N) ∧ Below w.heap.size w w' :=
  (power_num ha la n hn).mono fun _ _ ⟨v, m, h1, h2, h3, h4, h5⟩ => ⟨v, h1, ⟨m, h2, h4, h5⟩, h3⟩
def wantInt (b : Bool) (k : Nat) : Value := if b then .int .i64 (k : Nat) else undef
def wantBool (b : Bool) (c : Bool) : Value := if b then .bool c else undef

set_option maxHeartbeats 4000000 in
set_option maxRecDepth 100000 in
theorem fracPowerUp_num {w : World} {v : Value} {s : Bool} {n d : Nat} (h : Frac w v s n d) (ln : Len n ≤ 1000000000) (ld : Len d ≤ 1000000000) (k : Nat) (hk : k ≤ 1000000) :
    Calls Try.prog 84 #[v, .int .i64 (k : Nat)] w (RetP w s n d k) := by
  obtain ⟨o1, k1, c1', o2, k2, c2', rfl, hn, hd⟩ := h.box
  clear h
  obtain ⟨B1, bA, bR⟩ := boxes2 w (.bool s) (.slice o1 k1 c1') (.slice o2 k2 c2') (.bool false) (.slice none 0 0) (.slice none 0 0)
  have Hn := Lib.hid (hn.go B1); have Hd := Lib.hid (hd.go B1)
  clear hn hd
  have BR := Lib.hid bR; have HB1 := Lib.hid B1; have BA := Lib.hid bA
  clear bA bR B1
  have P1 := Lib.hid (fun w' a => power_pow (w := w') (va := .slice o1 k1 c1') (a := n) a ln k (by omega))
  have P2 := Lib.hid (fun w' a => power_pow (w := w') (va := .slice o2 k2 c2') (a := d) a ld k (by omega))
  go_enter Try.func84, Try.ntmps84
  go_wp2_with fail
  generalize (w.alloc (.cells #[.bool s, .slice o1 k1 c1', .slice o2 k2 c2'] 55)).alloc (.cells #[.bool false, .slice none 0 0, .slice none 0 0] 55) = w1 at *

  have HT := Lib.hid (show ((k : Int).tmod 2) = ((k % 2 : Nat) : Int) from by rw [Int.tmod_eq_emod_of_nonneg (by omega)]; omega)
  have hdk : Hid (∀ x : Nat, x = k % 2 → (((x : Nat) : Int) == 1) = decide (k % 2 = 1)) := by show ∀ _, _ → _; rintro x rfl; rcases Nat.mod_two_eq_zero_or_one k with h | h <;> simp [h]
  refine region_inv 16 27 [(11, Is (.pointer (some ⟨w.heap.size, 0, none⟩))), (12, Is (.bool s)), (13, Is (.bool s)), (14, Is (wantInt s k)), (15, Is (wantInt s (k % 2))), (16, Is (wantBool s (decide (k % 2 = 1)))), (17, Is (.bool (s && decide (k % 2 = 1)))),
    (18, Is (.pointer (some ⟨w.heap.size, 1, none⟩))), (19, Is (.slice o1 k1 c1')), (20, Is (.int .i64 k)), (21, IsPow n k), (22, Is (.pointer (some ⟨w.heap.size, 2, none⟩))), (23, Is (.slice o2 k2 c2')), (24, Is (.int .i64 k)), (25, IsPow d k),
    (26, IsFracPow (s && decide (k % 2 = 1)) n d k)] (by kernel_rfl) rfl (by kernel_rfl) ?_ ?_
  · refine steps_cons rfl (fun a W hb hr hg K hK => ?_) <| steps_cons rfl (fun a W hb hr hg K hK => ?_) <| steps_cons rfl (fun a W hb hr hg K hK => ?_) <| steps_guard (fun a W hb hr hg K hK => ?_) <|
      steps_guard (fun a W hb hr hg K hK => ?_) <| steps_guard (fun a W hb hr hg K hK => ?_) <| steps_cons rfl (fun a W hb hr hg K hK => ?_) <| steps_cons rfl (fun a W hb hr hg K hK => ?_) <|
      steps_cons rfl (fun a W hb hr hg K hK => ?_) <| steps_cons rfl (fun a W hb hr hg K hK => ?_) <| steps_cons rfl (fun a W hb hr hg K hK => ?_) <| steps_cons rfl (fun a W hb hr hg K hK => ?_) <|
      steps_cons rfl (fun a W hb hr hg K hK => ?_) <| steps_cons rfl (fun a W hb hr hg K hK => ?_) <| steps_cons rfl (fun a W hb hr hg K hK => ?_) <| steps_cons rfl (fun a W hb hr hg K hK => ?_) trivial
    · have e : a.tmps[2]?.getD undef = .pointer (some ⟨w.heap.size, 0, none⟩) := hb 2 (by kernel_rfl)
      clear hb hr; go_simp; exact hK _ _ (Below.refl _ _) rfl
    · have e : a.tmps[11]?.getD undef = _ := hr 11 (by kernel_rfl)
      have c0 := (BA.out.go hg).c0
      clear hb hr; go_simp; exact hK _ _ (Below.refl _ _) rfl
    · have e : a.tmps[12]?.getD undef = _ := hr 12 (by kernel_rfl)
      clear hb hr; go_simp; exact hK _ _ (Below.refl _ _) rfl
    · have e : a.tmps[13]?.getD undef = .bool s := hr 13 (by kernel_rfl)
      have e1 : a.tmps[1]?.getD undef = .int .i64 k := hb 1 (by kernel_rfl)
      rw [wanted_slot rfl (by kernel_rfl) e]
      clear hb hr e
      cases s
      · rw [if_neg (by simp)]; exact hK _ _ (Below.refl _ _) rfl
      · rw [if_pos (show (true == true) = true from rfl)]; go_simp; exact hK _ _ (Below.refl _ _) rfl
    · have e : a.tmps[13]?.getD undef = .bool s := hr 13 (by kernel_rfl)
      have e1 : a.tmps[14]?.getD undef = wantInt s k := hr 14 (by kernel_rfl)
      rw [wanted_slot rfl (by kernel_rfl) e]
      clear hb hr e
      cases s
      · rw [if_neg (by simp)]; exact hK _ _ (Below.refl _ _) rfl
      · rw [if_pos (show (true == true) = true from rfl)]; replace e1 : a.tmps[14]?.getD undef = .int .i64 k := e1
        go_simp; rw [HT.out]; exact hK _ _ (Below.refl _ _) rfl
    · have e : a.tmps[13]?.getD undef = .bool s := hr 13 (by kernel_rfl)
      have e1 : a.tmps[15]?.getD undef = wantInt s (k % 2) := hr 15 (by kernel_rfl)
      rw [wanted_slot rfl (by kernel_rfl) e]
      clear hb hr e
      cases s
      · rw [if_neg (by simp)]; exact hK _ _ (Below.refl _ _) rfl
      · rw [if_pos (show (true == true) = true from rfl)]; replace e1 : a.tmps[15]?.getD undef = .int .i64 (k % 2 : Nat) := e1
        generalize hx : k % 2 = x at e1
        have hz := hdk.out x hx.symm
        clear hx
        go_simp; exact hK _ _ (Below.refl _ _) rfl
    · have e : a.tmps[13]?.getD undef = .bool s := hr 13 (by kernel_rfl)
      have e1 : a.tmps[16]?.getD undef = wantBool s (decide (k % 2 = 1)) := hr 16 (by kernel_rfl)
      clear hb hr
      cases s
      · go_simp; exact hK _ _ (Below.refl _ _) rfl
      · replace e1 : a.tmps[16]?.getD undef = .bool (decide (k % 2 = 1)) := e1
        generalize decide (k % 2 = 1) = od at *
        go_simp; exact hK _ _ (Below.refl _ _) rfl
    · have e : a.tmps[2]?.getD undef = .pointer (some ⟨w.heap.size, 0, none⟩) := hb 2 (by kernel_rfl)
      clear hb hr; go_simp; exact hK _ _ (Below.refl _ _) rfl
    · have e : a.tmps[18]?.getD undef = _ := hr 18 (by kernel_rfl)
      have c0 := (BA.out.go hg).c1
      clear hb hr; go_simp; exact hK _ _ (Below.refl _ _) rfl
    · have e : a.tmps[1]?.getD undef = .int .i64 k := hb 1 (by kernel_rfl)
      clear hb hr; go_simp; exact hK _ _ (Below.refl _ _) rfl
    · have e : a.tmps[19]?.getD undef = .slice o1 k1 c1' := hr 19 (by kernel_rfl)
      have e' : a.tmps[20]?.getD undef = .int .i64 k := hr 20 (by kernel_rfl)
      clear hb hr; go_simp
      refine (P1.out _ (Hn.out.go hg)).mono ?_; rintro e w5 ⟨v5, rfl, hv5, hb5⟩
      exact hK _ _ hb5 hv5
    · have e : a.tmps[2]?.getD undef = .pointer (some ⟨w.heap.size, 0, none⟩) := hb 2 (by kernel_rfl)
      clear hb hr; go_simp; exact hK _ _ (Below.refl _ _) rfl
    · have e : a.tmps[22]?.getD undef = _ := hr 22 (by kernel_rfl)
      have c0 := (BA.out.go hg).c2
      clear hb hr; go_simp; exact hK _ _ (Below.refl _ _) rfl
    · have e : a.tmps[1]?.getD undef = .int .i64 k := hb 1 (by kernel_rfl)
      clear hb hr; go_simp; exact hK _ _ (Below.refl _ _) rfl
    · have e : a.tmps[23]?.getD undef = .slice o2 k2 c2' := hr 23 (by kernel_rfl)
      have e' : a.tmps[24]?.getD undef = .int .i64 k := hr 24 (by kernel_rfl)
      clear hb hr; go_simp
      refine (P2.out _ (Hd.out.go hg)).mono ?_; rintro e w5 ⟨v5, rfl, hv5, hb5⟩
      exact hK _ _ hb5 hv5
    · have e : a.tmps[17]?.getD undef = .bool (s && decide (k % 2 = 1)) := hr 17 (by kernel_rfl)
      have e1 : ∃ N, Num W (a.tmps[21]?.getD undef) N ∧ PowNum n k N := hr 21 (by kernel_rfl)
      have e2 : ∃ N, Num W (a.tmps[25]?.getD undef) N ∧ PowNum d k N := hr 25 (by kernel_rfl)
      obtain ⟨N, e1, pN⟩ := e1
      obtain ⟨D, e2, pD⟩ := e2
      obtain ⟨o11, k11, c11', e3⟩ := e1.shape
      obtain ⟨o12, k12, c12', e4⟩ := e2.shape
      rw [e3] at e1; rw [e4] at e2
      have E1 := Lib.hid e1; have E2 := Lib.hid e2; have PN := Lib.hid pN; have PD := Lib.hid pD
      generalize (s && decide (k % 2 = 1)) = od at *
      clear hb hr e1 e2 pN pD; go_simp
      exact hK _ _ (Below.refl _ _) ⟨N, D, ⟨_, _, rfl, E1.out, E2.out⟩, PN.out, PD.out⟩
  · rintro g3 w9 hb9 ⟨-, -, -, -, -, -, -, -, -, -, -, -, -, -, -, h26, -⟩
    simp only [List.drop_succ_cons, List.drop_zero, List.take_succ_cons, List.take_zero, putHead, Option.getD_some, Act.put, List.setIfInBounds_toArray, List.set_cons_zero, List.set_cons_succ]
    replace h26 : ∃ N D, Frac w9 (g3 26) (s && decide (k % 2 = 1)) N D ∧ PowNum n k N ∧ PowNum d k D := h26
    obtain ⟨N, D, h26, pN, pD⟩ := h26
    have PN := Lib.hid pN; have PD := Lib.hid pD
    clear pN pD hdk HT P1 P2
    generalize g3 26 = v26 at *
    obtain ⟨p5, q5, z5, p6, q6, z6, rfl, hx5, hx6⟩ := h26.box
    have BR9 := Lib.hid (BR.out.go hb9)
    have Hx5 := Lib.hid hx5; have Hx6 := Lib.hid hx6; have B9 := Lib.hid (bstep HB1.out hb9)
    clear h26 hx5 hx6 hb9 BA Hn Hd BR HB1
    obtain ⟨r0, r1, r2, f0, f1, f2⟩ := Box3.facts BR9.out
    have HR : Hid (∀ v w', RetF w (s && decide (k % 2 = 1)) N D v w' → RetP w s n d k v w') := fun v w' ⟨v', h1, h2, h3⟩ => ⟨v', N, D, h1, h2, h3, PN.out, PD.out⟩
    generalize (s && decide (k % 2 = 1)) = od at *
    go_wp2_with fail
    obtain ⟨e0, e1, e2, hret⟩ := box_ret (t := od) BR9.out Hx5.out Hx6.out B9.out (by omega)
    refine bodyPost_ret ?_ rfl (HR.out _ _ hret)
    simp [results, Try.f84, go_sem, e0, e1, e2]

set_option maxHeartbeats 4000000 in
set_option maxRecDepth 100000 in
theorem fracPowerDown_num {w : World} {v : Value} {s : Bool} {n d : Nat} (h : Frac w v s n d) (ln : Len n ≤ 1000000000) (ld : Len d ≤ 1000000000) (k : Nat) (hk : k ≤ 1000000) (hk0 : 0 < k) :
    Calls Try.prog 84 #[v, .int .i64 (-(k : Int))] w (RetP w s d n k) := by
  obtain ⟨o1, k1, c1', o2, k2, c2', rfl, hn, hd⟩ := h.box
  clear h
  obtain ⟨B1, bA, bR⟩ := boxes2 w (.bool s) (.slice o1 k1 c1') (.slice o2 k2 c2') (.bool false) (.slice none 0 0) (.slice none 0 0)
  have Hn := Lib.hid (hn.go B1); have Hd := Lib.hid (hd.go B1)
  clear hn hd
  have BR := Lib.hid bR; have HB1 := Lib.hid B1; have BA := Lib.hid bA
  clear bA bR B1
  have P1 := Lib.hid (fun w' vv a => power_pow (w := w') (va := vv) (a := d) a ld k (by omega))
  have P2 := Lib.hid (fun w' vv a => power_pow (w := w') (va := vv) (a := n) a ln k (by omega))
  have hneg : decide (-(k : Int) < 0) = true := by simp; omega
  have hng : - -(k : Int) = k := by omega
  have hwr : IntKind.i64.wrap (k : Int) = k := IntWalk.i64_in _ ⟨by omega, by omega⟩
  go_enter Try.func84, Try.ntmps84
  obtain ⟨c0, c1, c2, f0, f1, f2⟩ := Box3.facts BA.out
  go_wp2_with fail
  have INV := inverse_num (w := (w.alloc (.cells #[.bool s, .slice o1 k1 c1', .slice o2 k2 c2'] 55)).alloc (.cells #[.bool false, .slice none 0 0, .slice none 0 0] 55)) (v := .agg #[.bool s, .slice o1 k1 c1', .slice o2 k2 c2']) (s := s) (n := n) (d := d) ⟨_, _, rfl, Hn.out, Hd.out⟩
  generalize (w.alloc (.cells #[.bool s, .slice o1 k1 c1', .slice o2 k2 c2'] 55)).alloc (.cells #[.bool false, .slice none 0 0, .slice none 0 0] 55) = w1 at *
  refine INV.mono ?_; rintro e w2 ⟨v2, rfl, hv2, hb2⟩
  obtain ⟨o3, k3, c3', o4, k4, c4', rfl, hx3, hx4⟩ := hv2.box
  have BA2 := Lib.hid (BA.out.go hb2); have BR2 := Lib.hid (BR.out.go hb2); have HB2 := Lib.hid (bstep HB1.out hb2)
  have BX3 := Lib.hid (BA2.out.set (.bool s) (.slice o3 k3 c3') (.slice o4 k4 c4'))
  have BR3 := Lib.hid (BR2.out.far (q := w.heap.size) (x := .bool s) (y := .slice o3 k3 c3') (z := .slice o4 k4 c4') (by omega))
  have HN3 := Lib.hid (hx3.set3 BA2.out (.bool s) (.slice o3 k3 c3') (.slice o4 k4 c4'))
  have HD3 := Lib.hid (hx4.set3 BA2.out (.bool s) (.slice o3 k3 c3') (.slice o4 k4 c4'))
  have HB3 := Lib.hid (three_below (g := w.heap.size) (.bool s) (.slice o3 k3 c3') (.slice o4 k4 c4') HB2.out (Nat.le_refl _))
  clear c0 c1 c2 f0 f1 f2 INV hv2 hx3 hx4
  obtain ⟨c0, c1, c2, f0, f1, f2⟩ := Box3.facts BA2.out
  clear hb2
  go_wp2_with fail
  clear c0 c1 c2 f0 f1 f2
  generalize (((w2.setCell ⟨w.heap.size, 0, none⟩ (.bool s)).setCell ⟨w.heap.size, 1, none⟩ (.slice o3 k3 c3')).setCell ⟨w.heap.size, 2, none⟩ (.slice o4 k4 c4')) = w3 at *

  have HT := Lib.hid (show ((k : Int).tmod 2) = ((k % 2 : Nat) : Int) from by rw [Int.tmod_eq_emod_of_nonneg (by omega)]; omega)
  have hdk : Hid (∀ x : Nat, x = k % 2 → (((x : Nat) : Int) == 1) = decide (k % 2 = 1)) := by show ∀ _, _ → _; rintro x rfl; rcases Nat.mod_two_eq_zero_or_one k with h | h <;> simp [h]
  refine region_inv 16 27 [(11, Is (.pointer (some ⟨w.heap.size, 0, none⟩))), (12, Is (.bool s)), (13, Is (.bool s)), (14, Is (wantInt s k)), (15, Is (wantInt s (k % 2))), (16, Is (wantBool s (decide (k % 2 = 1)))), (17, Is (.bool (s && decide (k % 2 = 1)))),
    (18, Is (.pointer (some ⟨w.heap.size, 1, none⟩))), (19, Is (.slice o3 k3 c3')), (20, Is (.int .i64 k)), (21, IsPow d k), (22, Is (.pointer (some ⟨w.heap.size, 2, none⟩))), (23, Is (.slice o4 k4 c4')), (24, Is (.int .i64 k)), (25, IsPow n k),
    (26, IsFracPow (s && decide (k % 2 = 1)) d n k)] (by kernel_rfl) rfl (by kernel_rfl) ?_ ?_
  · refine steps_cons rfl (fun a W hb hr hg K hK => ?_) <| steps_cons rfl (fun a W hb hr hg K hK => ?_) <| steps_cons rfl (fun a W hb hr hg K hK => ?_) <| steps_guard (fun a W hb hr hg K hK => ?_) <|
      steps_guard (fun a W hb hr hg K hK => ?_) <| steps_guard (fun a W hb hr hg K hK => ?_) <| steps_cons rfl (fun a W hb hr hg K hK => ?_) <| steps_cons rfl (fun a W hb hr hg K hK => ?_) <|
      steps_cons rfl (fun a W hb hr hg K hK => ?_) <| steps_cons rfl (fun a W hb hr hg K hK => ?_) <| steps_cons rfl (fun a W hb hr hg K hK => ?_) <| steps_cons rfl (fun a W hb hr hg K hK => ?_) <|
      steps_cons rfl (fun a W hb hr hg K hK => ?_) <| steps_cons rfl (fun a W hb hr hg K hK => ?_) <| steps_cons rfl (fun a W hb hr hg K hK => ?_) <| steps_cons rfl (fun a W hb hr hg K hK => ?_) trivial
    · have e : a.tmps[2]?.getD undef = .pointer (some ⟨w.heap.size, 0, none⟩) := hb 2 (by kernel_rfl)
      clear hb hr; go_simp; exact hK _ _ (Below.refl _ _) rfl
    · have e : a.tmps[11]?.getD undef = _ := hr 11 (by kernel_rfl)
      have c0 := (BX3.out.go hg).c0
      clear hb hr; go_simp; exact hK _ _ (Below.refl _ _) rfl
    · have e : a.tmps[12]?.getD undef = _ := hr 12 (by kernel_rfl)
      clear hb hr; go_simp; exact hK _ _ (Below.refl _ _) rfl
    · have e : a.tmps[13]?.getD undef = .bool s := hr 13 (by kernel_rfl)
      have e1 : a.tmps[1]?.getD undef = .int .i64 k := hb 1 (by kernel_rfl)
      rw [wanted_slot rfl (by kernel_rfl) e]
      clear hb hr e
      cases s
      · rw [if_neg (by simp)]; exact hK _ _ (Below.refl _ _) rfl
      · rw [if_pos (show (true == true) = true from rfl)]; go_simp; exact hK _ _ (Below.refl _ _) rfl
    · have e : a.tmps[13]?.getD undef = .bool s := hr 13 (by kernel_rfl)
      have e1 : a.tmps[14]?.getD undef = wantInt s k := hr 14 (by kernel_rfl)
      rw [wanted_slot rfl (by kernel_rfl) e]
      clear hb hr e
      cases s
      · rw [if_neg (by simp)]; exact hK _ _ (Below.refl _ _) rfl
      · rw [if_pos (show (true == true) = true from rfl)]; replace e1 : a.tmps[14]?.getD undef = .int .i64 k := e1
        go_simp; rw [HT.out]; exact hK _ _ (Below.refl _ _) rfl
    · have e : a.tmps[13]?.getD undef = .bool s := hr 13 (by kernel_rfl)
      have e1 : a.tmps[15]?.getD undef = wantInt s (k % 2) := hr 15 (by kernel_rfl)
      rw [wanted_slot rfl (by kernel_rfl) e]
      clear hb hr e
      cases s
      · rw [if_neg (by simp)]; exact hK _ _ (Below.refl _ _) rfl
      · rw [if_pos (show (true == true) = true from rfl)]; replace e1 : a.tmps[15]?.getD undef = .int .i64 (k % 2 : Nat) := e1
        generalize hx : k % 2 = x at e1
        have hz := hdk.out x hx.symm
        clear hx
        go_simp; exact hK _ _ (Below.refl _ _) rfl
    · have e : a.tmps[13]?.getD undef = .bool s := hr 13 (by kernel_rfl)
      have e1 : a.tmps[16]?.getD undef = wantBool s (decide (k % 2 = 1)) := hr 16 (by kernel_rfl)
      clear hb hr
      cases s
      · go_simp; exact hK _ _ (Below.refl _ _) rfl
      · replace e1 : a.tmps[16]?.getD undef = .bool (decide (k % 2 = 1)) := e1
        generalize decide (k % 2 = 1) = od at *
        go_simp; exact hK _ _ (Below.refl _ _) rfl
    · have e : a.tmps[2]?.getD undef = .pointer (some ⟨w.heap.size, 0, none⟩) := hb 2 (by kernel_rfl)
      clear hb hr; go_simp; exact hK _ _ (Below.refl _ _) rfl
    · have e : a.tmps[18]?.getD undef = _ := hr 18 (by kernel_rfl)
      have c0 := (BX3.out.go hg).c1
      clear hb hr; go_simp; exact hK _ _ (Below.refl _ _) rfl
    · have e : a.tmps[1]?.getD undef = .int .i64 k := hb 1 (by kernel_rfl)
      clear hb hr; go_simp; exact hK _ _ (Below.refl _ _) rfl
    · have e : a.tmps[19]?.getD undef = .slice o3 k3 c3' := hr 19 (by kernel_rfl)
      have e' : a.tmps[20]?.getD undef = .int .i64 k := hr 20 (by kernel_rfl)
      clear hb hr; go_simp
      refine (P1.out _ _ (HN3.out.go hg)).mono ?_; rintro e w5 ⟨v5, rfl, hv5, hb5⟩
      exact hK _ _ hb5 hv5
    · have e : a.tmps[2]?.getD undef = .pointer (some ⟨w.heap.size, 0, none⟩) := hb 2 (by kernel_rfl)
      clear hb hr; go_simp; exact hK _ _ (Below.refl _ _) rfl
    · have e : a.tmps[22]?.getD undef = _ := hr 22 (by kernel_rfl)
      have c0 := (BX3.out.go hg).c2
      clear hb hr; go_simp; exact hK _ _ (Below.refl _ _) rfl
    · have e : a.tmps[1]?.getD undef = .int .i64 k := hb 1 (by kernel_rfl)
      clear hb hr; go_simp; exact hK _ _ (Below.refl _ _) rfl
    · have e : a.tmps[23]?.getD undef = .slice o4 k4 c4' := hr 23 (by kernel_rfl)
      have e' : a.tmps[24]?.getD undef = .int .i64 k := hr 24 (by kernel_rfl)
      clear hb hr; go_simp
      refine (P2.out _ _ (HD3.out.go hg)).mono ?_; rintro e w5 ⟨v5, rfl, hv5, hb5⟩
      exact hK _ _ hb5 hv5
    · have e : a.tmps[17]?.getD undef = .bool (s && decide (k % 2 = 1)) := hr 17 (by kernel_rfl)
      have e1 : ∃ N, Num W (a.tmps[21]?.getD undef) N ∧ PowNum d k N := hr 21 (by kernel_rfl)
      have e2 : ∃ N, Num W (a.tmps[25]?.getD undef) N ∧ PowNum n k N := hr 25 (by kernel_rfl)
      obtain ⟨N, e1, pN⟩ := e1
      obtain ⟨D, e2, pD⟩ := e2
      obtain ⟨o11, k11, c11', e3⟩ := e1.shape
      obtain ⟨o12, k12, c12', e4⟩ := e2.shape
      rw [e3] at e1; rw [e4] at e2
      have E1 := Lib.hid e1; have E2 := Lib.hid e2; have PN := Lib.hid pN; have PD := Lib.hid pD
      generalize (s && decide (k % 2 = 1)) = od at *
      clear hb hr e1 e2 pN pD; go_simp
      exact hK _ _ (Below.refl _ _) ⟨N, D, ⟨_, _, rfl, E1.out, E2.out⟩, PN.out, PD.out⟩
  · rintro g3 w9 hb9 ⟨-, -, -, -, -, -, -, -, -, -, -, -, -, -, -, h26, -⟩
    simp only [List.drop_succ_cons, List.drop_zero, List.take_succ_cons, List.take_zero, putHead, Option.getD_some, Act.put, List.setIfInBounds_toArray, List.set_cons_zero, List.set_cons_succ]
    replace h26 : ∃ N D, Frac w9 (g3 26) (s && decide (k % 2 = 1)) N D ∧ PowNum d k N ∧ PowNum n k D := h26
    obtain ⟨N, D, h26, pN, pD⟩ := h26
    have PN := Lib.hid pN; have PD := Lib.hid pD
    clear pN pD hdk HT P1 P2
    generalize g3 26 = v26 at *
    obtain ⟨p5, q5, z5, p6, q6, z6, rfl, hx5, hx6⟩ := h26.box
    have BR9 := Lib.hid (BR3.out.go hb9)
    have Hx5 := Lib.hid hx5; have Hx6 := Lib.hid hx6; have B9 := Lib.hid (bstep HB3.out hb9)
    clear h26 hx5 hx6 hb9 BX3 HN3 HD3 BR3 HB3
    obtain ⟨r0, r1, r2, f0, f1, f2⟩ := Box3.facts BR9.out
    have HR : Hid (∀ v w', RetF w (s && decide (k % 2 = 1)) N D v w' → RetP w s d n k v w') := fun v w' ⟨v', h1, h2, h3⟩ => ⟨v', N, D, h1, h2, h3, PN.out, PD.out⟩
    generalize (s && decide (k % 2 = 1)) = od at *
    go_wp2_with fail
    obtain ⟨e0, e1, e2, hret⟩ := box_ret (t := od) BR9.out Hx5.out Hx6.out B9.out (by omega)
    refine bodyPost_ret ?_ rfl (HR.out _ _ hret)
    simp [results, Try.f84, go_sem, e0, e1, e2]
end Go.Proofs.Ytlkdahgfnfdakaa

namespace Go.Proofs.Ytlkdahgfnfdakaa
open Go.RowKit WN LM

set_option maxHeartbeats 4000000 in
set_option maxRecDepth 100000 in
theorem simplest_zero {w : World} {v u : Value} {s : Bool} {n d m c : Nat} {t : Bool} (h : Frac w v s n d) (k : Frac w u t m c) (ln : Len n ≤ 1000000000) (hst : (s && t) = false) (hz : sgn s n ≤ 0) :
    Calls Try.prog 94 #[v, u] w (RetF w false 0 1) := by
  obtain ⟨o1, k1, c1', o2, k2, c2', rfl, hn, hd⟩ := h.box
  obtain ⟨o3, k3, c3', o4, k4, c4', rfl, hm, hc⟩ := k.box
  clear h k
  obtain ⟨B1, bA, bB, bR⟩ := boxes3 w (.bool s) (.slice o1 k1 c1') (.slice o2 k2 c2') (.bool t) (.slice o3 k3 c3') (.slice o4 k4 c4') (.bool false) (.slice none 0 0) (.slice none 0 0)
  have Hn := Lib.hid (hn.go B1); have Hd := Lib.hid (hd.go B1)
  clear hn hd hm hc
  have SG := Lib.hid (fun w' v h => sign_num (w := w') (v := v) (s := s) (n := n) (d := d) h (by omega))
  have hzd : decide (sgn s n ≤ 0) = true := by simp [hz]
  clear hz
  generalize sgn s n = sg at *
  go_enter Try.func94, Try.ntmps94
  obtain ⟨c0, c1, c2, f0, f1, f2⟩ := Box3.facts bA
  obtain ⟨d0, d1, d2⟩ := Box3.cells bB
  have BA := Lib.hid bA; have BB := Lib.hid bB; have BR := Lib.hid bR; have HB1 := Lib.hid B1
  clear bA bB bR B1
  have IN := Lib.hid (fun w' => integer_num (w := w') (va := .slice none 0 0) (a := 0) false (Num.nil w') (by rw [len_zero]; omega))
  cases s
  · go_wp2_with fail
    generalize ((w.alloc (.cells #[.bool false, .slice o1 k1 c1', .slice o2 k2 c2'] 55)).alloc (.cells #[.bool t, .slice o3 k3 c3', .slice o4 k4 c4'] 55)).alloc (.cells #[.bool false, .slice none 0 0, .slice none 0 0] 55) = w1 at *
    refine (SG.out _ _ ⟨_, _, rfl, Hn.out, Hd.out⟩).mono ?_; rintro e w2 ⟨rfl, hb2⟩
    have HB2 := Lib.hid hb2; clear hb2
    go_wp2_with fail
    refine (IN.out _).mono ?_; rintro e w3 ⟨v3, rfl, hv3, hb3⟩
    obtain ⟨p5, q5, z5, p6, q6, z6, rfl, hx5, hx6⟩ := hv3.box
    have BR3 := Lib.hid (BR.out.go (bstep HB2.out hb3)); have B3 := Lib.hid (bstep HB1.out (bstep HB2.out hb3))
    have Hx5 := Lib.hid hx5; have Hx6 := Lib.hid hx6
    clear hv3 hb3 hx5 hx6 c0 c1 c2 d0 d1 d2 f0 f1 f2
    obtain ⟨r0, r1, r2, f0, f1, f2⟩ := Box3.facts BR3.out
    go_wp2_with fail
    obtain ⟨e0, e1, e2, hret⟩ := box_ret (t := false) BR3.out Hx5.out Hx6.out B3.out (by omega)
    refine bodyPost_ret ?_ rfl hret
    simp [results, Try.f94, go_sem, e0, e1, e2]
  · obtain rfl : t = false := by simpa using hst
    clear hst
    go_wp2_with fail
    generalize ((w.alloc (.cells #[.bool true, .slice o1 k1 c1', .slice o2 k2 c2'] 55)).alloc (.cells #[.bool false, .slice o3 k3 c3', .slice o4 k4 c4'] 55)).alloc (.cells #[.bool false, .slice none 0 0, .slice none 0 0] 55) = w1 at *
    refine (SG.out _ _ ⟨_, _, rfl, Hn.out, Hd.out⟩).mono ?_; rintro e w2 ⟨rfl, hb2⟩
    have HB2 := Lib.hid hb2; clear hb2
    go_wp2_with fail
    refine (IN.out _).mono ?_; rintro e w3 ⟨v3, rfl, hv3, hb3⟩
    obtain ⟨p5, q5, z5, p6, q6, z6, rfl, hx5, hx6⟩ := hv3.box
    have BR3 := Lib.hid (BR.out.go (bstep HB2.out hb3)); have B3 := Lib.hid (bstep HB1.out (bstep HB2.out hb3))
    have Hx5 := Lib.hid hx5; have Hx6 := Lib.hid hx6
    clear hv3 hb3 hx5 hx6 c0 c1 c2 d0 d1 d2 f0 f1 f2
    obtain ⟨r0, r1, r2, f0, f1, f2⟩ := Box3.facts BR3.out
    go_wp2_with fail
    obtain ⟨e0, e1, e2, hret⟩ := box_ret (t := false) BR3.out Hx5.out Hx6.out B3.out (by omega)
    refine bodyPost_ret ?_ rfl hret
    simp [results, Try.f94, go_sem, e0, e1, e2]

set_option maxHeartbeats 4000000 in
set_option maxRecDepth 100000 in
theorem simplest_above {w : World} {v u : Value} {n d m c : Nat} {t : Bool} (h : Frac w v false n d) (k : Frac w u t m c) (ln : Len n ≤ 1000000000) (ld : Len d ≤ 1000000000) (lm : Len m ≤ 1000000000) (lc : Len c ≤ 1000000000)
    (n0 : 0 < n) (d0' : 0 < d) (c0' : 0 < c) (hle : n * c ≤ m * d) :
    Calls Try.prog 94 #[v, u] w (RetF w false (simpl n d m c).1 (simpl n d m c).2) := by
  obtain ⟨o1, k1, c1', o2, k2, c2', rfl, hn, hd⟩ := h.box
  obtain ⟨o3, k3, c3', o4, k4, c4', rfl, hm, hc⟩ := k.box
  clear h k
  obtain ⟨B1, bA, bB, bR⟩ := boxes3 w (.bool false) (.slice o1 k1 c1') (.slice o2 k2 c2') (.bool t) (.slice o3 k3 c3') (.slice o4 k4 c4') (.bool false) (.slice none 0 0) (.slice none 0 0)
  have Hn := Lib.hid (hn.go B1); have Hd := Lib.hid (hd.go B1)
  have Hm := Lib.hid (hm.go B1); have Hc := Lib.hid (hc.go B1)
  clear hn hd hm hc
  have hsg : sgn false n = 1 := by unfold sgn; rw [if_neg (by simp), if_neg (by omega)]
  have SG := Lib.hid (fun w' v h => sign_num (w := w') (v := v) (s := false) (n := n) (d := d) h (by omega))
  rw [hsg] at SG
  clear hsg
  have SA := Lib.hid (fun w' va vb vc vd a b c' d' => simplestAbove_num (d + c) w' va vb vc vd n d m c (Nat.le_refl _) a b c' d' ln ld lm lc d0' c0' (by exact hle))
  have bd := simpl_bound _ n d m c (Nat.le_refl _) d0' c0' hle
  clear n0 d0' c0' hle
  generalize (simpl n d m c).1 = N at *
  generalize (simpl n d m c).2 = D at *
  clear bd
  go_enter Try.func94, Try.ntmps94
  obtain ⟨c0, c1, c2, f0, f1, f2⟩ := Box3.facts bA
  obtain ⟨d0, d1, d2⟩ := Box3.cells bB
  have BA := Lib.hid bA; have BB := Lib.hid bB; have BR := Lib.hid bR; have HB1 := Lib.hid B1
  clear bA bB bR B1
  go_wp2_with fail
  generalize ((w.alloc (.cells #[.bool false, .slice o1 k1 c1', .slice o2 k2 c2'] 55)).alloc (.cells #[.bool t, .slice o3 k3 c3', .slice o4 k4 c4'] 55)).alloc (.cells #[.bool false, .slice none 0 0, .slice none 0 0] 55) = w1 at *
  refine (SG.out _ _ ⟨_, _, rfl, Hn.out, Hd.out⟩).mono ?_; rintro e w2 ⟨rfl, hb2⟩
  have HB2 := Lib.hid hb2; clear hb2
  clear c0 c1 c2 d0 d1 d2 f0 f1 f2
  obtain ⟨c0, c1, c2, f0, f1, f2⟩ := Box3.facts (BA.out.go HB2.out)
  obtain ⟨d0, d1, d2⟩ := Box3.cells (BB.out.go HB2.out)
  go_wp2_with fail
  refine (SA.out _ _ _ _ _ (Hn.out.go HB2.out) (Hd.out.go HB2.out) (Hm.out.go HB2.out) (Hc.out.go HB2.out)).mono ?_; rintro e w3 ⟨v3, v4, rfl, hv3, hv4, hb3⟩
  obtain ⟨p5, q5, z5, rfl⟩ := hv3.shape
  obtain ⟨p6, q6, z6, rfl⟩ := hv4.shape
  have BR3 := Lib.hid (BR.out.go (bstep HB2.out hb3)); have B3 := Lib.hid (bstep HB1.out (bstep HB2.out hb3))
  have Hx5 := Lib.hid hv3; have Hx6 := Lib.hid hv4
  clear hv3 hv4 hb3 c0 c1 c2 d0 d1 d2 f0 f1 f2
  obtain ⟨r0, r1, r2, f0, f1, f2⟩ := Box3.facts BR3.out
  go_wp2_with fail
  obtain ⟨e0, e1, e2, hret⟩ := box_ret (t := false) BR3.out Hx5.out Hx6.out B3.out (by omega)
  refine bodyPost_ret ?_ rfl hret
  simp [results, Try.f94, go_sem, e0, e1, e2]

set_option maxHeartbeats 4000000 in
set_option maxRecDepth 100000 in
theorem simplest_both {w : World} {v u : Value} {n d m c : Nat} (h : Frac w v true n d) (k : Frac w u true m c) (ln : Len n ≤ 1000000000) (ld : Len d ≤ 1000000000) (lm : Len m ≤ 1000000000) (lc : Len c ≤ 1000000000)
    (n0 : 0 < n) (m0 : 0 < m) (d0' : 0 < d) (c0' : 0 < c) (hle : m * d ≤ n * c) :
    Calls Try.prog 94 #[v, u] w (RetF w (decide ((simpl m c n d).1 ≠ 0)) (simpl m c n d).1 (simpl m c n d).2) := by
  obtain ⟨o1, k1, c1', o2, k2, c2', rfl, hn, hd⟩ := h.box
  obtain ⟨o3, k3, c3', o4, k4, c4', rfl, hm, hc⟩ := k.box
  clear h k
  obtain ⟨B1, bA, bB, bR⟩ := boxes3 w (.bool true) (.slice o1 k1 c1') (.slice o2 k2 c2') (.bool true) (.slice o3 k3 c3') (.slice o4 k4 c4') (.bool false) (.slice none 0 0) (.slice none 0 0)
  have Hn := Lib.hid (hn.go B1); have Hd := Lib.hid (hd.go B1)
  have Hm := Lib.hid (hm.go B1); have Hc := Lib.hid (hc.go B1)
  clear hn hd hm hc
  have NA := Lib.hid (fun w' v h => negated_num (w := w') (v := v) (s := true) (n := n) (d := d) h (by omega))
  have NB := Lib.hid (fun w' v h => negated_num (w := w') (v := v) (s := true) (n := m) (d := c) h (by omega))
  have SA := Lib.hid (fun w' v u a b => simplest_above (w := w') (v := v) (u := u) (n := m) (d := c) (m := n) (c := d) (t := false) a b lm lc ln ld m0 c0' d0' hle)
  have bd := simpl_bound _ m c n d (Nat.le_refl _) c0' d0' hle
  have l1 := len_mono bd.1
  clear n0 m0 d0' c0' hle bd
  generalize (simpl m c n d).1 = N at *
  generalize (simpl m c n d).2 = D at *
  have NR := Lib.hid (fun w' v h => negated_num (w := w') (v := v) (s := false) (n := N) (d := D) h (by omega))
  simp only [Bool.not_true, Bool.false_and, Bool.not_false, Bool.true_and] at NA NB NR
  generalize decide (N ≠ 0) = S at *
  go_enter Try.func94, Try.ntmps94
  obtain ⟨c0, c1, c2, f0, f1, f2⟩ := Box3.facts bA
  obtain ⟨d0, d1, d2⟩ := Box3.cells bB
  have BA := Lib.hid bA; have BB := Lib.hid bB; have BR := Lib.hid bR; have HB1 := Lib.hid B1
  clear bA bB bR B1
  go_wp2_with fail
  generalize ((w.alloc (.cells #[.bool true, .slice o1 k1 c1', .slice o2 k2 c2'] 55)).alloc (.cells #[.bool true, .slice o3 k3 c3', .slice o4 k4 c4'] 55)).alloc (.cells #[.bool false, .slice none 0 0, .slice none 0 0] 55) = w1 at *
  clear c0 c1 c2 d0 d1 d2 f0 f1 f2
  refine region_inv 6 38 [(13, Is (.agg #[.bool true, .slice o3 k3 c3', .slice o4 k4 c4'])), (14, IsFrac false m c), (15, Is (.agg #[.bool true, .slice o1 k1 c1', .slice o2 k2 c2'])), (16, IsFrac false n d), (17, IsFrac false N D), (18, IsFrac S N D)] (by kernel_rfl) rfl (by kernel_rfl) ?_ ?_
  · refine steps_cons rfl (fun a W hb hr hg K hK => ?_) <| steps_cons rfl (fun a W hb hr hg K hK => ?_) <| steps_cons rfl (fun a W hb hr hg K hK => ?_) <| steps_cons rfl (fun a W hb hr hg K hK => ?_) <| steps_cons rfl (fun a W hb hr hg K hK => ?_) <| steps_cons rfl (fun a W hb hr hg K hK => ?_) trivial
    · have e : a.tmps[3]?.getD undef = .pointer (some ⟨w.heap.size + 1, 0, none⟩) := hb 3 (by kernel_rfl)
      obtain ⟨c0, c1, c2, f0, f1, f2⟩ := Box3.facts (BB.out.go hg)
      clear hb hr; go_simp; exact hK _ _ (Below.refl _ _) rfl
    · have e : a.tmps[13]?.getD undef = _ := hr 13 (by kernel_rfl)
      clear hb hr; go_simp
      refine (NB.out _ _ ⟨_, _, rfl, Hm.out.go hg, Hc.out.go hg⟩).mono ?_; rintro e w2 ⟨v2, rfl, hv2, hb2⟩
      exact hK _ _ hb2 hv2
    · have e : a.tmps[2]?.getD undef = .pointer (some ⟨w.heap.size, 0, none⟩) := hb 2 (by kernel_rfl)
      obtain ⟨c0, c1, c2, f0, f1, f2⟩ := Box3.facts (BA.out.go hg)
      clear hb hr; go_simp; exact hK _ _ (Below.refl _ _) rfl
    · have e : a.tmps[15]?.getD undef = _ := hr 15 (by kernel_rfl)
      clear hb hr; go_simp
      refine (NA.out _ _ ⟨_, _, rfl, Hn.out.go hg, Hd.out.go hg⟩).mono ?_; rintro e w2 ⟨v2, rfl, hv2, hb2⟩
      exact hK _ _ hb2 hv2
    · have e : Frac W (a.tmps[14]?.getD undef) false m c := hr 14 (by kernel_rfl)
      have e' : Frac W (a.tmps[16]?.getD undef) false n d := hr 16 (by kernel_rfl)
      have E := Lib.hid e; have E' := Lib.hid e'
      clear hb hr e e'; go_simp
      refine (SA.out _ _ _ E.out E'.out).mono ?_; rintro e w2 ⟨v2, rfl, hv2, hb2⟩
      exact hK _ _ hb2 hv2
    · have e : Frac W (a.tmps[17]?.getD undef) false N D := hr 17 (by kernel_rfl)
      have E := Lib.hid e
      clear hb hr e; go_simp
      refine (NR.out _ _ E.out).mono ?_; rintro e w2 ⟨v2, rfl, hv2, hb2⟩
      exact hK _ _ hb2 hv2
  · rintro g w2 hb2 ⟨-, -, -, -, -, h18, -⟩
    simp only [List.drop_succ_cons, List.drop_zero, List.take_succ_cons, List.take_zero, putHead, Option.getD_some, Act.put, List.setIfInBounds_toArray, List.set_cons_zero, List.set_cons_succ]
    replace h18 : Frac w2 (g 18) S N D := h18
    generalize g 18 = v8 at *
    obtain ⟨p5, q5, z5, p6, q6, z6, rfl, hx5, hx6⟩ := h18.box
    have BR2 := Lib.hid (BR.out.go hb2); have Hx5 := Lib.hid hx5; have Hx6 := Lib.hid hx6; have B2 := Lib.hid (bstep HB1.out hb2)
    clear hx5 hx6 h18 hb2
    obtain ⟨r0, r1, r2, f0, f1, f2⟩ := Box3.facts BR2.out
    go_wp2_with fail
    obtain ⟨e0, e1, e2, hret⟩ := box_ret (t := S) BR2.out Hx5.out Hx6.out B2.out (by omega)
    refine bodyPost_ret ?_ rfl hret
    simp [results, Try.f94, go_sem, e0, e1, e2]
end Go.Proofs.Ytlkdahgfnfdakaa
