/- RatOrder: whatever three texts it is given, it returns true, and the texts read as they did. No condition. -/
import Derived.Test.YtlkdahgfnfdakaaLawK
namespace Go.Proofs.Ytlkdahgfnfdakaa
open Go Go.RowKit Go.Shelf WN LM

set_option maxHeartbeats 8000000 in
set_option maxRecDepth 100000 in
theorem order_all (w : World) (a b c : ByteArray) (ha : a.size ≤ 140737488355328) (hb : b.size ≤ 140737488355328) (hc : c.size ≤ 140737488355328) (hall : isB a = true ∧ isB b = true ∧ isB c = true) : Calls Try.prog 10 #[.string a, .string b, .string c] w (TrueB w) := by
  have IS : Hid (∀ w a, a.size ≤ 140737488355328 → Calls Try.prog 18 #[.string a] w fun e w' => e = .returned (.bool (isB a)) ∧ Below w.heap.size w w') := fun w a h => is_any w a h
  have AL : Hid (∀ w, Calls Try.prog 20 #[] w fun e w' => e = .returned (.bool true) ∧ Below w.heap.size w w') := alive_any
  have SU : Hid (∀ w a b, a.size ≤ 140737488355328 → b.size ≤ 140737488355328 → Calls Try.prog 52 #[.string a, .string b] w (OutP w (okS (addT a b)))) := fun w a b h k => sum_law w a b h k
  have PR : Hid (∀ w a b, a.size ≤ 140737488355328 → b.size ≤ 140737488355328 → Calls Try.prog 53 #[.string a, .string b] w (OutP w (okS (mulT a b)))) := fun w a b h k => product_law w a b h k
  have CM : Hid (∀ w a b, a.size ≤ 140737488355328 → b.size ≤ 140737488355328 → Calls Try.prog 31 #[.string a, .string b] w (OutI w (cmpT a b))) := fun w a b h k => cmp_any w a b h k
  have SB : Hid (∀ w a b, a.size ≤ 140737488355328 → b.size ≤ 140737488355328 → Calls Try.prog 25 #[.string a, .string b] w (OutS w (subT a b))) := fun w a b h k => sub_any w a b h k
  have SG : Hid (∀ w a, a.size ≤ 140737488355328 → Calls Try.prog 39 #[.string a] w (OutI w (signT a))) := fun w a h => sign_any w a h
  have HA := Lib.hid ha; have HB := Lib.hid hb; have HC := Lib.hid hc
  clear ha hb hc
  go_enter Try.func10, Try.ntmps10
  obtain ⟨i1, i2, i3⟩ := hall
  obtain ⟨x, hx⟩ := isV_of (show (readQ a.data.toList).isSome = true from i1)
  obtain ⟨y, hy⟩ := isV_of (show (readQ b.data.toList).isSome = true from i2)
  obtain ⟨z, hz⟩ := isV_of (show (readQ c.data.toList).isSome = true from i3)
  have X := Lib.hid hx; have Y := Lib.hid hy; have Z := Lib.hid hz
  clear hx hy hz
  have I1 : Hid (∀ w, Calls Try.prog 18 #[.string a] w fun e w' => e = .returned (.bool true) ∧ Below w.heap.size w w') := fun w => by have := IS.out w a HA.out; rwa [i1] at this
  have I2 : Hid (∀ w, Calls Try.prog 18 #[.string b] w fun e w' => e = .returned (.bool true) ∧ Below w.heap.size w w') := fun w => by have := IS.out w b HB.out; rwa [i2] at this
  have I3 : Hid (∀ w, Calls Try.prog 18 #[.string c] w fun e w' => e = .returned (.bool true) ∧ Below w.heap.size w w') := fun w => by have := IS.out w c HC.out; rwa [i3] at this
  clear i1 i2 i3
  have C1 : Hid (∀ w, Calls Try.prog 31 #[.string a, .string b] w (OutI w (cmpR x y, 0))) := fun w => by have := CM.out w a b HA.out HB.out; rwa [cmpT_isV X.out Y.out] at this
  have C2 : Hid (∀ w, Calls Try.prog 31 #[.string b, .string a] w (OutI w (cmpR y x, 0))) := fun w => by have := CM.out w b a HB.out HA.out; rwa [cmpT_isV Y.out X.out] at this
  have C3 : Hid (∀ w, Calls Try.prog 31 #[.string b, .string c] w (OutI w (cmpR y z, 0))) := fun w => by have := CM.out w b c HB.out HC.out; rwa [cmpT_isV Y.out Z.out] at this
  have C4 : Hid (∀ w, Calls Try.prog 31 #[.string a, .string c] w (OutI w (cmpR x z, 0))) := fun w => by have := CM.out w a c HA.out HC.out; rwa [cmpT_isV X.out Z.out] at this
  have E1 : Hid ((a.toList == b.toList) = (cmpR x y == 0)) := toList_eqv X.out Y.out
  have Tle : Hid (cmpR x y ≤ 0 → cmpR y z ≤ 0 → cmpR x z ≤ 0) := fun h1 h2 => cmpR_le.2 (Rat.le_trans (cmpR_le.1 h1) (cmpR_le.1 h2))
  have Tge : Hid (0 ≤ cmpR x y → 0 ≤ cmpR y z → 0 ≤ cmpR x z) := fun h1 h2 => cmpR_ge.2 (Rat.le_trans (cmpR_ge.1 h2) (cmpR_ge.1 h1))
  have S3 : Hid (∀ w, Calls Try.prog 39 #[.string c] w (OutI w (cmpR z 0, 0))) := fun w => by have := SG.out w c HC.out; rwa [signT_cmp Z.out] at this
  have S1 : Hid (∀ w, Calls Try.prog 52 #[.string a, .string c] w (OutP w (okS (addT a c)))) := fun w => SU.out w a c (HA.out) (HC.out)
  have V1 : Hid ((okS (addT a c)).2 = true → IsV (okS (addT a c)).1 (x + z)) := fun h => addT_isV X.out Z.out (by simpa [okS] using h)
  have Z1 : Hid ((okS (addT a c)).1.size ≤ 1000) := addT_size a c
  generalize okS (addT a c) = q_ at *; obtain ⟨p, k1⟩ := q_
  have S2 : Hid (∀ w, Calls Try.prog 52 #[.string b, .string c] w (OutP w (okS (addT b c)))) := fun w => SU.out w b c (HB.out) (HC.out)
  have V2 : Hid ((okS (addT b c)).2 = true → IsV (okS (addT b c)).1 (y + z)) := fun h => addT_isV Y.out Z.out (by simpa [okS] using h)
  have Z2 : Hid ((okS (addT b c)).1.size ≤ 1000) := addT_size b c
  generalize okS (addT b c) = q_ at *; obtain ⟨q, k2⟩ := q_
  have M1 : Hid (∀ w, Calls Try.prog 53 #[.string a, .string c] w (OutP w (okS (mulT a c)))) := fun w => PR.out w a c (HA.out) (HC.out)
  have V3 : Hid ((okS (mulT a c)).2 = true → IsV (okS (mulT a c)).1 (x * z)) := fun h => mulT_isV X.out Z.out (by simpa [okS] using h)
  have Z3 : Hid ((okS (mulT a c)).1.size ≤ 1000) := mulT_size a c
  generalize okS (mulT a c) = q_ at *; obtain ⟨r, m1⟩ := q_
  have M2 : Hid (∀ w, Calls Try.prog 53 #[.string b, .string c] w (OutP w (okS (mulT b c)))) := fun w => PR.out w b c (HB.out) (HC.out)
  have V4 : Hid ((okS (mulT b c)).2 = true → IsV (okS (mulT b c)).1 (y * z)) := fun h => mulT_isV Y.out Z.out (by simpa [okS] using h)
  have Z4 : Hid ((okS (mulT b c)).1.size ≤ 1000) := mulT_size b c
  generalize okS (mulT b c) = q_ at *; obtain ⟨t, m2⟩ := q_
  have C5 : Hid (k1 = true → k2 = true → ∀ w, Calls Try.prog 31 #[.string p, .string q] w (OutI w (cmpR x y, 0))) := fun h1 h2 w => by have := CM.out w p q (Nat.le_trans Z1.out (by omega)) (Nat.le_trans Z2.out (by omega)); rwa [cmpT_isV (V1.out h1) (V2.out h2), cmpR_add] at this
  have C6 : Hid (m1 = true → m2 = true → ∀ w, Calls Try.prog 31 #[.string r, .string t] w (OutI w (cmpR x y * cmpR z 0, 0))) := fun h1 h2 w => by have := CM.out w r t (Nat.le_trans Z3.out (by omega)) (Nat.le_trans Z4.out (by omega)); rwa [cmpT_isV (V3.out h1) (V4.out h2), cmpR_mul] at this
  have SD := Lib.hid (fun w => SB.out w a b HA.out HB.out)
  have SN := Lib.hid (fun w => SG.out w (subT a b).1 (Nat.le_trans (subT_size a b) (by omega)))
  have VN : Hid ((subT a b).2 = 0 → (signT (subT a b).1).1 = cmpR x y) := fun h => by rw [signT_cmp (subT_isV X.out Y.out h), cmpR_sub]
  have KD : (subT a b).2 = 0 ∨ (subT a b).2 = 2 := two_code X.out Y.out
  generalize signT (subT a b).1 = sn at *; obtain ⟨sn, sc⟩ := sn
  generalize subT a b = dd at *; obtain ⟨D, dc⟩ := dd
  replace VN : dc = 0 → sn = cmpR x y := VN.out
  replace KD : dc = 0 ∨ dc = 2 := KD
  have VN2 : Hid ((dc = 0 ∧ sn = cmpR x y) ∨ dc = 2) := by rcases KD with h | h; exact Or.inl ⟨h, VN h⟩; exact Or.inr h
  clear KD VN
  have HYR := cmpR_swap x y
  have X3 := cmpR_three x y
  have YZ3 := cmpR_three y z
  have XZ3 := cmpR_three x z
  have ZZ3 := cmpR_three z 0
  clear V1 V2 V3 V4 Z1 Z2 Z3 Z4 IS SU PR CM SB SG HA HB HC X Y Z
  generalize cmpR x y = cx at *
  generalize cmpR y x = cy at *
  generalize cmpR y z = cz at *
  generalize cmpR x z = cw at *
  generalize cmpR z 0 = sg at *
  have YX : Hid ((cx = -1 ∧ cy = 1) ∨ (cx = 0 ∧ cy = 0) ∨ (cx = 1 ∧ cy = -1)) := by show _ ∨ _; rcases X3 with h | h | h <;> subst h <;> omega
  have MX : Hid ((cx = -1 ∧ sg = -1) ∨ (cx = -1 ∧ sg = 0) ∨ (cx = -1 ∧ sg = 1) ∨ (cx = 0 ∧ sg = -1) ∨ (cx = 0 ∧ sg = 0) ∨ (cx = 0 ∧ sg = 1) ∨ (cx = 1 ∧ sg = -1) ∨ (cx = 1 ∧ sg = 0) ∨ (cx = 1 ∧ sg = 1)) := by show _ ∨ _; rcases X3 with h | h | h <;> rcases ZZ3 with k | k | k <;> subst h <;> subst k <;> simp
  have T7 : (((false || ((cx == 0) != (a.toList == b.toList))) || ((decide (cx ≤ 0) && decide (cz ≤ 0)) && decide (0 < cw))) || ((decide (0 ≤ cx) && decide (0 ≤ cz)) && decide (cw < 0))) = false := by
    rw [E1.out]
    have t1 := Tle.out
    have t2 := Tge.out
    rcases X3 with h | h | h <;> rcases YZ3 with k | k | k <;> rcases XZ3 with l | l | l <;> subst h <;> subst k <;> subst l <;> first | decide | exact absurd (t1 (by decide) (by decide)) (by decide) | exact absurd (t2 (by decide) (by decide)) (by decide)
  clear E1 Tle Tge X3 YZ3 XZ3 ZZ3 HYR
  go_wp2_with fail
  refine (I1.out _).mono ?_; rintro e w1 ⟨rfl, hb1⟩
  have B1 := Lib.hid hb1; clear hb1
  go_wp2_with fail
  refine (I2.out _).mono ?_; rintro e w2 ⟨rfl, hb2⟩
  have B2 := Lib.hid (bstep B1.out hb2); clear hb2
  go_wp2_with fail
  refine (I3.out _).mono ?_; rintro e w3 ⟨rfl, hb3⟩
  have B3 := Lib.hid (bstep B2.out hb3); clear hb3
  go_wp2_with fail
  refine (C1.out _).mono ?_; rintro e w4 ⟨rfl, hb4⟩
  have B4 := Lib.hid (bstep B3.out hb4); clear hb4
  go_wp2_with fail
  refine (C2.out _).mono ?_; rintro e w5 ⟨rfl, hb5⟩
  have B5 := Lib.hid (bstep B4.out hb5); clear hb5
  go_wp2_with fail
  refine (C3.out _).mono ?_; rintro e w6 ⟨rfl, hb6⟩
  have B6 := Lib.hid (bstep B5.out hb6); clear hb6
  go_wp2_with fail
  refine (C4.out _).mono ?_; rintro e w7 ⟨rfl, hb7⟩
  have B7 := Lib.hid (bstep B6.out hb7); clear hb7
  simp only []
  repeat (first | with_reducible apply stop_at (r := 7) | go_step)
  apply Lib.hid
  refine region_seq 36 181 [(67, Is (.int .i64 (cx))), (68, Is (.int .i64 (cy))), (69, Is (.int .i64 (cx))), (70, Is (.bool (false))), (71, Is (.bool (false))), (72, Is (wantV (!false) (.int .i64 (cx)))), (73, Is (wantV (!false) (.bool ((cx == 0))))), (74, Is (wantV (!false) (.string a))), (75, Is (wantV (!false) (.string b))), (76, Is (wantV (!false) (.bool ((a.toList == b.toList))))), (77, Is (wantV (!false) (.bool (((cx == 0) != (a.toList == b.toList)))))), (78, Is (.bool ((false || ((cx == 0) != (a.toList == b.toList)))))), (79, Is (.bool ((false || ((cx == 0) != (a.toList == b.toList)))))), (80, Is (wantV (!(false || ((cx == 0) != (a.toList == b.toList)))) (.int .i64 (cx)))), (81, Is (wantV (!(false || ((cx == 0) != (a.toList == b.toList)))) (.bool (decide (cx ≤ 0))))), (82, Is (wantV (!(false || ((cx == 0) != (a.toList == b.toList)))) (.bool (decide (cx ≤ 0))))), (83, Is (wantV ((!(false || ((cx == 0) != (a.toList == b.toList))) && decide (cx ≤ 0))) (.int .i64 (cz)))), (84, Is (wantV ((!(false || ((cx == 0) != (a.toList == b.toList))) && decide (cx ≤ 0))) (.bool (decide (cz ≤ 0))))), (85, Is (wantV (!(false || ((cx == 0) != (a.toList == b.toList)))) (.bool ((decide (cx ≤ 0) && decide (cz ≤ 0)))))), (86, Is (wantV (!(false || ((cx == 0) != (a.toList == b.toList)))) (.bool ((decide (cx ≤ 0) && decide (cz ≤ 0)))))), (87, Is (wantV ((!(false || ((cx == 0) != (a.toList == b.toList))) && (decide (cx ≤ 0) && decide (cz ≤ 0)))) (.int .i64 (cw)))), (88, Is (wantV ((!(false || ((cx == 0) != (a.toList == b.toList))) && (decide (cx ≤ 0) && decide (cz ≤ 0)))) (.bool (decide (0 < cw))))), (89, Is (wantV (!(false || ((cx == 0) != (a.toList == b.toList)))) (.bool (((decide (cx ≤ 0) && decide (cz ≤ 0)) && decide (0 < cw)))))), (90, Is (.bool (((false || ((cx == 0) != (a.toList == b.toList))) || ((decide (cx ≤ 0) && decide (cz ≤ 0)) && decide (0 < cw)))))), (91, Is (.bool (((false || ((cx == 0) != (a.toList == b.toList))) || ((decide (cx ≤ 0) && decide (cz ≤ 0)) && decide (0 < cw)))))), (92, Is (wantV (!((false || ((cx == 0) != (a.toList == b.toList))) || ((decide (cx ≤ 0) && decide (cz ≤ 0)) && decide (0 < cw)))) (.int .i64 (cx)))), (93, Is (wantV (!((false || ((cx == 0) != (a.toList == b.toList))) || ((decide (cx ≤ 0) && decide (cz ≤ 0)) && decide (0 < cw)))) (.bool (decide (0 ≤ cx))))), (94, Is (wantV (!((false || ((cx == 0) != (a.toList == b.toList))) || ((decide (cx ≤ 0) && decide (cz ≤ 0)) && decide (0 < cw)))) (.bool (decide (0 ≤ cx))))), (95, Is (wantV ((!((false || ((cx == 0) != (a.toList == b.toList))) || ((decide (cx ≤ 0) && decide (cz ≤ 0)) && decide (0 < cw))) && decide (0 ≤ cx))) (.int .i64 (cz)))), (96, Is (wantV ((!((false || ((cx == 0) != (a.toList == b.toList))) || ((decide (cx ≤ 0) && decide (cz ≤ 0)) && decide (0 < cw))) && decide (0 ≤ cx))) (.bool (decide (0 ≤ cz))))), (97, Is (wantV (!((false || ((cx == 0) != (a.toList == b.toList))) || ((decide (cx ≤ 0) && decide (cz ≤ 0)) && decide (0 < cw)))) (.bool ((decide (0 ≤ cx) && decide (0 ≤ cz)))))), (98, Is (wantV (!((false || ((cx == 0) != (a.toList == b.toList))) || ((decide (cx ≤ 0) && decide (cz ≤ 0)) && decide (0 < cw)))) (.bool ((decide (0 ≤ cx) && decide (0 ≤ cz)))))), (99, Is (wantV ((!((false || ((cx == 0) != (a.toList == b.toList))) || ((decide (cx ≤ 0) && decide (cz ≤ 0)) && decide (0 < cw))) && (decide (0 ≤ cx) && decide (0 ≤ cz)))) (.int .i64 (cw)))), (100, Is (wantV ((!((false || ((cx == 0) != (a.toList == b.toList))) || ((decide (cx ≤ 0) && decide (cz ≤ 0)) && decide (0 < cw))) && (decide (0 ≤ cx) && decide (0 ≤ cz)))) (.bool (decide (cw < 0))))), (101, Is (wantV (!((false || ((cx == 0) != (a.toList == b.toList))) || ((decide (cx ≤ 0) && decide (cz ≤ 0)) && decide (0 < cw)))) (.bool (((decide (0 ≤ cx) && decide (0 ≤ cz)) && decide (cw < 0)))))), (102, Is (.bool ((((false || ((cx == 0) != (a.toList == b.toList))) || ((decide (cx ≤ 0) && decide (cz ≤ 0)) && decide (0 < cw))) || ((decide (0 ≤ cx) && decide (0 ≤ cz)) && decide (cw < 0))))))] rfl (by kernel_rfl) ?_ ?_
  · refine steps_cons rfl (fun A_ W hb hr hg K hK => ?_) <| steps_cons rfl (fun A_ W hb hr hg K hK => ?_) <| steps_cons rfl (fun A_ W hb hr hg K hK => ?_) <| steps_cons rfl (fun A_ W hb hr hg K hK => ?_) <| steps_cons rfl (fun A_ W hb hr hg K hK => ?_) <| steps_guard (fun A_ W hb hr hg K hK => ?_) <| steps_guard (fun A_ W hb hr hg K hK => ?_) <| steps_guard (fun A_ W hb hr hg K hK => ?_) <| steps_guard (fun A_ W hb hr hg K hK => ?_) <| steps_guard (fun A_ W hb hr hg K hK => ?_) <| steps_guard (fun A_ W hb hr hg K hK => ?_) <| steps_cons rfl (fun A_ W hb hr hg K hK => ?_) <| steps_cons rfl (fun A_ W hb hr hg K hK => ?_) <| steps_guard (fun A_ W hb hr hg K hK => ?_) <| steps_guard (fun A_ W hb hr hg K hK => ?_) <| steps_guard (fun A_ W hb hr hg K hK => ?_) <| steps_guard (fun A_ W hb hr hg K hK => ?_) <| steps_guard (fun A_ W hb hr hg K hK => ?_) <| steps_guard (fun A_ W hb hr hg K hK => ?_) <| steps_guard (fun A_ W hb hr hg K hK => ?_) <| steps_guard (fun A_ W hb hr hg K hK => ?_) <| steps_guard (fun A_ W hb hr hg K hK => ?_) <| steps_guard (fun A_ W hb hr hg K hK => ?_) <| steps_cons rfl (fun A_ W hb hr hg K hK => ?_) <| steps_cons rfl (fun A_ W hb hr hg K hK => ?_) <| steps_guard (fun A_ W hb hr hg K hK => ?_) <| steps_guard (fun A_ W hb hr hg K hK => ?_) <| steps_guard (fun A_ W hb hr hg K hK => ?_) <| steps_guard (fun A_ W hb hr hg K hK => ?_) <| steps_guard (fun A_ W hb hr hg K hK => ?_) <| steps_guard (fun A_ W hb hr hg K hK => ?_) <| steps_guard (fun A_ W hb hr hg K hK => ?_) <| steps_guard (fun A_ W hb hr hg K hK => ?_) <| steps_guard (fun A_ W hb hr hg K hK => ?_) <| steps_guard (fun A_ W hb hr hg K hK => ?_) <| steps_cons rfl (fun A_ W hb hr hg K hK => ?_) trivial
    · have e0 : A_.tmps[7]?.getD undef = .int .i64 (cx) := hb 7 (by kernel_rfl)
      clear hb hr
      go_simp
      exact hK _ _ (Below.refl _ _) (rfl)
    · have e0 : A_.tmps[9]?.getD undef = .int .i64 (cy) := hb 9 (by kernel_rfl)
      clear hb hr
      go_simp
      exact hK _ _ (Below.refl _ _) (rfl)
    · have e0 : A_.tmps[68]?.getD undef = .int .i64 (cy) := hr 68 (by kernel_rfl)
      clear hb hr
      rcases YX.out with ⟨rfl, rfl⟩ | ⟨rfl, rfl⟩ | ⟨rfl, rfl⟩
      · go_simp; exact hK _ _ (Below.refl _ _) (rfl)
      · go_simp; exact hK _ _ (Below.refl _ _) (rfl)
      · go_simp; exact hK _ _ (Below.refl _ _) (rfl)
    · have e0 : A_.tmps[67]?.getD undef = .int .i64 (cx) := hr 67 (by kernel_rfl)
      have e1 : A_.tmps[69]?.getD undef = .int .i64 (cx) := hr 69 (by kernel_rfl)
      clear hb hr
      go_simp; exact hK _ _ (Below.refl _ _) (rfl)
    · have e0 : A_.tmps[70]?.getD undef = .bool (false) := hr 70 (by kernel_rfl)
      clear hb hr
      go_simp
      exact hK _ _ (Below.refl _ _) (rfl)
    · have eG : A_.tmps[71]?.getD undef = .bool (false) := hr 71 (by kernel_rfl)
      have e0 : A_.tmps[7]?.getD undef = .int .i64 (cx) := hb 7 (by kernel_rfl)
      clear hb hr
      refine guard_f rfl (by kernel_rfl) eG (fun hc => ?_) (fun hn => ?_)
      · clear eG
        have eo : (!false) = true := by simp only [hc, Bool.not_false, Bool.not_true, Bool.and_self, Bool.true_and, Bool.and_true, Bool.and_false, Bool.false_and]
        go_simp
        exact hK _ _ (Below.refl _ _) (wantV_eq eo rfl)
      · exact hK _ _ (Below.refl _ _) (show undef = wantV (!false) (.int .i64 (cx)) from (wantV_neg hn).symm)
    · have eG : A_.tmps[71]?.getD undef = .bool (false) := hr 71 (by kernel_rfl)
      have e0 : A_.tmps[72]?.getD undef = wantV (!false) (.int .i64 (cx)) := hr 72 (by kernel_rfl)
      clear hb hr
      refine guard_f rfl (by kernel_rfl) eG (fun hc => ?_) (fun hn => ?_)
      · clear eG
        have eo : (!false) = true := by simp only [hc, Bool.not_false, Bool.not_true, Bool.and_self, Bool.true_and, Bool.and_true, Bool.and_false, Bool.false_and]
        replace e0 : A_.tmps[72]?.getD undef = .int .i64 (cx) := e0.trans (wantV_pos (by simp only [hc, Bool.not_false, Bool.not_true, Bool.and_self, Bool.true_and, Bool.and_true, Bool.and_false, Bool.false_and]))
        go_simp
        exact hK _ _ (Below.refl _ _) (wantV_eq eo rfl)
      · exact hK _ _ (Below.refl _ _) (show undef = wantV (!false) (.bool ((cx == 0))) from (wantV_neg hn).symm)
    · have eG : A_.tmps[71]?.getD undef = .bool (false) := hr 71 (by kernel_rfl)
      have e0 : A_.tmps[0]?.getD undef = .string a := hb 0 (by kernel_rfl)
      clear hb hr
      refine guard_f rfl (by kernel_rfl) eG (fun hc => ?_) (fun hn => ?_)
      · clear eG
        have eo : (!false) = true := by simp only [hc, Bool.not_false, Bool.not_true, Bool.and_self, Bool.true_and, Bool.and_true, Bool.and_false, Bool.false_and]
        go_simp
        exact hK _ _ (Below.refl _ _) (wantV_eq eo rfl)
      · exact hK _ _ (Below.refl _ _) (show undef = wantV (!false) (.string a) from (wantV_neg hn).symm)
    · have eG : A_.tmps[71]?.getD undef = .bool (false) := hr 71 (by kernel_rfl)
      have e0 : A_.tmps[1]?.getD undef = .string b := hb 1 (by kernel_rfl)
      clear hb hr
      refine guard_f rfl (by kernel_rfl) eG (fun hc => ?_) (fun hn => ?_)
      · clear eG
        have eo : (!false) = true := by simp only [hc, Bool.not_false, Bool.not_true, Bool.and_self, Bool.true_and, Bool.and_true, Bool.and_false, Bool.false_and]
        go_simp
        exact hK _ _ (Below.refl _ _) (wantV_eq eo rfl)
      · exact hK _ _ (Below.refl _ _) (show undef = wantV (!false) (.string b) from (wantV_neg hn).symm)
    · have eG : A_.tmps[71]?.getD undef = .bool (false) := hr 71 (by kernel_rfl)
      have e0 : A_.tmps[74]?.getD undef = wantV (!false) (.string a) := hr 74 (by kernel_rfl)
      have e1 : A_.tmps[75]?.getD undef = wantV (!false) (.string b) := hr 75 (by kernel_rfl)
      clear hb hr
      refine guard_f rfl (by kernel_rfl) eG (fun hc => ?_) (fun hn => ?_)
      · clear eG
        have eo : (!false) = true := by simp only [hc, Bool.not_false, Bool.not_true, Bool.and_self, Bool.true_and, Bool.and_true, Bool.and_false, Bool.false_and]
        replace e0 : A_.tmps[74]?.getD undef = .string a := e0.trans (wantV_pos (by simp only [hc, Bool.not_false, Bool.not_true, Bool.and_self, Bool.true_and, Bool.and_true, Bool.and_false, Bool.false_and]))
        replace e1 : A_.tmps[75]?.getD undef = .string b := e1.trans (wantV_pos (by simp only [hc, Bool.not_false, Bool.not_true, Bool.and_self, Bool.true_and, Bool.and_true, Bool.and_false, Bool.false_and]))
        go_simp
        exact hK _ _ (Below.refl _ _) (wantV_eq eo rfl)
      · exact hK _ _ (Below.refl _ _) (show undef = wantV (!false) (.bool ((a.toList == b.toList))) from (wantV_neg hn).symm)
    · have eG : A_.tmps[71]?.getD undef = .bool (false) := hr 71 (by kernel_rfl)
      have e0 : A_.tmps[73]?.getD undef = wantV (!false) (.bool ((cx == 0))) := hr 73 (by kernel_rfl)
      have e1 : A_.tmps[76]?.getD undef = wantV (!false) (.bool ((a.toList == b.toList))) := hr 76 (by kernel_rfl)
      clear hb hr
      refine guard_f rfl (by kernel_rfl) eG (fun hc => ?_) (fun hn => ?_)
      · clear eG
        have eo : (!false) = true := by simp only [hc, Bool.not_false, Bool.not_true, Bool.and_self, Bool.true_and, Bool.and_true, Bool.and_false, Bool.false_and]
        replace e0 : A_.tmps[73]?.getD undef = .bool ((cx == 0)) := e0.trans (wantV_pos (by simp only [hc, Bool.not_false, Bool.not_true, Bool.and_self, Bool.true_and, Bool.and_true, Bool.and_false, Bool.false_and]))
        replace e1 : A_.tmps[76]?.getD undef = .bool ((a.toList == b.toList)) := e1.trans (wantV_pos (by simp only [hc, Bool.not_false, Bool.not_true, Bool.and_self, Bool.true_and, Bool.and_true, Bool.and_false, Bool.false_and]))
        go_simp
        exact hK _ _ (Below.refl _ _) (wantV_eq eo rfl)
      · exact hK _ _ (Below.refl _ _) (show undef = wantV (!false) (.bool (((cx == 0) != (a.toList == b.toList)))) from (wantV_neg hn).symm)
    · have e0 : A_.tmps[71]?.getD undef = .bool (false) := hr 71 (by kernel_rfl)
      have e1 : A_.tmps[77]?.getD undef = wantV (!false) (.bool (((cx == 0) != (a.toList == b.toList)))) := hr 77 (by kernel_rfl)
      clear hb hr
      rcases Bool.eq_false_or_eq_true (false) with hq | hq
      · replace e0 : A_.tmps[71]?.getD undef = .bool true := e0.trans (congrArg Value.bool hq)
        replace e1 : A_.tmps[77]?.getD undef = undef := e1.trans (wantV_neg (by simp only [hq, Bool.not_false, Bool.not_true, Bool.and_self, Bool.true_and, Bool.and_true, Bool.and_false, Bool.false_and]))
        go_simp
        exact hK _ _ (Below.refl _ _) (congrArg Value.bool (or_t hq).symm)
      · replace e0 : A_.tmps[71]?.getD undef = .bool false := e0.trans (congrArg Value.bool hq)
        replace e1 : A_.tmps[77]?.getD undef = .bool (((cx == 0) != (a.toList == b.toList))) := e1.trans (wantV_pos (by simp only [hq, Bool.not_false, Bool.not_true, Bool.and_self, Bool.true_and, Bool.and_true, Bool.and_false, Bool.false_and]))
        go_simp
        exact hK _ _ (Below.refl _ _) (congrArg Value.bool (or_f hq).symm)
    · have e0 : A_.tmps[78]?.getD undef = .bool ((false || ((cx == 0) != (a.toList == b.toList)))) := hr 78 (by kernel_rfl)
      clear hb hr
      go_simp
      exact hK _ _ (Below.refl _ _) (rfl)
    · have eG : A_.tmps[79]?.getD undef = .bool ((false || ((cx == 0) != (a.toList == b.toList)))) := hr 79 (by kernel_rfl)
      have e0 : A_.tmps[7]?.getD undef = .int .i64 (cx) := hb 7 (by kernel_rfl)
      clear hb hr
      refine guard_f rfl (by kernel_rfl) eG (fun hc => ?_) (fun hn => ?_)
      · clear eG
        have eo : (!(false || ((cx == 0) != (a.toList == b.toList)))) = true := by simp only [hc, Bool.not_false, Bool.not_true, Bool.and_self, Bool.true_and, Bool.and_true, Bool.and_false, Bool.false_and]
        go_simp
        exact hK _ _ (Below.refl _ _) (wantV_eq eo rfl)
      · exact hK _ _ (Below.refl _ _) (show undef = wantV (!(false || ((cx == 0) != (a.toList == b.toList)))) (.int .i64 (cx)) from (wantV_neg hn).symm)
    · have eG : A_.tmps[79]?.getD undef = .bool ((false || ((cx == 0) != (a.toList == b.toList)))) := hr 79 (by kernel_rfl)
      have e0 : A_.tmps[80]?.getD undef = wantV (!(false || ((cx == 0) != (a.toList == b.toList)))) (.int .i64 (cx)) := hr 80 (by kernel_rfl)
      clear hb hr
      refine guard_f rfl (by kernel_rfl) eG (fun hc => ?_) (fun hn => ?_)
      · clear eG
        have eo : (!(false || ((cx == 0) != (a.toList == b.toList)))) = true := by simp only [hc, Bool.not_false, Bool.not_true, Bool.and_self, Bool.true_and, Bool.and_true, Bool.and_false, Bool.false_and]
        replace e0 : A_.tmps[80]?.getD undef = .int .i64 (cx) := e0.trans (wantV_pos (by simp only [hc, Bool.not_false, Bool.not_true, Bool.and_self, Bool.true_and, Bool.and_true, Bool.and_false, Bool.false_and]))
        go_simp
        exact hK _ _ (Below.refl _ _) (wantV_eq eo rfl)
      · exact hK _ _ (Below.refl _ _) (show undef = wantV (!(false || ((cx == 0) != (a.toList == b.toList)))) (.bool (decide (cx ≤ 0))) from (wantV_neg hn).symm)
    · have eG : A_.tmps[79]?.getD undef = .bool ((false || ((cx == 0) != (a.toList == b.toList)))) := hr 79 (by kernel_rfl)
      have e0 : A_.tmps[81]?.getD undef = wantV (!(false || ((cx == 0) != (a.toList == b.toList)))) (.bool (decide (cx ≤ 0))) := hr 81 (by kernel_rfl)
      clear hb hr
      refine guard_f rfl (by kernel_rfl) eG (fun hc => ?_) (fun hn => ?_)
      · clear eG
        have eo : (!(false || ((cx == 0) != (a.toList == b.toList)))) = true := by simp only [hc, Bool.not_false, Bool.not_true, Bool.and_self, Bool.true_and, Bool.and_true, Bool.and_false, Bool.false_and]
        replace e0 : A_.tmps[81]?.getD undef = .bool (decide (cx ≤ 0)) := e0.trans (wantV_pos (by simp only [hc, Bool.not_false, Bool.not_true, Bool.and_self, Bool.true_and, Bool.and_true, Bool.and_false, Bool.false_and]))
        go_simp
        exact hK _ _ (Below.refl _ _) (wantV_eq eo rfl)
      · exact hK _ _ (Below.refl _ _) (show undef = wantV (!(false || ((cx == 0) != (a.toList == b.toList)))) (.bool (decide (cx ≤ 0))) from (wantV_neg hn).symm)
    · have eG : A_.tmps[82]?.getD undef = wantV (!(false || ((cx == 0) != (a.toList == b.toList)))) (.bool (decide (cx ≤ 0))) := hr 82 (by kernel_rfl)
      have e0 : A_.tmps[11]?.getD undef = .int .i64 (cz) := hb 11 (by kernel_rfl)
      clear hb hr
      refine guard_tt rfl (by kernel_rfl) eG (fun hp hc => ?_) (fun hn => ?_)
      · clear eG
        have eo : ((!(false || ((cx == 0) != (a.toList == b.toList))) && decide (cx ≤ 0))) = true := by simp only [hp, hc, Bool.not_false, Bool.not_true, Bool.and_self, Bool.true_and, Bool.and_true, Bool.and_false, Bool.false_and]
        go_simp
        exact hK _ _ (Below.refl _ _) (wantV_eq eo rfl)
      · exact hK _ _ (Below.refl _ _) (show undef = wantV ((!(false || ((cx == 0) != (a.toList == b.toList))) && decide (cx ≤ 0))) (.int .i64 (cz)) from (wantV_neg hn).symm)
    · have eG : A_.tmps[82]?.getD undef = wantV (!(false || ((cx == 0) != (a.toList == b.toList)))) (.bool (decide (cx ≤ 0))) := hr 82 (by kernel_rfl)
      have e0 : A_.tmps[83]?.getD undef = wantV ((!(false || ((cx == 0) != (a.toList == b.toList))) && decide (cx ≤ 0))) (.int .i64 (cz)) := hr 83 (by kernel_rfl)
      clear hb hr
      refine guard_tt rfl (by kernel_rfl) eG (fun hp hc => ?_) (fun hn => ?_)
      · clear eG
        have eo : ((!(false || ((cx == 0) != (a.toList == b.toList))) && decide (cx ≤ 0))) = true := by simp only [hp, hc, Bool.not_false, Bool.not_true, Bool.and_self, Bool.true_and, Bool.and_true, Bool.and_false, Bool.false_and]
        replace e0 : A_.tmps[83]?.getD undef = .int .i64 (cz) := e0.trans (wantV_pos (by simp only [hp, hc, Bool.not_false, Bool.not_true, Bool.and_self, Bool.true_and, Bool.and_true, Bool.and_false, Bool.false_and]))
        go_simp
        exact hK _ _ (Below.refl _ _) (wantV_eq eo rfl)
      · exact hK _ _ (Below.refl _ _) (show undef = wantV ((!(false || ((cx == 0) != (a.toList == b.toList))) && decide (cx ≤ 0))) (.bool (decide (cz ≤ 0))) from (wantV_neg hn).symm)
    · have eG : A_.tmps[79]?.getD undef = .bool ((false || ((cx == 0) != (a.toList == b.toList)))) := hr 79 (by kernel_rfl)
      have e0 : A_.tmps[82]?.getD undef = wantV (!(false || ((cx == 0) != (a.toList == b.toList)))) (.bool (decide (cx ≤ 0))) := hr 82 (by kernel_rfl)
      have e1 : A_.tmps[84]?.getD undef = wantV ((!(false || ((cx == 0) != (a.toList == b.toList))) && decide (cx ≤ 0))) (.bool (decide (cz ≤ 0))) := hr 84 (by kernel_rfl)
      clear hb hr
      refine guard_f rfl (by kernel_rfl) eG (fun hc => ?_) (fun hn => ?_)
      · clear eG
        have eo : (!(false || ((cx == 0) != (a.toList == b.toList)))) = true := by simp only [hc, Bool.not_false, Bool.not_true, Bool.and_self, Bool.true_and, Bool.and_true, Bool.and_false, Bool.false_and]
        replace e0 : A_.tmps[82]?.getD undef = .bool (decide (cx ≤ 0)) := e0.trans (wantV_pos (by simp only [hc, Bool.not_false, Bool.not_true, Bool.and_self, Bool.true_and, Bool.and_true, Bool.and_false, Bool.false_and]))
        rcases Bool.eq_false_or_eq_true (decide (cx ≤ 0)) with hq | hq
        · replace e0 : A_.tmps[82]?.getD undef = .bool true := e0.trans (congrArg Value.bool hq)
          replace e1 : A_.tmps[84]?.getD undef = .bool (decide (cz ≤ 0)) := e1.trans (wantV_pos (by simp only [hc, hq, Bool.not_false, Bool.not_true, Bool.and_self, Bool.true_and, Bool.and_true, Bool.and_false, Bool.false_and]))
          go_simp
          exact hK _ _ (Below.refl _ _) ((wantV_eq eo (congrArg Value.bool (and_t hq).symm)))
        · replace e0 : A_.tmps[82]?.getD undef = .bool false := e0.trans (congrArg Value.bool hq)
          replace e1 : A_.tmps[84]?.getD undef = undef := e1.trans (wantV_neg (by simp only [hc, hq, Bool.not_false, Bool.not_true, Bool.and_self, Bool.true_and, Bool.and_true, Bool.and_false, Bool.false_and]))
          go_simp
          exact hK _ _ (Below.refl _ _) ((wantV_eq eo (congrArg Value.bool (and_f hq).symm)))
      · exact hK _ _ (Below.refl _ _) (show undef = wantV (!(false || ((cx == 0) != (a.toList == b.toList)))) (.bool ((decide (cx ≤ 0) && decide (cz ≤ 0)))) from (wantV_neg hn).symm)
    · have eG : A_.tmps[79]?.getD undef = .bool ((false || ((cx == 0) != (a.toList == b.toList)))) := hr 79 (by kernel_rfl)
      have e0 : A_.tmps[85]?.getD undef = wantV (!(false || ((cx == 0) != (a.toList == b.toList)))) (.bool ((decide (cx ≤ 0) && decide (cz ≤ 0)))) := hr 85 (by kernel_rfl)
      clear hb hr
      refine guard_f rfl (by kernel_rfl) eG (fun hc => ?_) (fun hn => ?_)
      · clear eG
        have eo : (!(false || ((cx == 0) != (a.toList == b.toList)))) = true := by simp only [hc, Bool.not_false, Bool.not_true, Bool.and_self, Bool.true_and, Bool.and_true, Bool.and_false, Bool.false_and]
        replace e0 : A_.tmps[85]?.getD undef = .bool ((decide (cx ≤ 0) && decide (cz ≤ 0))) := e0.trans (wantV_pos (by simp only [hc, Bool.not_false, Bool.not_true, Bool.and_self, Bool.true_and, Bool.and_true, Bool.and_false, Bool.false_and]))
        go_simp
        exact hK _ _ (Below.refl _ _) (wantV_eq eo rfl)
      · exact hK _ _ (Below.refl _ _) (show undef = wantV (!(false || ((cx == 0) != (a.toList == b.toList)))) (.bool ((decide (cx ≤ 0) && decide (cz ≤ 0)))) from (wantV_neg hn).symm)
    · have eG : A_.tmps[86]?.getD undef = wantV (!(false || ((cx == 0) != (a.toList == b.toList)))) (.bool ((decide (cx ≤ 0) && decide (cz ≤ 0)))) := hr 86 (by kernel_rfl)
      have e0 : A_.tmps[13]?.getD undef = .int .i64 (cw) := hb 13 (by kernel_rfl)
      clear hb hr
      refine guard_tt rfl (by kernel_rfl) eG (fun hp hc => ?_) (fun hn => ?_)
      · clear eG
        have eo : ((!(false || ((cx == 0) != (a.toList == b.toList))) && (decide (cx ≤ 0) && decide (cz ≤ 0)))) = true := by simp only [hp, hc, Bool.not_false, Bool.not_true, Bool.and_self, Bool.true_and, Bool.and_true, Bool.and_false, Bool.false_and]
        go_simp
        exact hK _ _ (Below.refl _ _) (wantV_eq eo rfl)
      · exact hK _ _ (Below.refl _ _) (show undef = wantV ((!(false || ((cx == 0) != (a.toList == b.toList))) && (decide (cx ≤ 0) && decide (cz ≤ 0)))) (.int .i64 (cw)) from (wantV_neg hn).symm)
    · have eG : A_.tmps[86]?.getD undef = wantV (!(false || ((cx == 0) != (a.toList == b.toList)))) (.bool ((decide (cx ≤ 0) && decide (cz ≤ 0)))) := hr 86 (by kernel_rfl)
      have e0 : A_.tmps[87]?.getD undef = wantV ((!(false || ((cx == 0) != (a.toList == b.toList))) && (decide (cx ≤ 0) && decide (cz ≤ 0)))) (.int .i64 (cw)) := hr 87 (by kernel_rfl)
      clear hb hr
      refine guard_tt rfl (by kernel_rfl) eG (fun hp hc => ?_) (fun hn => ?_)
      · clear eG
        have eo : ((!(false || ((cx == 0) != (a.toList == b.toList))) && (decide (cx ≤ 0) && decide (cz ≤ 0)))) = true := by simp only [hp, hc, Bool.not_false, Bool.not_true, Bool.and_self, Bool.true_and, Bool.and_true, Bool.and_false, Bool.false_and]
        replace e0 : A_.tmps[87]?.getD undef = .int .i64 (cw) := e0.trans (wantV_pos (by simp only [hp, hc, Bool.not_false, Bool.not_true, Bool.and_self, Bool.true_and, Bool.and_true, Bool.and_false, Bool.false_and]))
        go_simp
        exact hK _ _ (Below.refl _ _) (wantV_eq eo rfl)
      · exact hK _ _ (Below.refl _ _) (show undef = wantV ((!(false || ((cx == 0) != (a.toList == b.toList))) && (decide (cx ≤ 0) && decide (cz ≤ 0)))) (.bool (decide (0 < cw))) from (wantV_neg hn).symm)
    · have eG : A_.tmps[79]?.getD undef = .bool ((false || ((cx == 0) != (a.toList == b.toList)))) := hr 79 (by kernel_rfl)
      have e0 : A_.tmps[86]?.getD undef = wantV (!(false || ((cx == 0) != (a.toList == b.toList)))) (.bool ((decide (cx ≤ 0) && decide (cz ≤ 0)))) := hr 86 (by kernel_rfl)
      have e1 : A_.tmps[88]?.getD undef = wantV ((!(false || ((cx == 0) != (a.toList == b.toList))) && (decide (cx ≤ 0) && decide (cz ≤ 0)))) (.bool (decide (0 < cw))) := hr 88 (by kernel_rfl)
      clear hb hr
      refine guard_f rfl (by kernel_rfl) eG (fun hc => ?_) (fun hn => ?_)
      · clear eG
        have eo : (!(false || ((cx == 0) != (a.toList == b.toList)))) = true := by simp only [hc, Bool.not_false, Bool.not_true, Bool.and_self, Bool.true_and, Bool.and_true, Bool.and_false, Bool.false_and]
        replace e0 : A_.tmps[86]?.getD undef = .bool ((decide (cx ≤ 0) && decide (cz ≤ 0))) := e0.trans (wantV_pos (by simp only [hc, Bool.not_false, Bool.not_true, Bool.and_self, Bool.true_and, Bool.and_true, Bool.and_false, Bool.false_and]))
        rcases Bool.eq_false_or_eq_true ((decide (cx ≤ 0) && decide (cz ≤ 0))) with hq | hq
        · replace e0 : A_.tmps[86]?.getD undef = .bool true := e0.trans (congrArg Value.bool hq)
          replace e1 : A_.tmps[88]?.getD undef = .bool (decide (0 < cw)) := e1.trans (wantV_pos (by simp only [hc, hq, Bool.not_false, Bool.not_true, Bool.and_self, Bool.true_and, Bool.and_true, Bool.and_false, Bool.false_and]))
          go_simp
          exact hK _ _ (Below.refl _ _) ((wantV_eq eo (congrArg Value.bool (and_t hq).symm)))
        · replace e0 : A_.tmps[86]?.getD undef = .bool false := e0.trans (congrArg Value.bool hq)
          replace e1 : A_.tmps[88]?.getD undef = undef := e1.trans (wantV_neg (by simp only [hc, hq, Bool.not_false, Bool.not_true, Bool.and_self, Bool.true_and, Bool.and_true, Bool.and_false, Bool.false_and]))
          go_simp
          exact hK _ _ (Below.refl _ _) ((wantV_eq eo (congrArg Value.bool (and_f hq).symm)))
      · exact hK _ _ (Below.refl _ _) (show undef = wantV (!(false || ((cx == 0) != (a.toList == b.toList)))) (.bool (((decide (cx ≤ 0) && decide (cz ≤ 0)) && decide (0 < cw)))) from (wantV_neg hn).symm)
    · have e0 : A_.tmps[79]?.getD undef = .bool ((false || ((cx == 0) != (a.toList == b.toList)))) := hr 79 (by kernel_rfl)
      have e1 : A_.tmps[89]?.getD undef = wantV (!(false || ((cx == 0) != (a.toList == b.toList)))) (.bool (((decide (cx ≤ 0) && decide (cz ≤ 0)) && decide (0 < cw)))) := hr 89 (by kernel_rfl)
      clear hb hr
      rcases Bool.eq_false_or_eq_true ((false || ((cx == 0) != (a.toList == b.toList)))) with hq | hq
      · replace e0 : A_.tmps[79]?.getD undef = .bool true := e0.trans (congrArg Value.bool hq)
        replace e1 : A_.tmps[89]?.getD undef = undef := e1.trans (wantV_neg (by simp only [hq, Bool.not_false, Bool.not_true, Bool.and_self, Bool.true_and, Bool.and_true, Bool.and_false, Bool.false_and]))
        go_simp
        exact hK _ _ (Below.refl _ _) (congrArg Value.bool (or_t hq).symm)
      · replace e0 : A_.tmps[79]?.getD undef = .bool false := e0.trans (congrArg Value.bool hq)
        replace e1 : A_.tmps[89]?.getD undef = .bool (((decide (cx ≤ 0) && decide (cz ≤ 0)) && decide (0 < cw))) := e1.trans (wantV_pos (by simp only [hq, Bool.not_false, Bool.not_true, Bool.and_self, Bool.true_and, Bool.and_true, Bool.and_false, Bool.false_and]))
        go_simp
        exact hK _ _ (Below.refl _ _) (congrArg Value.bool (or_f hq).symm)
    · have e0 : A_.tmps[90]?.getD undef = .bool (((false || ((cx == 0) != (a.toList == b.toList))) || ((decide (cx ≤ 0) && decide (cz ≤ 0)) && decide (0 < cw)))) := hr 90 (by kernel_rfl)
      clear hb hr
      go_simp
      exact hK _ _ (Below.refl _ _) (rfl)
    · have eG : A_.tmps[91]?.getD undef = .bool (((false || ((cx == 0) != (a.toList == b.toList))) || ((decide (cx ≤ 0) && decide (cz ≤ 0)) && decide (0 < cw)))) := hr 91 (by kernel_rfl)
      have e0 : A_.tmps[7]?.getD undef = .int .i64 (cx) := hb 7 (by kernel_rfl)
      clear hb hr
      refine guard_f rfl (by kernel_rfl) eG (fun hc => ?_) (fun hn => ?_)
      · clear eG
        have eo : (!((false || ((cx == 0) != (a.toList == b.toList))) || ((decide (cx ≤ 0) && decide (cz ≤ 0)) && decide (0 < cw)))) = true := by simp only [hc, Bool.not_false, Bool.not_true, Bool.and_self, Bool.true_and, Bool.and_true, Bool.and_false, Bool.false_and]
        go_simp
        exact hK _ _ (Below.refl _ _) (wantV_eq eo rfl)
      · exact hK _ _ (Below.refl _ _) (show undef = wantV (!((false || ((cx == 0) != (a.toList == b.toList))) || ((decide (cx ≤ 0) && decide (cz ≤ 0)) && decide (0 < cw)))) (.int .i64 (cx)) from (wantV_neg hn).symm)
    · have eG : A_.tmps[91]?.getD undef = .bool (((false || ((cx == 0) != (a.toList == b.toList))) || ((decide (cx ≤ 0) && decide (cz ≤ 0)) && decide (0 < cw)))) := hr 91 (by kernel_rfl)
      have e0 : A_.tmps[92]?.getD undef = wantV (!((false || ((cx == 0) != (a.toList == b.toList))) || ((decide (cx ≤ 0) && decide (cz ≤ 0)) && decide (0 < cw)))) (.int .i64 (cx)) := hr 92 (by kernel_rfl)
      clear hb hr
      refine guard_f rfl (by kernel_rfl) eG (fun hc => ?_) (fun hn => ?_)
      · clear eG
        have eo : (!((false || ((cx == 0) != (a.toList == b.toList))) || ((decide (cx ≤ 0) && decide (cz ≤ 0)) && decide (0 < cw)))) = true := by simp only [hc, Bool.not_false, Bool.not_true, Bool.and_self, Bool.true_and, Bool.and_true, Bool.and_false, Bool.false_and]
        replace e0 : A_.tmps[92]?.getD undef = .int .i64 (cx) := e0.trans (wantV_pos (by simp only [hc, Bool.not_false, Bool.not_true, Bool.and_self, Bool.true_and, Bool.and_true, Bool.and_false, Bool.false_and]))
        go_simp
        exact hK _ _ (Below.refl _ _) (wantV_eq eo rfl)
      · exact hK _ _ (Below.refl _ _) (show undef = wantV (!((false || ((cx == 0) != (a.toList == b.toList))) || ((decide (cx ≤ 0) && decide (cz ≤ 0)) && decide (0 < cw)))) (.bool (decide (0 ≤ cx))) from (wantV_neg hn).symm)
    · have eG : A_.tmps[91]?.getD undef = .bool (((false || ((cx == 0) != (a.toList == b.toList))) || ((decide (cx ≤ 0) && decide (cz ≤ 0)) && decide (0 < cw)))) := hr 91 (by kernel_rfl)
      have e0 : A_.tmps[93]?.getD undef = wantV (!((false || ((cx == 0) != (a.toList == b.toList))) || ((decide (cx ≤ 0) && decide (cz ≤ 0)) && decide (0 < cw)))) (.bool (decide (0 ≤ cx))) := hr 93 (by kernel_rfl)
      clear hb hr
      refine guard_f rfl (by kernel_rfl) eG (fun hc => ?_) (fun hn => ?_)
      · clear eG
        have eo : (!((false || ((cx == 0) != (a.toList == b.toList))) || ((decide (cx ≤ 0) && decide (cz ≤ 0)) && decide (0 < cw)))) = true := by simp only [hc, Bool.not_false, Bool.not_true, Bool.and_self, Bool.true_and, Bool.and_true, Bool.and_false, Bool.false_and]
        replace e0 : A_.tmps[93]?.getD undef = .bool (decide (0 ≤ cx)) := e0.trans (wantV_pos (by simp only [hc, Bool.not_false, Bool.not_true, Bool.and_self, Bool.true_and, Bool.and_true, Bool.and_false, Bool.false_and]))
        go_simp
        exact hK _ _ (Below.refl _ _) (wantV_eq eo rfl)
      · exact hK _ _ (Below.refl _ _) (show undef = wantV (!((false || ((cx == 0) != (a.toList == b.toList))) || ((decide (cx ≤ 0) && decide (cz ≤ 0)) && decide (0 < cw)))) (.bool (decide (0 ≤ cx))) from (wantV_neg hn).symm)
    · have eG : A_.tmps[94]?.getD undef = wantV (!((false || ((cx == 0) != (a.toList == b.toList))) || ((decide (cx ≤ 0) && decide (cz ≤ 0)) && decide (0 < cw)))) (.bool (decide (0 ≤ cx))) := hr 94 (by kernel_rfl)
      have e0 : A_.tmps[11]?.getD undef = .int .i64 (cz) := hb 11 (by kernel_rfl)
      clear hb hr
      refine guard_tt rfl (by kernel_rfl) eG (fun hp hc => ?_) (fun hn => ?_)
      · clear eG
        have eo : ((!((false || ((cx == 0) != (a.toList == b.toList))) || ((decide (cx ≤ 0) && decide (cz ≤ 0)) && decide (0 < cw))) && decide (0 ≤ cx))) = true := by simp only [hp, hc, Bool.not_false, Bool.not_true, Bool.and_self, Bool.true_and, Bool.and_true, Bool.and_false, Bool.false_and]
        go_simp
        exact hK _ _ (Below.refl _ _) (wantV_eq eo rfl)
      · exact hK _ _ (Below.refl _ _) (show undef = wantV ((!((false || ((cx == 0) != (a.toList == b.toList))) || ((decide (cx ≤ 0) && decide (cz ≤ 0)) && decide (0 < cw))) && decide (0 ≤ cx))) (.int .i64 (cz)) from (wantV_neg hn).symm)
    · have eG : A_.tmps[94]?.getD undef = wantV (!((false || ((cx == 0) != (a.toList == b.toList))) || ((decide (cx ≤ 0) && decide (cz ≤ 0)) && decide (0 < cw)))) (.bool (decide (0 ≤ cx))) := hr 94 (by kernel_rfl)
      have e0 : A_.tmps[95]?.getD undef = wantV ((!((false || ((cx == 0) != (a.toList == b.toList))) || ((decide (cx ≤ 0) && decide (cz ≤ 0)) && decide (0 < cw))) && decide (0 ≤ cx))) (.int .i64 (cz)) := hr 95 (by kernel_rfl)
      clear hb hr
      refine guard_tt rfl (by kernel_rfl) eG (fun hp hc => ?_) (fun hn => ?_)
      · clear eG
        have eo : ((!((false || ((cx == 0) != (a.toList == b.toList))) || ((decide (cx ≤ 0) && decide (cz ≤ 0)) && decide (0 < cw))) && decide (0 ≤ cx))) = true := by simp only [hp, hc, Bool.not_false, Bool.not_true, Bool.and_self, Bool.true_and, Bool.and_true, Bool.and_false, Bool.false_and]
        replace e0 : A_.tmps[95]?.getD undef = .int .i64 (cz) := e0.trans (wantV_pos (by simp only [hp, hc, Bool.not_false, Bool.not_true, Bool.and_self, Bool.true_and, Bool.and_true, Bool.and_false, Bool.false_and]))
        go_simp
        exact hK _ _ (Below.refl _ _) (wantV_eq eo rfl)
      · exact hK _ _ (Below.refl _ _) (show undef = wantV ((!((false || ((cx == 0) != (a.toList == b.toList))) || ((decide (cx ≤ 0) && decide (cz ≤ 0)) && decide (0 < cw))) && decide (0 ≤ cx))) (.bool (decide (0 ≤ cz))) from (wantV_neg hn).symm)
    · have eG : A_.tmps[91]?.getD undef = .bool (((false || ((cx == 0) != (a.toList == b.toList))) || ((decide (cx ≤ 0) && decide (cz ≤ 0)) && decide (0 < cw)))) := hr 91 (by kernel_rfl)
      have e0 : A_.tmps[94]?.getD undef = wantV (!((false || ((cx == 0) != (a.toList == b.toList))) || ((decide (cx ≤ 0) && decide (cz ≤ 0)) && decide (0 < cw)))) (.bool (decide (0 ≤ cx))) := hr 94 (by kernel_rfl)
      have e1 : A_.tmps[96]?.getD undef = wantV ((!((false || ((cx == 0) != (a.toList == b.toList))) || ((decide (cx ≤ 0) && decide (cz ≤ 0)) && decide (0 < cw))) && decide (0 ≤ cx))) (.bool (decide (0 ≤ cz))) := hr 96 (by kernel_rfl)
      clear hb hr
      refine guard_f rfl (by kernel_rfl) eG (fun hc => ?_) (fun hn => ?_)
      · clear eG
        have eo : (!((false || ((cx == 0) != (a.toList == b.toList))) || ((decide (cx ≤ 0) && decide (cz ≤ 0)) && decide (0 < cw)))) = true := by simp only [hc, Bool.not_false, Bool.not_true, Bool.and_self, Bool.true_and, Bool.and_true, Bool.and_false, Bool.false_and]
        replace e0 : A_.tmps[94]?.getD undef = .bool (decide (0 ≤ cx)) := e0.trans (wantV_pos (by simp only [hc, Bool.not_false, Bool.not_true, Bool.and_self, Bool.true_and, Bool.and_true, Bool.and_false, Bool.false_and]))
        rcases Bool.eq_false_or_eq_true (decide (0 ≤ cx)) with hq | hq
        · replace e0 : A_.tmps[94]?.getD undef = .bool true := e0.trans (congrArg Value.bool hq)
          replace e1 : A_.tmps[96]?.getD undef = .bool (decide (0 ≤ cz)) := e1.trans (wantV_pos (by simp only [hc, hq, Bool.not_false, Bool.not_true, Bool.and_self, Bool.true_and, Bool.and_true, Bool.and_false, Bool.false_and]))
          go_simp
          exact hK _ _ (Below.refl _ _) ((wantV_eq eo (congrArg Value.bool (and_t hq).symm)))
        · replace e0 : A_.tmps[94]?.getD undef = .bool false := e0.trans (congrArg Value.bool hq)
          replace e1 : A_.tmps[96]?.getD undef = undef := e1.trans (wantV_neg (by simp only [hc, hq, Bool.not_false, Bool.not_true, Bool.and_self, Bool.true_and, Bool.and_true, Bool.and_false, Bool.false_and]))
          go_simp
          exact hK _ _ (Below.refl _ _) ((wantV_eq eo (congrArg Value.bool (and_f hq).symm)))
      · exact hK _ _ (Below.refl _ _) (show undef = wantV (!((false || ((cx == 0) != (a.toList == b.toList))) || ((decide (cx ≤ 0) && decide (cz ≤ 0)) && decide (0 < cw)))) (.bool ((decide (0 ≤ cx) && decide (0 ≤ cz)))) from (wantV_neg hn).symm)
    · have eG : A_.tmps[91]?.getD undef = .bool (((false || ((cx == 0) != (a.toList == b.toList))) || ((decide (cx ≤ 0) && decide (cz ≤ 0)) && decide (0 < cw)))) := hr 91 (by kernel_rfl)
      have e0 : A_.tmps[97]?.getD undef = wantV (!((false || ((cx == 0) != (a.toList == b.toList))) || ((decide (cx ≤ 0) && decide (cz ≤ 0)) && decide (0 < cw)))) (.bool ((decide (0 ≤ cx) && decide (0 ≤ cz)))) := hr 97 (by kernel_rfl)
      clear hb hr
      refine guard_f rfl (by kernel_rfl) eG (fun hc => ?_) (fun hn => ?_)
      · clear eG
        have eo : (!((false || ((cx == 0) != (a.toList == b.toList))) || ((decide (cx ≤ 0) && decide (cz ≤ 0)) && decide (0 < cw)))) = true := by simp only [hc, Bool.not_false, Bool.not_true, Bool.and_self, Bool.true_and, Bool.and_true, Bool.and_false, Bool.false_and]
        replace e0 : A_.tmps[97]?.getD undef = .bool ((decide (0 ≤ cx) && decide (0 ≤ cz))) := e0.trans (wantV_pos (by simp only [hc, Bool.not_false, Bool.not_true, Bool.and_self, Bool.true_and, Bool.and_true, Bool.and_false, Bool.false_and]))
        go_simp
        exact hK _ _ (Below.refl _ _) (wantV_eq eo rfl)
      · exact hK _ _ (Below.refl _ _) (show undef = wantV (!((false || ((cx == 0) != (a.toList == b.toList))) || ((decide (cx ≤ 0) && decide (cz ≤ 0)) && decide (0 < cw)))) (.bool ((decide (0 ≤ cx) && decide (0 ≤ cz)))) from (wantV_neg hn).symm)
    · have eG : A_.tmps[98]?.getD undef = wantV (!((false || ((cx == 0) != (a.toList == b.toList))) || ((decide (cx ≤ 0) && decide (cz ≤ 0)) && decide (0 < cw)))) (.bool ((decide (0 ≤ cx) && decide (0 ≤ cz)))) := hr 98 (by kernel_rfl)
      have e0 : A_.tmps[13]?.getD undef = .int .i64 (cw) := hb 13 (by kernel_rfl)
      clear hb hr
      refine guard_tt rfl (by kernel_rfl) eG (fun hp hc => ?_) (fun hn => ?_)
      · clear eG
        have eo : ((!((false || ((cx == 0) != (a.toList == b.toList))) || ((decide (cx ≤ 0) && decide (cz ≤ 0)) && decide (0 < cw))) && (decide (0 ≤ cx) && decide (0 ≤ cz)))) = true := by simp only [hp, hc, Bool.not_false, Bool.not_true, Bool.and_self, Bool.true_and, Bool.and_true, Bool.and_false, Bool.false_and]
        go_simp
        exact hK _ _ (Below.refl _ _) (wantV_eq eo rfl)
      · exact hK _ _ (Below.refl _ _) (show undef = wantV ((!((false || ((cx == 0) != (a.toList == b.toList))) || ((decide (cx ≤ 0) && decide (cz ≤ 0)) && decide (0 < cw))) && (decide (0 ≤ cx) && decide (0 ≤ cz)))) (.int .i64 (cw)) from (wantV_neg hn).symm)
    · have eG : A_.tmps[98]?.getD undef = wantV (!((false || ((cx == 0) != (a.toList == b.toList))) || ((decide (cx ≤ 0) && decide (cz ≤ 0)) && decide (0 < cw)))) (.bool ((decide (0 ≤ cx) && decide (0 ≤ cz)))) := hr 98 (by kernel_rfl)
      have e0 : A_.tmps[99]?.getD undef = wantV ((!((false || ((cx == 0) != (a.toList == b.toList))) || ((decide (cx ≤ 0) && decide (cz ≤ 0)) && decide (0 < cw))) && (decide (0 ≤ cx) && decide (0 ≤ cz)))) (.int .i64 (cw)) := hr 99 (by kernel_rfl)
      clear hb hr
      refine guard_tt rfl (by kernel_rfl) eG (fun hp hc => ?_) (fun hn => ?_)
      · clear eG
        have eo : ((!((false || ((cx == 0) != (a.toList == b.toList))) || ((decide (cx ≤ 0) && decide (cz ≤ 0)) && decide (0 < cw))) && (decide (0 ≤ cx) && decide (0 ≤ cz)))) = true := by simp only [hp, hc, Bool.not_false, Bool.not_true, Bool.and_self, Bool.true_and, Bool.and_true, Bool.and_false, Bool.false_and]
        replace e0 : A_.tmps[99]?.getD undef = .int .i64 (cw) := e0.trans (wantV_pos (by simp only [hp, hc, Bool.not_false, Bool.not_true, Bool.and_self, Bool.true_and, Bool.and_true, Bool.and_false, Bool.false_and]))
        go_simp
        exact hK _ _ (Below.refl _ _) (wantV_eq eo rfl)
      · exact hK _ _ (Below.refl _ _) (show undef = wantV ((!((false || ((cx == 0) != (a.toList == b.toList))) || ((decide (cx ≤ 0) && decide (cz ≤ 0)) && decide (0 < cw))) && (decide (0 ≤ cx) && decide (0 ≤ cz)))) (.bool (decide (cw < 0))) from (wantV_neg hn).symm)
    · have eG : A_.tmps[91]?.getD undef = .bool (((false || ((cx == 0) != (a.toList == b.toList))) || ((decide (cx ≤ 0) && decide (cz ≤ 0)) && decide (0 < cw)))) := hr 91 (by kernel_rfl)
      have e0 : A_.tmps[98]?.getD undef = wantV (!((false || ((cx == 0) != (a.toList == b.toList))) || ((decide (cx ≤ 0) && decide (cz ≤ 0)) && decide (0 < cw)))) (.bool ((decide (0 ≤ cx) && decide (0 ≤ cz)))) := hr 98 (by kernel_rfl)
      have e1 : A_.tmps[100]?.getD undef = wantV ((!((false || ((cx == 0) != (a.toList == b.toList))) || ((decide (cx ≤ 0) && decide (cz ≤ 0)) && decide (0 < cw))) && (decide (0 ≤ cx) && decide (0 ≤ cz)))) (.bool (decide (cw < 0))) := hr 100 (by kernel_rfl)
      clear hb hr
      refine guard_f rfl (by kernel_rfl) eG (fun hc => ?_) (fun hn => ?_)
      · clear eG
        have eo : (!((false || ((cx == 0) != (a.toList == b.toList))) || ((decide (cx ≤ 0) && decide (cz ≤ 0)) && decide (0 < cw)))) = true := by simp only [hc, Bool.not_false, Bool.not_true, Bool.and_self, Bool.true_and, Bool.and_true, Bool.and_false, Bool.false_and]
        replace e0 : A_.tmps[98]?.getD undef = .bool ((decide (0 ≤ cx) && decide (0 ≤ cz))) := e0.trans (wantV_pos (by simp only [hc, Bool.not_false, Bool.not_true, Bool.and_self, Bool.true_and, Bool.and_true, Bool.and_false, Bool.false_and]))
        rcases Bool.eq_false_or_eq_true ((decide (0 ≤ cx) && decide (0 ≤ cz))) with hq | hq
        · replace e0 : A_.tmps[98]?.getD undef = .bool true := e0.trans (congrArg Value.bool hq)
          replace e1 : A_.tmps[100]?.getD undef = .bool (decide (cw < 0)) := e1.trans (wantV_pos (by simp only [hc, hq, Bool.not_false, Bool.not_true, Bool.and_self, Bool.true_and, Bool.and_true, Bool.and_false, Bool.false_and]))
          go_simp
          exact hK _ _ (Below.refl _ _) ((wantV_eq eo (congrArg Value.bool (and_t hq).symm)))
        · replace e0 : A_.tmps[98]?.getD undef = .bool false := e0.trans (congrArg Value.bool hq)
          replace e1 : A_.tmps[100]?.getD undef = undef := e1.trans (wantV_neg (by simp only [hc, hq, Bool.not_false, Bool.not_true, Bool.and_self, Bool.true_and, Bool.and_true, Bool.and_false, Bool.false_and]))
          go_simp
          exact hK _ _ (Below.refl _ _) ((wantV_eq eo (congrArg Value.bool (and_f hq).symm)))
      · exact hK _ _ (Below.refl _ _) (show undef = wantV (!((false || ((cx == 0) != (a.toList == b.toList))) || ((decide (cx ≤ 0) && decide (cz ≤ 0)) && decide (0 < cw)))) (.bool (((decide (0 ≤ cx) && decide (0 ≤ cz)) && decide (cw < 0)))) from (wantV_neg hn).symm)
    · have e0 : A_.tmps[91]?.getD undef = .bool (((false || ((cx == 0) != (a.toList == b.toList))) || ((decide (cx ≤ 0) && decide (cz ≤ 0)) && decide (0 < cw)))) := hr 91 (by kernel_rfl)
      have e1 : A_.tmps[101]?.getD undef = wantV (!((false || ((cx == 0) != (a.toList == b.toList))) || ((decide (cx ≤ 0) && decide (cz ≤ 0)) && decide (0 < cw)))) (.bool (((decide (0 ≤ cx) && decide (0 ≤ cz)) && decide (cw < 0)))) := hr 101 (by kernel_rfl)
      clear hb hr
      rcases Bool.eq_false_or_eq_true (((false || ((cx == 0) != (a.toList == b.toList))) || ((decide (cx ≤ 0) && decide (cz ≤ 0)) && decide (0 < cw)))) with hq | hq
      · replace e0 : A_.tmps[91]?.getD undef = .bool true := e0.trans (congrArg Value.bool hq)
        replace e1 : A_.tmps[101]?.getD undef = undef := e1.trans (wantV_neg (by simp only [hq, Bool.not_false, Bool.not_true, Bool.and_self, Bool.true_and, Bool.and_true, Bool.and_false, Bool.false_and]))
        go_simp
        exact hK _ _ (Below.refl _ _) (congrArg Value.bool (or_t hq).symm)
      · replace e0 : A_.tmps[91]?.getD undef = .bool false := e0.trans (congrArg Value.bool hq)
        replace e1 : A_.tmps[101]?.getD undef = .bool (((decide (0 ≤ cx) && decide (0 ≤ cz)) && decide (cw < 0))) := e1.trans (wantV_pos (by simp only [hq, Bool.not_false, Bool.not_true, Bool.and_self, Bool.true_and, Bool.and_true, Bool.and_false, Bool.false_and]))
        go_simp
        exact hK _ _ (Below.refl _ _) (congrArg Value.bool (or_f hq).symm)
  rintro g8 w8 hb8 ⟨-, -, -, -, -, -, -, -, -, -, -, -, -, -, -, -, -, -, -, -, -, -, -, -, -, -, -, -, -, -, -, -, -, -, -, h102, -⟩
  simp only [List.drop_succ_cons, List.drop_zero, List.take_succ_cons, List.take_zero, putHead, Option.getD_some, Act.put, List.setIfInBounds_toArray, List.set_cons_zero, List.set_cons_succ]
  replace h102 : g8 102 = .bool ((((false || ((cx == 0) != (a.toList == b.toList))) || ((decide (cx ≤ 0) && decide (cz ≤ 0)) && decide (0 < cw))) || ((decide (0 ≤ cx) && decide (0 ≤ cz)) && decide (cw < 0)))) := h102
  rw [T7] at h102
  generalize g8 102 = v102 at *
  subst h102
  have B8 := Lib.hid (bstep B7.out hb8); clear hb8
  clear T7 C1 C2 C3 C4 I1 I2 I3
  go_wp2_with fail
  refine (S1.out _).mono ?_; rintro e w9 ⟨rfl, hb9⟩
  have B9 := Lib.hid (bstep B8.out hb9); clear hb9
  go_wp2_with fail
  rcases Bool.eq_false_or_eq_true (k1 && k2) with hk | hk
  · obtain ⟨rfl, rfl⟩ := (Bool.and_eq_true _ _ ▸ hk : k1 = true ∧ k2 = true)
    replace C5 := Lib.hid (C5.out rfl rfl); clear hk
    refine (S2.out _).mono ?_; rintro e w10 ⟨rfl, hb10⟩
    have B10 := Lib.hid (bstep B9.out hb10); clear hb10
    go_wp2_with fail
    refine (C5.out _).mono ?_; rintro e w11 ⟨rfl, hb11⟩
    have B11 := Lib.hid (bstep B10.out hb11); clear hb11
    go_wp2_with fail
    refine (S3.out _).mono ?_; rintro e w12 ⟨rfl, hb12⟩
    have B12 := Lib.hid (bstep B11.out hb12); clear hb12
    go_wp2_with fail
    refine (M1.out _).mono ?_; rintro e w13 ⟨rfl, hb13⟩
    have B13 := Lib.hid (bstep B12.out hb13); clear hb13
    go_wp2_with fail
    rcases Bool.eq_false_or_eq_true (m1 && m2) with hm | hm
    · obtain ⟨rfl, rfl⟩ := (Bool.and_eq_true _ _ ▸ hm : m1 = true ∧ m2 = true)
      replace C6 := Lib.hid (C6.out rfl rfl); clear hm C5
      refine (M2.out _).mono ?_; rintro e w14 ⟨rfl, hb14⟩
      have B14 := Lib.hid (bstep B13.out hb14); clear hb14
      go_wp2_with fail
      replace C6 : Hid (∀ w, Calls Try.prog 31 #[.string r, .string t] w (OutI w (cx * sg, 0))) := C6.out
      refine (C6.out _).mono ?_; rintro e w15 ⟨rfl, hb15⟩
      have B15 := Lib.hid (bstep B14.out hb15); clear hb15
      simp only []
      repeat (first | with_reducible apply stop_at (r := 20) | go_step)
      apply Lib.hid
      refine region_seq 5 181 [(155, Is (.int .i64 ((cx * sg)))), (156, Is (.int .i64 (cx))), (157, Is (.int .i64 (sg))), (158, Is (.int .i64 ((cx * sg)))), (159, Is (.bool (false)))] rfl (by kernel_rfl) ?_ ?_
      · refine steps_cons rfl (fun A_ W hb hr hg K hK => ?_) <| steps_cons rfl (fun A_ W hb hr hg K hK => ?_) <| steps_cons rfl (fun A_ W hb hr hg K hK => ?_) <| steps_cons rfl (fun A_ W hb hr hg K hK => ?_) <| steps_cons rfl (fun A_ W hb hr hg K hK => ?_) trivial
        · have e0 : A_.tmps[23]?.getD undef = .int .i64 ((cx * sg)) := hb 23 (by kernel_rfl)
          clear hb hr
          go_simp
          exact hK _ _ (Below.refl _ _) (rfl)
        · have e0 : A_.tmps[7]?.getD undef = .int .i64 (cx) := hb 7 (by kernel_rfl)
          clear hb hr
          go_simp
          exact hK _ _ (Below.refl _ _) (rfl)
        · have e0 : A_.tmps[21]?.getD undef = .int .i64 (sg) := hb 21 (by kernel_rfl)
          clear hb hr
          go_simp
          exact hK _ _ (Below.refl _ _) (rfl)
        · have e0 : A_.tmps[156]?.getD undef = .int .i64 (cx) := hr 156 (by kernel_rfl)
          have e1 : A_.tmps[157]?.getD undef = .int .i64 (sg) := hr 157 (by kernel_rfl)
          clear hb hr
          rcases MX.out with ⟨rfl, rfl⟩ | ⟨rfl, rfl⟩ | ⟨rfl, rfl⟩ | ⟨rfl, rfl⟩ | ⟨rfl, rfl⟩ | ⟨rfl, rfl⟩ | ⟨rfl, rfl⟩ | ⟨rfl, rfl⟩ | ⟨rfl, rfl⟩
          · go_simp; exact hK _ _ (Below.refl _ _) (rfl)
          · go_simp; exact hK _ _ (Below.refl _ _) (rfl)
          · go_simp; exact hK _ _ (Below.refl _ _) (rfl)
          · go_simp; exact hK _ _ (Below.refl _ _) (rfl)
          · go_simp; exact hK _ _ (Below.refl _ _) (rfl)
          · go_simp; exact hK _ _ (Below.refl _ _) (rfl)
          · go_simp; exact hK _ _ (Below.refl _ _) (rfl)
          · go_simp; exact hK _ _ (Below.refl _ _) (rfl)
          · go_simp; exact hK _ _ (Below.refl _ _) (rfl)
        · have e0 : A_.tmps[155]?.getD undef = .int .i64 ((cx * sg)) := hr 155 (by kernel_rfl)
          have e1 : A_.tmps[158]?.getD undef = .int .i64 ((cx * sg)) := hr 158 (by kernel_rfl)
          clear hb hr
          go_simp; exact hK _ _ (Below.refl _ _) (rfl)
      rintro g16 w16 hb16 ⟨-, -, -, -, h159, -⟩
      simp only [List.drop_succ_cons, List.drop_zero, List.take_succ_cons, List.take_zero, putHead, Option.getD_some, Act.put, List.setIfInBounds_toArray, List.set_cons_zero, List.set_cons_succ]
      replace h159 : g16 159 = .bool (false) := h159
      generalize g16 159 = v159 at *
      subst h159
      have B16 := Lib.hid (bstep B15.out hb16); clear hb16
      go_wp2_with fail
      rcases VN2.out with ⟨rfl, rfl⟩ | rfl
      · refine (SD.out _).mono ?_; rintro e w17 ⟨rfl, hb17⟩
        have B17 := Lib.hid (bstep B16.out hb17); clear hb17
        go_wp2_with fail
        refine (SN.out _).mono ?_; rintro e w18 ⟨rfl, hb18⟩
        have B18 := Lib.hid (bstep B17.out hb18); clear hb18
        go_wp2_with fail
        refine (AL.out _).mono ?_; rintro e w19 ⟨rfl, hb19⟩
        have B19 := Lib.hid (bstep B18.out hb19); clear hb19
        go_wp2_with fail
        go_ret
        exact ⟨rfl, B19.out⟩
      · refine (SD.out _).mono ?_; rintro e w17 ⟨rfl, hb17⟩
        have B17 := Lib.hid (bstep B16.out hb17); clear hb17
        go_wp2_with fail
        refine (SN.out _).mono ?_; rintro e w18 ⟨rfl, hb18⟩
        have B18 := Lib.hid (bstep B17.out hb18); clear hb18
        go_wp2_with fail
        refine (AL.out _).mono ?_; rintro e w19 ⟨rfl, hb19⟩
        have B19 := Lib.hid (bstep B18.out hb19); clear hb19
        go_wp2_with fail
        go_ret
        exact ⟨rfl, B19.out⟩
    · clear C5 C6
      refine (M2.out _).mono ?_; rintro e w14 ⟨rfl, hb14⟩
      have B14 := Lib.hid (bstep B13.out hb14); clear hb14
      simp only []
      repeat (first | with_reducible apply stop_at (r := 18) | go_step)
      apply Lib.hid
      refine region_seq 4 181 [(145, Is (.bool (m1))), (146, Is (.bool (m1))), (147, Is (wantV (m1) (.bool (m2)))), (148, Is (.bool ((m1 && m2))))] rfl (by kernel_rfl) ?_ ?_
      · refine steps_cons rfl (fun A_ W hb hr hg K hK => ?_) <| steps_cons rfl (fun A_ W hb hr hg K hK => ?_) <| steps_guard (fun A_ W hb hr hg K hK => ?_) <| steps_cons rfl (fun A_ W hb hr hg K hK => ?_) trivial
        · have e0 : A_.tmps[16]?.getD undef = .bool (m1) := hb 16 (by kernel_rfl)
          clear hb hr
          go_simp
          exact hK _ _ (Below.refl _ _) (rfl)
        · have e0 : A_.tmps[145]?.getD undef = .bool (m1) := hr 145 (by kernel_rfl)
          clear hb hr
          go_simp
          exact hK _ _ (Below.refl _ _) (rfl)
        · have eG : A_.tmps[146]?.getD undef = .bool (m1) := hr 146 (by kernel_rfl)
          have e0 : A_.tmps[18]?.getD undef = .bool (m2) := hb 18 (by kernel_rfl)
          clear hb hr
          refine guard_t rfl (by kernel_rfl) eG (fun hc => ?_) (fun hn => ?_)
          · clear eG
            have eo : (m1) = true := by simp only [hc, Bool.not_false, Bool.not_true, Bool.and_self, Bool.true_and, Bool.and_true, Bool.and_false, Bool.false_and]
            go_simp
            exact hK _ _ (Below.refl _ _) (wantV_eq eo rfl)
          · exact hK _ _ (Below.refl _ _) (show undef = wantV (m1) (.bool (m2)) from (wantV_neg hn).symm)
        · have e0 : A_.tmps[146]?.getD undef = .bool (m1) := hr 146 (by kernel_rfl)
          have e1 : A_.tmps[147]?.getD undef = wantV (m1) (.bool (m2)) := hr 147 (by kernel_rfl)
          clear hb hr
          rcases Bool.eq_false_or_eq_true (m1) with hq | hq
          · replace e0 : A_.tmps[146]?.getD undef = .bool true := e0.trans (congrArg Value.bool hq)
            replace e1 : A_.tmps[147]?.getD undef = .bool (m2) := e1.trans (wantV_pos (by simp only [hq, Bool.not_false, Bool.not_true, Bool.and_self, Bool.true_and, Bool.and_true, Bool.and_false, Bool.false_and]))
            go_simp
            exact hK _ _ (Below.refl _ _) (congrArg Value.bool (and_t hq).symm)
          · replace e0 : A_.tmps[146]?.getD undef = .bool false := e0.trans (congrArg Value.bool hq)
            replace e1 : A_.tmps[147]?.getD undef = undef := e1.trans (wantV_neg (by simp only [hq, Bool.not_false, Bool.not_true, Bool.and_self, Bool.true_and, Bool.and_true, Bool.and_false, Bool.false_and]))
            go_simp
            exact hK _ _ (Below.refl _ _) (congrArg Value.bool (and_f hq).symm)
      rintro g15 w15 hb15 ⟨-, -, -, h148, -⟩
      simp only [List.drop_succ_cons, List.drop_zero, List.take_succ_cons, List.take_zero, putHead, Option.getD_some, Act.put, List.setIfInBounds_toArray, List.set_cons_zero, List.set_cons_succ]
      replace h148 : g15 148 = .bool ((m1 && m2)) := h148
      rw [hm] at h148
      generalize g15 148 = v148 at *
      subst h148
      have B15 := Lib.hid (bstep B14.out hb15); clear hb15
      clear hm
      go_wp2_with fail
      rcases VN2.out with ⟨rfl, rfl⟩ | rfl
      · refine (SD.out _).mono ?_; rintro e w16 ⟨rfl, hb16⟩
        have B16 := Lib.hid (bstep B15.out hb16); clear hb16
        go_wp2_with fail
        refine (SN.out _).mono ?_; rintro e w17 ⟨rfl, hb17⟩
        have B17 := Lib.hid (bstep B16.out hb17); clear hb17
        go_wp2_with fail
        refine (AL.out _).mono ?_; rintro e w18 ⟨rfl, hb18⟩
        have B18 := Lib.hid (bstep B17.out hb18); clear hb18
        go_wp2_with fail
        go_ret
        exact ⟨rfl, B18.out⟩
      · refine (SD.out _).mono ?_; rintro e w16 ⟨rfl, hb16⟩
        have B16 := Lib.hid (bstep B15.out hb16); clear hb16
        go_wp2_with fail
        refine (SN.out _).mono ?_; rintro e w17 ⟨rfl, hb17⟩
        have B17 := Lib.hid (bstep B16.out hb17); clear hb17
        go_wp2_with fail
        refine (AL.out _).mono ?_; rintro e w18 ⟨rfl, hb18⟩
        have B18 := Lib.hid (bstep B17.out hb18); clear hb18
        go_wp2_with fail
        go_ret
        exact ⟨rfl, B18.out⟩
  · refine (S2.out _).mono ?_; rintro e w10 ⟨rfl, hb10⟩
    have B10 := Lib.hid (bstep B9.out hb10); clear hb10
    simp only []
    repeat (first | with_reducible apply stop_at (r := 11) | go_step)
    apply Lib.hid
    refine region_seq 4 181 [(115, Is (.bool (k1))), (116, Is (.bool (k1))), (117, Is (wantV (k1) (.bool (k2)))), (118, Is (.bool ((k1 && k2))))] rfl (by kernel_rfl) ?_ ?_
    · refine steps_cons rfl (fun A_ W hb hr hg K hK => ?_) <| steps_cons rfl (fun A_ W hb hr hg K hK => ?_) <| steps_guard (fun A_ W hb hr hg K hK => ?_) <| steps_cons rfl (fun A_ W hb hr hg K hK => ?_) trivial
      · have e0 : A_.tmps[16]?.getD undef = .bool (k1) := hb 16 (by kernel_rfl)
        clear hb hr
        go_simp
        exact hK _ _ (Below.refl _ _) (rfl)
      · have e0 : A_.tmps[115]?.getD undef = .bool (k1) := hr 115 (by kernel_rfl)
        clear hb hr
        go_simp
        exact hK _ _ (Below.refl _ _) (rfl)
      · have eG : A_.tmps[116]?.getD undef = .bool (k1) := hr 116 (by kernel_rfl)
        have e0 : A_.tmps[18]?.getD undef = .bool (k2) := hb 18 (by kernel_rfl)
        clear hb hr
        refine guard_t rfl (by kernel_rfl) eG (fun hc => ?_) (fun hn => ?_)
        · clear eG
          have eo : (k1) = true := by simp only [hc, Bool.not_false, Bool.not_true, Bool.and_self, Bool.true_and, Bool.and_true, Bool.and_false, Bool.false_and]
          go_simp
          exact hK _ _ (Below.refl _ _) (wantV_eq eo rfl)
        · exact hK _ _ (Below.refl _ _) (show undef = wantV (k1) (.bool (k2)) from (wantV_neg hn).symm)
      · have e0 : A_.tmps[116]?.getD undef = .bool (k1) := hr 116 (by kernel_rfl)
        have e1 : A_.tmps[117]?.getD undef = wantV (k1) (.bool (k2)) := hr 117 (by kernel_rfl)
        clear hb hr
        rcases Bool.eq_false_or_eq_true (k1) with hq | hq
        · replace e0 : A_.tmps[116]?.getD undef = .bool true := e0.trans (congrArg Value.bool hq)
          replace e1 : A_.tmps[117]?.getD undef = .bool (k2) := e1.trans (wantV_pos (by simp only [hq, Bool.not_false, Bool.not_true, Bool.and_self, Bool.true_and, Bool.and_true, Bool.and_false, Bool.false_and]))
          go_simp
          exact hK _ _ (Below.refl _ _) (congrArg Value.bool (and_t hq).symm)
        · replace e0 : A_.tmps[116]?.getD undef = .bool false := e0.trans (congrArg Value.bool hq)
          replace e1 : A_.tmps[117]?.getD undef = undef := e1.trans (wantV_neg (by simp only [hq, Bool.not_false, Bool.not_true, Bool.and_self, Bool.true_and, Bool.and_true, Bool.and_false, Bool.false_and]))
          go_simp
          exact hK _ _ (Below.refl _ _) (congrArg Value.bool (and_f hq).symm)
    rintro g11 w11 hb11 ⟨-, -, -, h118, -⟩
    simp only [List.drop_succ_cons, List.drop_zero, List.take_succ_cons, List.take_zero, putHead, Option.getD_some, Act.put, List.setIfInBounds_toArray, List.set_cons_zero, List.set_cons_succ]
    replace h118 : g11 118 = .bool ((k1 && k2)) := h118
    rw [hk] at h118
    generalize g11 118 = v118 at *
    subst h118
    have B11 := Lib.hid (bstep B10.out hb11); clear hb11
    clear hk
    go_wp2_with fail
    refine (S3.out _).mono ?_; rintro e w12 ⟨rfl, hb12⟩
    have B12 := Lib.hid (bstep B11.out hb12); clear hb12
    go_wp2_with fail
    refine (M1.out _).mono ?_; rintro e w13 ⟨rfl, hb13⟩
    have B13 := Lib.hid (bstep B12.out hb13); clear hb13
    go_wp2_with fail
    rcases Bool.eq_false_or_eq_true (m1 && m2) with hm | hm
    · obtain ⟨rfl, rfl⟩ := (Bool.and_eq_true _ _ ▸ hm : m1 = true ∧ m2 = true)
      replace C6 := Lib.hid (C6.out rfl rfl); clear hm C5
      refine (M2.out _).mono ?_; rintro e w14 ⟨rfl, hb14⟩
      have B14 := Lib.hid (bstep B13.out hb14); clear hb14
      go_wp2_with fail
      replace C6 : Hid (∀ w, Calls Try.prog 31 #[.string r, .string t] w (OutI w (cx * sg, 0))) := C6.out
      refine (C6.out _).mono ?_; rintro e w15 ⟨rfl, hb15⟩
      have B15 := Lib.hid (bstep B14.out hb15); clear hb15
      simp only []
      repeat (first | with_reducible apply stop_at (r := 20) | go_step)
      apply Lib.hid
      refine region_seq 5 181 [(155, Is (.int .i64 ((cx * sg)))), (156, Is (.int .i64 (cx))), (157, Is (.int .i64 (sg))), (158, Is (.int .i64 ((cx * sg)))), (159, Is (.bool (false)))] rfl (by kernel_rfl) ?_ ?_
      · refine steps_cons rfl (fun A_ W hb hr hg K hK => ?_) <| steps_cons rfl (fun A_ W hb hr hg K hK => ?_) <| steps_cons rfl (fun A_ W hb hr hg K hK => ?_) <| steps_cons rfl (fun A_ W hb hr hg K hK => ?_) <| steps_cons rfl (fun A_ W hb hr hg K hK => ?_) trivial
        · have e0 : A_.tmps[23]?.getD undef = .int .i64 ((cx * sg)) := hb 23 (by kernel_rfl)
          clear hb hr
          go_simp
          exact hK _ _ (Below.refl _ _) (rfl)
        · have e0 : A_.tmps[7]?.getD undef = .int .i64 (cx) := hb 7 (by kernel_rfl)
          clear hb hr
          go_simp
          exact hK _ _ (Below.refl _ _) (rfl)
        · have e0 : A_.tmps[21]?.getD undef = .int .i64 (sg) := hb 21 (by kernel_rfl)
          clear hb hr
          go_simp
          exact hK _ _ (Below.refl _ _) (rfl)
        · have e0 : A_.tmps[156]?.getD undef = .int .i64 (cx) := hr 156 (by kernel_rfl)
          have e1 : A_.tmps[157]?.getD undef = .int .i64 (sg) := hr 157 (by kernel_rfl)
          clear hb hr
          rcases MX.out with ⟨rfl, rfl⟩ | ⟨rfl, rfl⟩ | ⟨rfl, rfl⟩ | ⟨rfl, rfl⟩ | ⟨rfl, rfl⟩ | ⟨rfl, rfl⟩ | ⟨rfl, rfl⟩ | ⟨rfl, rfl⟩ | ⟨rfl, rfl⟩
          · go_simp; exact hK _ _ (Below.refl _ _) (rfl)
          · go_simp; exact hK _ _ (Below.refl _ _) (rfl)
          · go_simp; exact hK _ _ (Below.refl _ _) (rfl)
          · go_simp; exact hK _ _ (Below.refl _ _) (rfl)
          · go_simp; exact hK _ _ (Below.refl _ _) (rfl)
          · go_simp; exact hK _ _ (Below.refl _ _) (rfl)
          · go_simp; exact hK _ _ (Below.refl _ _) (rfl)
          · go_simp; exact hK _ _ (Below.refl _ _) (rfl)
          · go_simp; exact hK _ _ (Below.refl _ _) (rfl)
        · have e0 : A_.tmps[155]?.getD undef = .int .i64 ((cx * sg)) := hr 155 (by kernel_rfl)
          have e1 : A_.tmps[158]?.getD undef = .int .i64 ((cx * sg)) := hr 158 (by kernel_rfl)
          clear hb hr
          go_simp; exact hK _ _ (Below.refl _ _) (rfl)
      rintro g16 w16 hb16 ⟨-, -, -, -, h159, -⟩
      simp only [List.drop_succ_cons, List.drop_zero, List.take_succ_cons, List.take_zero, putHead, Option.getD_some, Act.put, List.setIfInBounds_toArray, List.set_cons_zero, List.set_cons_succ]
      replace h159 : g16 159 = .bool (false) := h159
      generalize g16 159 = v159 at *
      subst h159
      have B16 := Lib.hid (bstep B15.out hb16); clear hb16
      go_wp2_with fail
      rcases VN2.out with ⟨rfl, rfl⟩ | rfl
      · refine (SD.out _).mono ?_; rintro e w17 ⟨rfl, hb17⟩
        have B17 := Lib.hid (bstep B16.out hb17); clear hb17
        go_wp2_with fail
        refine (SN.out _).mono ?_; rintro e w18 ⟨rfl, hb18⟩
        have B18 := Lib.hid (bstep B17.out hb18); clear hb18
        go_wp2_with fail
        refine (AL.out _).mono ?_; rintro e w19 ⟨rfl, hb19⟩
        have B19 := Lib.hid (bstep B18.out hb19); clear hb19
        go_wp2_with fail
        go_ret
        exact ⟨rfl, B19.out⟩
      · refine (SD.out _).mono ?_; rintro e w17 ⟨rfl, hb17⟩
        have B17 := Lib.hid (bstep B16.out hb17); clear hb17
        go_wp2_with fail
        refine (SN.out _).mono ?_; rintro e w18 ⟨rfl, hb18⟩
        have B18 := Lib.hid (bstep B17.out hb18); clear hb18
        go_wp2_with fail
        refine (AL.out _).mono ?_; rintro e w19 ⟨rfl, hb19⟩
        have B19 := Lib.hid (bstep B18.out hb19); clear hb19
        go_wp2_with fail
        go_ret
        exact ⟨rfl, B19.out⟩
    · clear C5 C6
      refine (M2.out _).mono ?_; rintro e w14 ⟨rfl, hb14⟩
      have B14 := Lib.hid (bstep B13.out hb14); clear hb14
      simp only []
      repeat (first | with_reducible apply stop_at (r := 18) | go_step)
      apply Lib.hid
      refine region_seq 4 181 [(145, Is (.bool (m1))), (146, Is (.bool (m1))), (147, Is (wantV (m1) (.bool (m2)))), (148, Is (.bool ((m1 && m2))))] rfl (by kernel_rfl) ?_ ?_
      · refine steps_cons rfl (fun A_ W hb hr hg K hK => ?_) <| steps_cons rfl (fun A_ W hb hr hg K hK => ?_) <| steps_guard (fun A_ W hb hr hg K hK => ?_) <| steps_cons rfl (fun A_ W hb hr hg K hK => ?_) trivial
        · have e0 : A_.tmps[16]?.getD undef = .bool (m1) := hb 16 (by kernel_rfl)
          clear hb hr
          go_simp
          exact hK _ _ (Below.refl _ _) (rfl)
        · have e0 : A_.tmps[145]?.getD undef = .bool (m1) := hr 145 (by kernel_rfl)
          clear hb hr
          go_simp
          exact hK _ _ (Below.refl _ _) (rfl)
        · have eG : A_.tmps[146]?.getD undef = .bool (m1) := hr 146 (by kernel_rfl)
          have e0 : A_.tmps[18]?.getD undef = .bool (m2) := hb 18 (by kernel_rfl)
          clear hb hr
          refine guard_t rfl (by kernel_rfl) eG (fun hc => ?_) (fun hn => ?_)
          · clear eG
            have eo : (m1) = true := by simp only [hc, Bool.not_false, Bool.not_true, Bool.and_self, Bool.true_and, Bool.and_true, Bool.and_false, Bool.false_and]
            go_simp
            exact hK _ _ (Below.refl _ _) (wantV_eq eo rfl)
          · exact hK _ _ (Below.refl _ _) (show undef = wantV (m1) (.bool (m2)) from (wantV_neg hn).symm)
        · have e0 : A_.tmps[146]?.getD undef = .bool (m1) := hr 146 (by kernel_rfl)
          have e1 : A_.tmps[147]?.getD undef = wantV (m1) (.bool (m2)) := hr 147 (by kernel_rfl)
          clear hb hr
          rcases Bool.eq_false_or_eq_true (m1) with hq | hq
          · replace e0 : A_.tmps[146]?.getD undef = .bool true := e0.trans (congrArg Value.bool hq)
            replace e1 : A_.tmps[147]?.getD undef = .bool (m2) := e1.trans (wantV_pos (by simp only [hq, Bool.not_false, Bool.not_true, Bool.and_self, Bool.true_and, Bool.and_true, Bool.and_false, Bool.false_and]))
            go_simp
            exact hK _ _ (Below.refl _ _) (congrArg Value.bool (and_t hq).symm)
          · replace e0 : A_.tmps[146]?.getD undef = .bool false := e0.trans (congrArg Value.bool hq)
            replace e1 : A_.tmps[147]?.getD undef = undef := e1.trans (wantV_neg (by simp only [hq, Bool.not_false, Bool.not_true, Bool.and_self, Bool.true_and, Bool.and_true, Bool.and_false, Bool.false_and]))
            go_simp
            exact hK _ _ (Below.refl _ _) (congrArg Value.bool (and_f hq).symm)
      rintro g15 w15 hb15 ⟨-, -, -, h148, -⟩
      simp only [List.drop_succ_cons, List.drop_zero, List.take_succ_cons, List.take_zero, putHead, Option.getD_some, Act.put, List.setIfInBounds_toArray, List.set_cons_zero, List.set_cons_succ]
      replace h148 : g15 148 = .bool ((m1 && m2)) := h148
      rw [hm] at h148
      generalize g15 148 = v148 at *
      subst h148
      have B15 := Lib.hid (bstep B14.out hb15); clear hb15
      clear hm
      go_wp2_with fail
      rcases VN2.out with ⟨rfl, rfl⟩ | rfl
      · refine (SD.out _).mono ?_; rintro e w16 ⟨rfl, hb16⟩
        have B16 := Lib.hid (bstep B15.out hb16); clear hb16
        go_wp2_with fail
        refine (SN.out _).mono ?_; rintro e w17 ⟨rfl, hb17⟩
        have B17 := Lib.hid (bstep B16.out hb17); clear hb17
        go_wp2_with fail
        refine (AL.out _).mono ?_; rintro e w18 ⟨rfl, hb18⟩
        have B18 := Lib.hid (bstep B17.out hb18); clear hb18
        go_wp2_with fail
        go_ret
        exact ⟨rfl, B18.out⟩
      · refine (SD.out _).mono ?_; rintro e w16 ⟨rfl, hb16⟩
        have B16 := Lib.hid (bstep B15.out hb16); clear hb16
        go_wp2_with fail
        refine (SN.out _).mono ?_; rintro e w17 ⟨rfl, hb17⟩
        have B17 := Lib.hid (bstep B16.out hb17); clear hb17
        go_wp2_with fail
        refine (AL.out _).mono ?_; rintro e w18 ⟨rfl, hb18⟩
        have B18 := Lib.hid (bstep B17.out hb18); clear hb18
        go_wp2_with fail
        go_ret
        exact ⟨rfl, B18.out⟩


set_option maxHeartbeats 4000000 in
set_option maxRecDepth 100000 in
theorem order_any (w : World) (a b c : ByteArray) (ha : a.size ≤ 140737488355328) (hb : b.size ≤ 140737488355328) (hc : c.size ≤ 140737488355328) : Calls Try.prog 10 #[.string a, .string b, .string c] w (TrueB w) := by
  have AL : Hid (∀ w, Calls Try.prog 20 #[] w fun e w' => e = .returned (.bool true) ∧ Below w.heap.size w w') := alive_any
  have Ha := Lib.hid ha; have Hb := Lib.hid hb; have Hc := Lib.hid hc
  clear ha hb hc
  cases i1 : isB a
  · go_enter Try.func10, Try.ntmps10
    have I1 : Hid (∀ w, Calls Try.prog 18 #[.string a] w fun e w' => e = .returned (.bool false) ∧ Below w.heap.size w w') := fun w => by have := is_any w a Ha.out; rwa [show (readQ a.data.toList).isSome = false from i1] at this
    clear i1 Ha Hb Hc
    go_wp2_with fail
    refine (I1.out _).mono ?_; rintro e w1 ⟨rfl, hb1⟩
    have B1 := Lib.hid hb1; clear hb1
    go_wp2_with fail
    refine (AL.out _).mono ?_; rintro e w2 ⟨rfl, hb2⟩
    have B2 := Lib.hid (bstep B1.out hb2); clear hb2
    go_wp2_with fail
    go_ret
    exact ⟨rfl, B2.out⟩
  · cases i2 : isB b
    · go_enter Try.func10, Try.ntmps10
      have I1 : Hid (∀ w, Calls Try.prog 18 #[.string a] w fun e w' => e = .returned (.bool true) ∧ Below w.heap.size w w') := fun w => by have := is_any w a Ha.out; rwa [show (readQ a.data.toList).isSome = true from i1] at this
      have I2 : Hid (∀ w, Calls Try.prog 18 #[.string b] w fun e w' => e = .returned (.bool false) ∧ Below w.heap.size w w') := fun w => by have := is_any w b Hb.out; rwa [show (readQ b.data.toList).isSome = false from i2] at this
      clear i1 i2 Ha Hb Hc
      go_wp2_with fail
      refine (I1.out _).mono ?_; rintro e w1 ⟨rfl, hb1⟩
      have B1 := Lib.hid hb1; clear hb1
      go_wp2_with fail
      refine (I2.out _).mono ?_; rintro e w2 ⟨rfl, hb2⟩
      have B2 := Lib.hid (bstep B1.out hb2); clear hb2
      go_wp2_with fail
      refine (AL.out _).mono ?_; rintro e w3 ⟨rfl, hb3⟩
      have B3 := Lib.hid (bstep B2.out hb3); clear hb3
      go_wp2_with fail
      go_ret
      exact ⟨rfl, B3.out⟩
    · cases i3 : isB c
      · go_enter Try.func10, Try.ntmps10
        have I1 : Hid (∀ w, Calls Try.prog 18 #[.string a] w fun e w' => e = .returned (.bool true) ∧ Below w.heap.size w w') := fun w => by have := is_any w a Ha.out; rwa [show (readQ a.data.toList).isSome = true from i1] at this
        have I2 : Hid (∀ w, Calls Try.prog 18 #[.string b] w fun e w' => e = .returned (.bool true) ∧ Below w.heap.size w w') := fun w => by have := is_any w b Hb.out; rwa [show (readQ b.data.toList).isSome = true from i2] at this
        have I3 : Hid (∀ w, Calls Try.prog 18 #[.string c] w fun e w' => e = .returned (.bool false) ∧ Below w.heap.size w w') := fun w => by have := is_any w c Hc.out; rwa [show (readQ c.data.toList).isSome = false from i3] at this
        clear i1 i2 i3 Ha Hb Hc
        go_wp2_with fail
        refine (I1.out _).mono ?_; rintro e w1 ⟨rfl, hb1⟩
        have B1 := Lib.hid hb1; clear hb1
        go_wp2_with fail
        refine (I2.out _).mono ?_; rintro e w2 ⟨rfl, hb2⟩
        have B2 := Lib.hid (bstep B1.out hb2); clear hb2
        go_wp2_with fail
        refine (I3.out _).mono ?_; rintro e w3 ⟨rfl, hb3⟩
        have B3 := Lib.hid (bstep B2.out hb3); clear hb3
        go_wp2_with fail
        refine (AL.out _).mono ?_; rintro e w4 ⟨rfl, hb4⟩
        have B4 := Lib.hid (bstep B3.out hb4); clear hb4
        go_wp2_with fail
        go_ret
        exact ⟨rfl, B4.out⟩
      · exact order_all w a b c Ha.out Hb.out Hc.out ⟨i1, i2, i3⟩
end Go.Proofs.Ytlkdahgfnfdakaa

namespace Go.Proofs.Ytlkdahgfnfdakaa
open Go.ChangeShapes Go.WideShapes Go.ChangeAt Go.RowKit
open Go.ChangeMaps (open_string shut_string)

set_option maxRecDepth 100000 in
theorem order_lifted (os : Os) (started : os.Started) (H : Type) (enc : TypeId × Value → H) :
    ReturnsInHanded {} Try.checked os 10 .any (Rows.ratOrderSpec.pre6 enc Try.prog Try.f10 Rows.ratOrderRow.domain false) (Rows.ratOrderSpec.post enc Try.prog Try.f10 false true false false) := by
  refine returnsInHanded_of_change_sized (C := Try.checked) Try.own started (by kernel_rfl) Try.func10
    (ChangeSpec.witness6 (enc := enc) (C := Try.checked) false ⟨#[], #[.string ⟨#[]⟩, .string ⟨#[]⟩, .string ⟨#[]⟩], []⟩ 8 (by kernel_rfl) (by kernel_rfl) (by kernel_rfl) (by kernel_rfl)) ?_
  intro W base args ds gs before hval0 hW hcnd hsz0 _
  have hsz : (DataW.weightsEach Try.prog (Try.f10.params.toList ++ Rows.ratOrderSpec.plain.varTypes Try.prog) (ds ++ gs)).all (· ≤ reachBytes) = true := hsz0
  clear hsz0
  have hval : ∀ (j : Nat) t v, Try.f10.params[j]? = some t → args[j]? = some v → Value.okWide Try.prog W .any base t v := hval0
  have hW1 := hW
  obtain ⟨p, q, hA0, hV, rfl, hfz, hnd⟩ := hW
  have hA : DataW.TrodAll enc Try.prog W 0 (fun _ => true) true Try.f10.params.toList args.toList ds p := hA0
  rw [Try.params10] at hA hval hsz
  obtain ⟨v0, v1, v2, d0, d1, d2, p0, p1, p2, rfl, rfl, rfl, h0, h1, h2⟩ := trodAll_three hA
  obtain ⟨rfl, rfl⟩ := trodVars_none hV
  obtain ⟨a, rfl, rfl, rfl, wa⟩ := open_string Try.underlying9 (hval 0 9 v0 rfl rfl) h0
  obtain ⟨b, rfl, rfl, rfl, wb⟩ := open_string Try.underlying9 (hval 1 9 v1 rfl rfl) h1
  obtain ⟨c, rfl, rfl, rfl, wc⟩ := open_string Try.underlying9 (hval 2 9 v2 rfl rfl) h2
  clear hA0 hval0
  simp only [List.append_nil] at hW1
  have sa : a.size ≤ 140737488355328 := size_of (sized_string hsz (j := 0) (t := 9) rfl rfl)
  have sb : b.size ≤ 140737488355328 := size_of (sized_string hsz (j := 1) (t := 9) rfl rfl)
  have sc : c.size ≤ 140737488355328 := size_of (sized_string hsz (j := 2) (t := 9) rfl rfl)
  refine (order_any W a b c sa sb sc).mono fun e W1 ⟨he, hw⟩ => ?_
  subst he
  exact ⟨_, rfl, post_new hW1 hw (fun _ _ _ => trodAll_mk1 (shut_bool Try.underlying4 true)) (fun _ => trodAll_mk3 (shut_string Try.underlying9 wa) (shut_string Try.underlying9 wb) (shut_string Try.underlying9 wc)) (fun _ => rfl)
    (ok_one (by kernel_rfl) rfl (okWide_bool_mk Try.underlying4 true))⟩

theorem order_holds : Rows.RatOrderSaid :=
  OpenClaim.holds_of_wide 10 Try.f10 rfl rfl rfl rfl rfl rfl rfl ⟨rfl, rfl, rfl, rfl, rfl⟩ rfl rfl rfl rfl rfl (by kernel_rfl) Try.func10 (by kernel_rfl)
    (of_decide_eq_true (by kernel_rfl)) (by unfold Func.isWrapper; first | (rw [if_pos (by decide +kernel)]; kernel_rfl) | (rw [if_neg (by decide +kernel)]; exact ⟨rfl, rfl⟩))
    (fun os started H enc _ => order_lifted os started H enc)
end Go.Proofs.Ytlkdahgfnfdakaa
