/- RatPowers: whatever text and whatever exponents it is given, it returns true, and the arguments read as they did. No condition. -/
import Derived.Test.YtlkdahgfnfdakaaLawL
namespace Go.Proofs.Ytlkdahgfnfdakaa
open Go Go.RowKit Go.Shelf WN LM

set_option maxHeartbeats 8000000 in
set_option maxRecDepth 100000 in
theorem powers_all (w : World) (a : ByteArray) (n m : Int) (ha : a.size ≤ 140737488355328) (hall : isB a = true) (hr : -50 ≤ n ∧ n ≤ 50 ∧ -50 ≤ m ∧ m ≤ 50) : Calls Try.prog 12 #[.string a, .int .i64 n, .int .i64 m] w (TrueB w) := by
  have AL : Hid (∀ w, Calls Try.prog 20 #[] w fun e w' => e = .returned (.bool true) ∧ Below w.heap.size w w') := alive_any
  have PR : Hid (∀ w a b, a.size ≤ 140737488355328 → b.size ≤ 140737488355328 → Calls Try.prog 53 #[.string a, .string b] w (OutP w (okS (mulT a b)))) := fun w a b h k => product_law w a b h k
  have HA := Lib.hid ha
  obtain ⟨n1, n2, m1, m2⟩ := hr
  have tn1 : decide (n < -50) = false := decide_eq_false (by omega)
  have tn2 : decide (50 < n) = false := decide_eq_false (by omega)
  have tm1 : decide (m < -50) = false := decide_eq_false (by omega)
  have tm2 : decide (50 < m) = false := decide_eq_false (by omega)
  go_enter Try.func12, Try.ntmps12
  obtain ⟨x, hx⟩ := isV_of (show (readQ a.data.toList).isSome = true from hall)
  have X := Lib.hid hx; clear hx
  have I1 : Hid (∀ w, Calls Try.prog 18 #[.string a] w fun e w' => e = .returned (.bool true) ∧ Below w.heap.size w w') := fun w => by have := is_any w a ha; rwa [show (readQ a.data.toList).isSome = true from hall] at this
  have NM : Hid (-100 ≤ n + m ∧ n + m ≤ 100) := by show _ ∧ _; omega
  have P1 : Hid (∀ w, Calls Try.prog 37 #[.string a, .int .i64 n] w (OutS w (powT a n))) := fun w => pow_any w a n ha
  have P2 : Hid (∀ w, Calls Try.prog 37 #[.string a, .int .i64 m] w (OutS w (powT a m))) := fun w => pow_any w a m ha
  have P3 : Hid (∀ w, Calls Try.prog 37 #[.string a, .int .i64 (n + m)] w (OutS w (powT a (n + m)))) := fun w => pow_any w a (n + m) ha
  have P4 : Hid (∀ w, Calls Try.prog 37 #[.string a, .int .i64 1] w (OutS w (a, 0))) := fun w => by have := pow_any w a 1 ha; rwa [powT_one X.out] at this
  have P5 : Hid (∀ w, Calls Try.prog 37 #[.string a, .int .i64 0] w (OutS w (⟨#[49]⟩, 0))) := fun w => by have := pow_any w a 0 ha; rwa [powT_zero X.out] at this
  have V1 := Lib.hid (powT_isV (n := n) X.out (by omega) (by omega))
  have V2 := Lib.hid (powT_isV (n := m) X.out (by omega) (by omega))
  have V3 := Lib.hid (powT_isV (n := n + m) X.out (by omega) (by omega))
  have Z1 : Hid ((powT a n).1.size ≤ 1000) := powT_size a n
  have Z2 : Hid ((powT a m).1.size ≤ 1000) := powT_size a m
  have AZ : (a.toList == ({ data := #[48] } : ByteArray).toList) = (cmpR x 0 == 0) := toList_eqv X.out isV_zero
  have AZ2 : (cmpR x 0 == 0) = decide (x = 0) := by
    by_cases h : x = 0
    · rw [cmpR_zero.2 h, decide_eq_true h]; rfl
    · rw [beq_false_of_ne (fun k => h (cmpR_zero.1 k)), decide_eq_false h]
  have E12 : ((powT a n).2 == 12) = (decide (x = 0) && decide (n < 0)) := by
    by_cases h : (powT a n).2 = 12
    · rw [h, decide_eq_true (V1.out.1.1 h).1, decide_eq_true (V1.out.1.1 h).2]; rfl
    · rw [beq_false_of_ne h]
      symm
      rw [Bool.and_eq_false_iff]
      by_cases hx : x = 0
      · right; exact decide_eq_false fun k => h (V1.out.1.2 ⟨k, hx⟩)
      · left; exact decide_eq_false hx
  rw [← AZ2, ← AZ] at E12
  have T8 : Hid ((powT a n).2 = 0 → (powT a m).2 = 0 → (powT a (n + m)).2 = 0 → ((okS (mulT (powT a n).1 (powT a m).1)).2 && (!((okS (mulT (powT a n).1 (powT a m).1)).1.toList == (powT a (n + m)).1.toList))) = false) := fun h1 h2 h3 => by
    cases hk : (okS (mulT (powT a n).1 (powT a m).1)).2
    · rfl
    · have v := mulT_isV (V1.out.2 h1) (V2.out.2 h2) (by simpa [okS] using hk)
      rw [pow_add (fun k => by have := V1.out.1.2 k; omega) (fun k => by have := V2.out.1.2 k; omega)] at v
      have := v.inj (V3.out.2 h3)
      show (true && (!((mulT (powT a n).1 (powT a m).1).1.toList == (powT a (n + m)).1.toList))) = false
      rw [this]; simp
  clear V1 V2 V3 AZ AZ2 X hall ha
  have M : Hid (∀ w, Calls Try.prog 53 #[.string (powT a n).1, .string (powT a m).1] w (OutP w (okS (mulT (powT a n).1 (powT a m).1)))) := fun w => PR.out w (powT a n).1 (powT a m).1 (Nat.le_trans Z1.out (by omega)) (Nat.le_trans Z2.out (by omega))
  generalize okS (mulT (powT a n).1 (powT a m).1) = q_ at *; obtain ⟨q, k⟩ := q_
  clear PR Z1 Z2
  generalize powT a n = r_ at *; obtain ⟨pn, ec⟩ := r_
  generalize powT a m = r_ at *; obtain ⟨pm, fc⟩ := r_
  generalize powT a (n + m) = r_ at *; obtain ⟨ps, gc⟩ := r_
  replace E12 : (ec == 12) = ((a.toList == ({ data := #[48] } : ByteArray).toList) && decide (n < 0)) := E12
  generalize hz0 : (a.toList == ({ data := #[48] } : ByteArray).toList) = az at *
  have HZ0 : Hid ((a.toList == [48]) = az) := by
    show _ = _
    have e : ({ data := #[48] } : ByteArray).toList = [48] := ByteArray.toList_mk [48]
    rw [← hz0, e]
  clear hz0
  replace T8 : Hid (ec = 0 → fc = 0 → gc = 0 → (k && (!(q.toList == ps.toList))) = false) := T8
  replace M : Hid (∀ w, Calls Try.prog 53 #[.string pn, .string pm] w (OutP w (q, k))) := M
  have T12 : Hid ((((ec == 12) == (az && decide (n < 0)))) = true) := by show _ = _; rw [E12]; simp
  have hw : wrap64 (n + m) = n + m := by unfold wrap64; omega
  clear E12 n1 n2 m1 m2
  go_wp2_with fail
  refine (I1.out _).mono ?_; rintro e w1 ⟨rfl, hb1⟩
  have B1 := Lib.hid hb1; clear hb1
  go_wp2_with fail
  refine (P1.out _).mono ?_; rintro e w2 ⟨rfl, hb2⟩
  have B2 := Lib.hid (bstep B1.out hb2); clear hb2
  go_wp2_with fail
  refine (P2.out _).mono ?_; rintro e w3 ⟨rfl, hb3⟩
  have B3 := Lib.hid (bstep B2.out hb3); clear hb3
  go_wp2_with fail
  clear tn1 tn2 tm1 tm2 I1 P1 P2
  rcases Bool.eq_false_or_eq_true (((ec == 0) && (fc == 0)) && (gc == 0)) with hk | hk
  · have hk0 := hk
    simp only [Bool.and_eq_true, beq_iff_eq] at hk0
    obtain ⟨⟨rfl, rfl⟩, rfl⟩ := hk0
    replace T8 := T8.out rfl rfl rfl
    clear hk
    have T13 : Hid ((!az || !decide (n < 0)) = true) := by
      show _ = _
      have h : (false == (az && decide (n < 0))) = true := T12.out
      revert h; cases az <;> cases decide (n < 0) <;> simp
    refine (P3.out _).mono ?_; rintro e w4 ⟨rfl, hb4⟩
    have B4 := Lib.hid (bstep B3.out hb4); clear hb4
    go_wp2_with fail
    refine (M.out _).mono ?_; rintro e w5 ⟨rfl, hb5⟩
    have B5 := Lib.hid (bstep B4.out hb5); clear hb5
    have H_T8 := Lib.hid T8; clear T8
    simp only []
    repeat (first | with_reducible apply stop_at (r := 8) | go_step)
    apply Lib.hid
    refine region_seq 17 131 [(75, Is (.bool (k))), (76, Is (.bool (k))), (77, Is (wantV (k) (.string q))), (78, Is (wantV (k) (.string ps))), (79, Is (wantV (k) (.bool ((!(q.toList == ps.toList)))))), (80, Is (.bool (false))), (81, Is (.bool (false))), (82, Is (undef)), (83, Is (undef)), (84, Is (undef)), (85, Is (undef)), (86, Is (undef)), (87, Is (undef)), (88, Is (undef)), (89, Is (undef)), (90, Is (undef)), (91, Is (.bool (false)))] rfl (by kernel_rfl) ?_ ?_
    · refine steps_cons rfl (fun A_ W hb hr hg K hK => ?_) <| steps_cons rfl (fun A_ W hb hr hg K hK => ?_) <| steps_guard (fun A_ W hb hr hg K hK => ?_) <| steps_guard (fun A_ W hb hr hg K hK => ?_) <| steps_guard (fun A_ W hb hr hg K hK => ?_) <| steps_cons rfl (fun A_ W hb hr hg K hK => ?_) <| steps_cons rfl (fun A_ W hb hr hg K hK => ?_) <| steps_guard (fun A_ W hb hr hg K hK => ?_) <| steps_guard (fun A_ W hb hr hg K hK => ?_) <| steps_guard (fun A_ W hb hr hg K hK => ?_) <| steps_guard (fun A_ W hb hr hg K hK => ?_) <| steps_guard (fun A_ W hb hr hg K hK => ?_) <| steps_guard (fun A_ W hb hr hg K hK => ?_) <| steps_guard (fun A_ W hb hr hg K hK => ?_) <| steps_guard (fun A_ W hb hr hg K hK => ?_) <| steps_guard (fun A_ W hb hr hg K hK => ?_) <| steps_cons rfl (fun A_ W hb hr hg K hK => ?_) trivial
      · have e0 : A_.tmps[14]?.getD undef = .bool (k) := hb 14 (by kernel_rfl)
        clear hb hr
        go_simp
        exact hK _ _ (Below.refl _ _) (rfl)
      · have e0 : A_.tmps[75]?.getD undef = .bool (k) := hr 75 (by kernel_rfl)
        clear hb hr
        go_simp
        exact hK _ _ (Below.refl _ _) (rfl)
      · have eG : A_.tmps[76]?.getD undef = .bool (k) := hr 76 (by kernel_rfl)
        have e0 : A_.tmps[13]?.getD undef = .string q := hb 13 (by kernel_rfl)
        clear hb hr
        refine guard_t rfl (by kernel_rfl) eG (fun hc => ?_) (fun hn => ?_)
        · clear eG
          have eo : (k) = true := by simp only [hc, Bool.not_false, Bool.not_true, Bool.and_self, Bool.true_and, Bool.and_true, Bool.and_false, Bool.false_and]
          go_simp
          exact hK _ _ (Below.refl _ _) (wantV_eq eo (rfl))
        · exact hK _ _ (Below.refl _ _) (show undef = wantV (k) (.string q) from (wantV_neg hn).symm)
      · have eG : A_.tmps[76]?.getD undef = .bool (k) := hr 76 (by kernel_rfl)
        have e0 : A_.tmps[11]?.getD undef = .string ps := hb 11 (by kernel_rfl)
        clear hb hr
        refine guard_t rfl (by kernel_rfl) eG (fun hc => ?_) (fun hn => ?_)
        · clear eG
          have eo : (k) = true := by simp only [hc, Bool.not_false, Bool.not_true, Bool.and_self, Bool.true_and, Bool.and_true, Bool.and_false, Bool.false_and]
          go_simp
          exact hK _ _ (Below.refl _ _) (wantV_eq eo (rfl))
        · exact hK _ _ (Below.refl _ _) (show undef = wantV (k) (.string ps) from (wantV_neg hn).symm)
      · have eG : A_.tmps[76]?.getD undef = .bool (k) := hr 76 (by kernel_rfl)
        have e0 : A_.tmps[77]?.getD undef = wantV (k) (.string q) := hr 77 (by kernel_rfl)
        have e1 : A_.tmps[78]?.getD undef = wantV (k) (.string ps) := hr 78 (by kernel_rfl)
        clear hb hr
        refine guard_t rfl (by kernel_rfl) eG (fun hc => ?_) (fun hn => ?_)
        · clear eG
          have eo : (k) = true := by simp only [hc, Bool.not_false, Bool.not_true, Bool.and_self, Bool.true_and, Bool.and_true, Bool.and_false, Bool.false_and]
          replace e0 : A_.tmps[77]?.getD undef = .string q := e0.trans (wantV_pos (by simp only [hc, Bool.not_false, Bool.not_true, Bool.and_self, Bool.true_and, Bool.and_true, Bool.and_false, Bool.false_and]))
          replace e1 : A_.tmps[78]?.getD undef = .string ps := e1.trans (wantV_pos (by simp only [hc, Bool.not_false, Bool.not_true, Bool.and_self, Bool.true_and, Bool.and_true, Bool.and_false, Bool.false_and]))
          go_simp
          exact hK _ _ (Below.refl _ _) (wantV_eq eo (rfl))
        · exact hK _ _ (Below.refl _ _) (show undef = wantV (k) (.bool ((!(q.toList == ps.toList)))) from (wantV_neg hn).symm)
      · have e0 : A_.tmps[76]?.getD undef = .bool (k) := hr 76 (by kernel_rfl)
        have e1 : A_.tmps[79]?.getD undef = wantV (k) (.bool ((!(q.toList == ps.toList)))) := hr 79 (by kernel_rfl)
        clear hb hr
        rcases Bool.eq_false_or_eq_true (k) with hq | hq
        · replace e0 : A_.tmps[76]?.getD undef = .bool true := e0.trans (congrArg Value.bool hq)
          replace e1 : A_.tmps[79]?.getD undef = .bool ((!(q.toList == ps.toList))) := e1.trans (wantV_pos (by simp only [hq, Bool.not_false, Bool.not_true, Bool.and_self, Bool.true_and, Bool.and_true, Bool.and_false, Bool.false_and]))
          go_simp
          exact hK _ _ (Below.refl _ _) (Eq.trans (show _ = Value.bool ((k && (!(q.toList == ps.toList)))) from congrArg Value.bool (and_t hq).symm) (congrArg Value.bool H_T8.out))
        · replace e0 : A_.tmps[76]?.getD undef = .bool false := e0.trans (congrArg Value.bool hq)
          replace e1 : A_.tmps[79]?.getD undef = undef := e1.trans (wantV_neg (by simp only [hq, Bool.not_false, Bool.not_true, Bool.and_self, Bool.true_and, Bool.and_true, Bool.and_false, Bool.false_and]))
          go_simp
          exact hK _ _ (Below.refl _ _) (Eq.trans (show _ = Value.bool ((k && (!(q.toList == ps.toList)))) from congrArg Value.bool (and_f hq).symm) (congrArg Value.bool H_T8.out))
      · have e0 : A_.tmps[80]?.getD undef = .bool (false) := hr 80 (by kernel_rfl)
        clear hb hr
        go_simp
        exact hK _ _ (Below.refl _ _) (rfl)
      · have eG : A_.tmps[81]?.getD undef = .bool (false) := hr 81 (by kernel_rfl)
        clear hb hr
        exact guard_off rfl (by kernel_rfl) eG (by decide) (hK _ _ (Below.refl _ _) rfl)
      · have eG : A_.tmps[81]?.getD undef = .bool (false) := hr 81 (by kernel_rfl)
        clear hb hr
        exact guard_off rfl (by kernel_rfl) eG (by decide) (hK _ _ (Below.refl _ _) rfl)
      · have eG : A_.tmps[81]?.getD undef = .bool (false) := hr 81 (by kernel_rfl)
        clear hb hr
        exact guard_off rfl (by kernel_rfl) eG (by decide) (hK _ _ (Below.refl _ _) rfl)
      · have eG : A_.tmps[84]?.getD undef = undef := hr 84 (by kernel_rfl)
        clear hb hr
        exact guard_none rfl (by kernel_rfl) eG (hK _ _ (Below.refl _ _) rfl)
      · have eG : A_.tmps[84]?.getD undef = undef := hr 84 (by kernel_rfl)
        clear hb hr
        exact guard_none rfl (by kernel_rfl) eG (hK _ _ (Below.refl _ _) rfl)
      · have eG : A_.tmps[84]?.getD undef = undef := hr 84 (by kernel_rfl)
        clear hb hr
        exact guard_none rfl (by kernel_rfl) eG (hK _ _ (Below.refl _ _) rfl)
      · have eG : A_.tmps[84]?.getD undef = undef := hr 84 (by kernel_rfl)
        clear hb hr
        exact guard_none rfl (by kernel_rfl) eG (hK _ _ (Below.refl _ _) rfl)
      · have eG : A_.tmps[81]?.getD undef = .bool (false) := hr 81 (by kernel_rfl)
        clear hb hr
        exact guard_off rfl (by kernel_rfl) eG (by decide) (hK _ _ (Below.refl _ _) rfl)
      · have eG : A_.tmps[81]?.getD undef = .bool (false) := hr 81 (by kernel_rfl)
        clear hb hr
        exact guard_off rfl (by kernel_rfl) eG (by decide) (hK _ _ (Below.refl _ _) rfl)
      · have e0 : A_.tmps[81]?.getD undef = .bool (false) := hr 81 (by kernel_rfl)
        have e1 : A_.tmps[90]?.getD undef = undef := hr 90 (by kernel_rfl)
        clear hb hr
        go_simp
        exact hK _ _ (Below.refl _ _) (rfl)
    rintro g6 w6 hb6 ⟨-, -, -, -, -, -, -, -, -, -, -, -, -, -, -, -, h91, -⟩
    simp only [List.drop_succ_cons, List.drop_zero, List.take_succ_cons, List.take_zero, putHead, Option.getD_some, Act.put, List.setIfInBounds_toArray, List.set_cons_zero, List.set_cons_succ]
    replace h91 : g6 91 = .bool (false) := h91
    generalize g6 91 = v91 at *
    subst h91
    have B6 := Lib.hid (bstep B5.out hb6); clear hb6
    go_wp2_with fail
    refine (P4.out _).mono ?_; rintro e w7 ⟨rfl, hb7⟩
    have B7 := Lib.hid (bstep B6.out hb7); clear hb7
    go_wp2_with fail
    refine (P5.out _).mono ?_; rintro e w8 ⟨rfl, hb8⟩
    have B8 := Lib.hid (bstep B7.out hb8); clear hb8
    simp only []
    repeat (first | with_reducible apply stop_at (r := 12) | go_step)
    apply Lib.hid
    refine region_seq 30 131 [(102, Is (.string a)), (103, Is (.string a)), (104, Is (.bool (true))), (105, Is (.bool (true))), (106, Is (.int .i64 (0))), (107, Is (.bool (true))), (108, Is (.bool (true))), (109, Is (.bool (true))), (110, Is (.string ⟨#[49]⟩)), (111, Is (.bool (true))), (112, Is (.bool (true))), (113, Is (.bool (true))), (114, Is (.int .i64 (0))), (115, Is (.bool (true))), (116, Is (.bool (true))), (117, Is (.bool (true))), (118, Is (.int .i64 (0))), (119, Is (.bool (false))), (120, Is (.string a)), (121, Is (.bool (az))), (122, Is (.bool (az))), (123, Is (wantV (az) (.int .i64 (n)))), (124, Is (wantV (az) (.bool (decide (n < 0))))), (125, Is (.bool ((az && decide (n < 0))))), (126, Is (.bool (true))), (127, Is (.bool (true))), (128, Is (.bool (true))), (129, Is (.bool (true))), (130, Is (.bool (true))), (6, Is (.bool (true)))] rfl (by kernel_rfl) ?_ ?_
    · refine steps_cons rfl (fun A_ W hb hr hg K hK => ?_) <| steps_cons rfl (fun A_ W hb hr hg K hK => ?_) <| steps_cons rfl (fun A_ W hb hr hg K hK => ?_) <| steps_cons rfl (fun A_ W hb hr hg K hK => ?_) <| steps_guard (fun A_ W hb hr hg K hK => ?_) <| steps_guard (fun A_ W hb hr hg K hK => ?_) <| steps_cons rfl (fun A_ W hb hr hg K hK => ?_) <| steps_cons rfl (fun A_ W hb hr hg K hK => ?_) <| steps_guard (fun A_ W hb hr hg K hK => ?_) <| steps_guard (fun A_ W hb hr hg K hK => ?_) <| steps_cons rfl (fun A_ W hb hr hg K hK => ?_) <| steps_cons rfl (fun A_ W hb hr hg K hK => ?_) <| steps_guard (fun A_ W hb hr hg K hK => ?_) <| steps_guard (fun A_ W hb hr hg K hK => ?_) <| steps_cons rfl (fun A_ W hb hr hg K hK => ?_) <| steps_cons rfl (fun A_ W hb hr hg K hK => ?_) <| steps_guard (fun A_ W hb hr hg K hK => ?_) <| steps_guard (fun A_ W hb hr hg K hK => ?_) <| steps_guard (fun A_ W hb hr hg K hK => ?_) <| steps_guard (fun A_ W hb hr hg K hK => ?_) <| steps_guard (fun A_ W hb hr hg K hK => ?_) <| steps_guard (fun A_ W hb hr hg K hK => ?_) <| steps_guard (fun A_ W hb hr hg K hK => ?_) <| steps_guard (fun A_ W hb hr hg K hK => ?_) <| steps_guard (fun A_ W hb hr hg K hK => ?_) <| steps_cons rfl (fun A_ W hb hr hg K hK => ?_) <| steps_cons rfl (fun A_ W hb hr hg K hK => ?_) <| steps_guard (fun A_ W hb hr hg K hK => ?_) <| steps_cons rfl (fun A_ W hb hr hg K hK => ?_) <| steps_cons rfl (fun A_ W hb hr hg K hK => ?_) trivial
      · have e0 : A_.tmps[15]?.getD undef = .string a := hb 15 (by kernel_rfl)
        clear hb hr
        go_simp
        exact hK _ _ (Below.refl _ _) (rfl)
      · have e0 : A_.tmps[0]?.getD undef = .string a := hb 0 (by kernel_rfl)
        clear hb hr
        go_simp
        exact hK _ _ (Below.refl _ _) (rfl)
      · have e0 : A_.tmps[102]?.getD undef = .string a := hr 102 (by kernel_rfl)
        have e1 : A_.tmps[103]?.getD undef = .string a := hr 103 (by kernel_rfl)
        clear hb hr
        go_simp; exact hK _ _ (Below.refl _ _) (rfl)
      · have e0 : A_.tmps[104]?.getD undef = .bool (true) := hr 104 (by kernel_rfl)
        clear hb hr
        go_simp
        exact hK _ _ (Below.refl _ _) (rfl)
      · have eG : A_.tmps[105]?.getD undef = .bool (true) := hr 105 (by kernel_rfl)
        have e0 : A_.tmps[16]?.getD undef = .int .i64 (0) := hb 16 (by kernel_rfl)
        clear hb hr
        refine guard_on rfl (by kernel_rfl) eG ?_
        clear eG
        go_simp
        exact hK _ _ (Below.refl _ _) (rfl)
      · have eG : A_.tmps[105]?.getD undef = .bool (true) := hr 105 (by kernel_rfl)
        have e0 : A_.tmps[106]?.getD undef = .int .i64 (0) := hr 106 (by kernel_rfl)
        clear hb hr
        refine guard_on rfl (by kernel_rfl) eG ?_
        clear eG
        go_simp
        exact hK _ _ (Below.refl _ _) (rfl)
      · have e0 : A_.tmps[105]?.getD undef = .bool (true) := hr 105 (by kernel_rfl)
        have e1 : A_.tmps[107]?.getD undef = .bool (true) := hr 107 (by kernel_rfl)
        clear hb hr
        go_simp
        exact hK _ _ (Below.refl _ _) (rfl)
      · have e0 : A_.tmps[108]?.getD undef = .bool (true) := hr 108 (by kernel_rfl)
        clear hb hr
        go_simp
        exact hK _ _ (Below.refl _ _) (rfl)
      · have eG : A_.tmps[109]?.getD undef = .bool (true) := hr 109 (by kernel_rfl)
        have e0 : A_.tmps[17]?.getD undef = .string ⟨#[49]⟩ := hb 17 (by kernel_rfl)
        clear hb hr
        refine guard_on rfl (by kernel_rfl) eG ?_
        clear eG
        go_simp
        exact hK _ _ (Below.refl _ _) (rfl)
      · have eG : A_.tmps[109]?.getD undef = .bool (true) := hr 109 (by kernel_rfl)
        have e0 : A_.tmps[110]?.getD undef = .string ⟨#[49]⟩ := hr 110 (by kernel_rfl)
        clear hb hr
        refine guard_on rfl (by kernel_rfl) eG ?_
        clear eG
        go_simp; exact hK _ _ (Below.refl _ _) (rfl)
      · have e0 : A_.tmps[109]?.getD undef = .bool (true) := hr 109 (by kernel_rfl)
        have e1 : A_.tmps[111]?.getD undef = .bool (true) := hr 111 (by kernel_rfl)
        clear hb hr
        go_simp
        exact hK _ _ (Below.refl _ _) (rfl)
      · have e0 : A_.tmps[112]?.getD undef = .bool (true) := hr 112 (by kernel_rfl)
        clear hb hr
        go_simp
        exact hK _ _ (Below.refl _ _) (rfl)
      · have eG : A_.tmps[113]?.getD undef = .bool (true) := hr 113 (by kernel_rfl)
        have e0 : A_.tmps[18]?.getD undef = .int .i64 (0) := hb 18 (by kernel_rfl)
        clear hb hr
        refine guard_on rfl (by kernel_rfl) eG ?_
        clear eG
        go_simp
        exact hK _ _ (Below.refl _ _) (rfl)
      · have eG : A_.tmps[113]?.getD undef = .bool (true) := hr 113 (by kernel_rfl)
        have e0 : A_.tmps[114]?.getD undef = .int .i64 (0) := hr 114 (by kernel_rfl)
        clear hb hr
        refine guard_on rfl (by kernel_rfl) eG ?_
        clear eG
        go_simp
        exact hK _ _ (Below.refl _ _) (rfl)
      · have e0 : A_.tmps[113]?.getD undef = .bool (true) := hr 113 (by kernel_rfl)
        have e1 : A_.tmps[115]?.getD undef = .bool (true) := hr 115 (by kernel_rfl)
        clear hb hr
        go_simp
        exact hK _ _ (Below.refl _ _) (rfl)
      · have e0 : A_.tmps[116]?.getD undef = .bool (true) := hr 116 (by kernel_rfl)
        clear hb hr
        go_simp
        exact hK _ _ (Below.refl _ _) (rfl)
      · have eG : A_.tmps[117]?.getD undef = .bool (true) := hr 117 (by kernel_rfl)
        have e0 : A_.tmps[8]?.getD undef = .int .i64 (0) := hb 8 (by kernel_rfl)
        clear hb hr
        refine guard_on rfl (by kernel_rfl) eG ?_
        clear eG
        go_simp
        exact hK _ _ (Below.refl _ _) (rfl)
      · have eG : A_.tmps[117]?.getD undef = .bool (true) := hr 117 (by kernel_rfl)
        have e0 : A_.tmps[118]?.getD undef = .int .i64 (0) := hr 118 (by kernel_rfl)
        clear hb hr
        refine guard_on rfl (by kernel_rfl) eG ?_
        clear eG
        go_simp
        exact hK _ _ (Below.refl _ _) (rfl)
      · have eG : A_.tmps[117]?.getD undef = .bool (true) := hr 117 (by kernel_rfl)
        have e0 : A_.tmps[0]?.getD undef = .string a := hb 0 (by kernel_rfl)
        clear hb hr
        refine guard_on rfl (by kernel_rfl) eG ?_
        clear eG
        go_simp
        exact hK _ _ (Below.refl _ _) (rfl)
      · have eG : A_.tmps[117]?.getD undef = .bool (true) := hr 117 (by kernel_rfl)
        have e0 : A_.tmps[120]?.getD undef = .string a := hr 120 (by kernel_rfl)
        clear hb hr
        refine guard_on rfl (by kernel_rfl) eG ?_
        clear eG
        go_simp; exact hK _ _ (Below.refl _ _) (congrArg Value.bool HZ0.out)
      · have eG : A_.tmps[117]?.getD undef = .bool (true) := hr 117 (by kernel_rfl)
        have e0 : A_.tmps[121]?.getD undef = .bool (az) := hr 121 (by kernel_rfl)
        clear hb hr
        refine guard_on rfl (by kernel_rfl) eG ?_
        clear eG
        go_simp
        exact hK _ _ (Below.refl _ _) (rfl)
      · have eG : A_.tmps[122]?.getD undef = .bool (az) := hr 122 (by kernel_rfl)
        have e0 : A_.tmps[1]?.getD undef = .int .i64 (n) := hb 1 (by kernel_rfl)
        clear hb hr
        refine guard_t rfl (by kernel_rfl) eG (fun hc => ?_) (fun hn => ?_)
        · clear eG
          have eo : (az) = true := by simp only [hc, Bool.not_false, Bool.not_true, Bool.and_self, Bool.true_and, Bool.and_true, Bool.and_false, Bool.false_and]
          go_simp
          exact hK _ _ (Below.refl _ _) (wantV_eq eo (rfl))
        · exact hK _ _ (Below.refl _ _) (show undef = wantV (az) (.int .i64 (n)) from (wantV_neg hn).symm)
      · have eG : A_.tmps[122]?.getD undef = .bool (az) := hr 122 (by kernel_rfl)
        have e0 : A_.tmps[123]?.getD undef = wantV (az) (.int .i64 (n)) := hr 123 (by kernel_rfl)
        clear hb hr
        refine guard_t rfl (by kernel_rfl) eG (fun hc => ?_) (fun hn => ?_)
        · clear eG
          have eo : (az) = true := by simp only [hc, Bool.not_false, Bool.not_true, Bool.and_self, Bool.true_and, Bool.and_true, Bool.and_false, Bool.false_and]
          replace e0 : A_.tmps[123]?.getD undef = .int .i64 (n) := e0.trans (wantV_pos (by simp only [hc, Bool.not_false, Bool.not_true, Bool.and_self, Bool.true_and, Bool.and_true, Bool.and_false, Bool.false_and]))
          go_simp
          exact hK _ _ (Below.refl _ _) (wantV_eq eo (rfl))
        · exact hK _ _ (Below.refl _ _) (show undef = wantV (az) (.bool (decide (n < 0))) from (wantV_neg hn).symm)
      · have eG : A_.tmps[117]?.getD undef = .bool (true) := hr 117 (by kernel_rfl)
        have e0 : A_.tmps[122]?.getD undef = .bool (az) := hr 122 (by kernel_rfl)
        have e1 : A_.tmps[124]?.getD undef = wantV (az) (.bool (decide (n < 0))) := hr 124 (by kernel_rfl)
        clear hb hr
        refine guard_on rfl (by kernel_rfl) eG ?_
        clear eG
        rcases Bool.eq_false_or_eq_true (az) with hq | hq
        · replace e0 : A_.tmps[122]?.getD undef = .bool true := e0.trans (congrArg Value.bool hq)
          replace e1 : A_.tmps[124]?.getD undef = .bool (decide (n < 0)) := e1.trans (wantV_pos (by simp only [hq, Bool.not_false, Bool.not_true, Bool.and_self, Bool.true_and, Bool.and_true, Bool.and_false, Bool.false_and]))
          go_simp
          exact hK _ _ (Below.refl _ _) (congrArg Value.bool (and_t hq).symm)
        · replace e0 : A_.tmps[122]?.getD undef = .bool false := e0.trans (congrArg Value.bool hq)
          replace e1 : A_.tmps[124]?.getD undef = undef := e1.trans (wantV_neg (by simp only [hq, Bool.not_false, Bool.not_true, Bool.and_self, Bool.true_and, Bool.and_true, Bool.and_false, Bool.false_and]))
          go_simp
          exact hK _ _ (Below.refl _ _) (congrArg Value.bool (and_f hq).symm)
      · have eG : A_.tmps[117]?.getD undef = .bool (true) := hr 117 (by kernel_rfl)
        have e0 : A_.tmps[119]?.getD undef = .bool (false) := hr 119 (by kernel_rfl)
        have e1 : A_.tmps[125]?.getD undef = .bool ((az && decide (n < 0))) := hr 125 (by kernel_rfl)
        clear hb hr
        refine guard_on rfl (by kernel_rfl) eG ?_
        clear eG
        go_simp; exact hK _ _ (Below.refl _ _) (congrArg Value.bool T13.out)
      · have e0 : A_.tmps[117]?.getD undef = .bool (true) := hr 117 (by kernel_rfl)
        have e1 : A_.tmps[126]?.getD undef = .bool (true) := hr 126 (by kernel_rfl)
        clear hb hr
        go_simp
        exact hK _ _ (Below.refl _ _) (rfl)
      · have e0 : A_.tmps[127]?.getD undef = .bool (true) := hr 127 (by kernel_rfl)
        clear hb hr
        go_simp
        exact hK _ _ (Below.refl _ _) (rfl)
      · have eG : A_.tmps[128]?.getD undef = .bool (true) := hr 128 (by kernel_rfl)
        clear hb hr
        refine guard_on rfl (by kernel_rfl) eG ?_
        clear eG
        go_simp
        refine (AL.out _).mono ?_; rintro e w5 ⟨rfl, hb5⟩
        exact hK _ _ hb5 (rfl)
      · have e0 : A_.tmps[128]?.getD undef = .bool (true) := hr 128 (by kernel_rfl)
        have e1 : A_.tmps[129]?.getD undef = .bool (true) := hr 129 (by kernel_rfl)
        clear hb hr
        go_simp
        exact hK _ _ (Below.refl _ _) (rfl)
      · have e0 : A_.tmps[130]?.getD undef = .bool (true) := hr 130 (by kernel_rfl)
        clear hb hr
        go_simp
        exact hK _ _ (Below.refl _ _) (rfl)
    rintro g9 w9 hb9 ⟨-, -, -, -, -, -, -, -, -, -, -, -, -, -, -, -, -, -, -, -, -, -, -, -, -, -, -, -, -, h6, -⟩
    simp only [List.drop_succ_cons, List.drop_zero, List.take_succ_cons, List.take_zero, putHead, Option.getD_some, Act.put, List.setIfInBounds_toArray, List.set_cons_zero, List.set_cons_succ]
    replace h6 : g9 6 = .bool (true) := h6
    generalize g9 6 = v6 at *
    subst h6
    have B9 := Lib.hid (bstep B8.out hb9); clear hb9
    go_wp2_with fail
    go_ret
    exact ⟨rfl, B9.out⟩
  · have T12' := T12.out
    refine (P3.out _).mono ?_; rintro e w4 ⟨rfl, hb4⟩
    have B4 := Lib.hid (bstep B3.out hb4); clear hb4
    have H_hk := Lib.hid hk; clear hk
    simp only []
    repeat (first | with_reducible apply stop_at (r := 6) | go_step)
    apply Lib.hid
    refine region_seq 10 131 [(59, Is (.int .i64 (ec))), (60, Is (.bool ((ec == 0)))), (61, Is (.bool ((ec == 0)))), (62, Is (wantV ((ec == 0)) (.int .i64 (fc)))), (63, Is (wantV ((ec == 0)) (.bool ((fc == 0))))), (64, Is (.bool (((ec == 0) && (fc == 0))))), (65, Is (.bool (((ec == 0) && (fc == 0))))), (66, Is (wantV (((ec == 0) && (fc == 0))) (.int .i64 (gc)))), (67, Is (wantV (((ec == 0) && (fc == 0))) (.bool ((gc == 0))))), (68, Is (.bool ((((ec == 0) && (fc == 0)) && (gc == 0)))))] rfl (by kernel_rfl) ?_ ?_
    · refine steps_cons rfl (fun A_ W hb hr hg K hK => ?_) <| steps_cons rfl (fun A_ W hb hr hg K hK => ?_) <| steps_cons rfl (fun A_ W hb hr hg K hK => ?_) <| steps_guard (fun A_ W hb hr hg K hK => ?_) <| steps_guard (fun A_ W hb hr hg K hK => ?_) <| steps_cons rfl (fun A_ W hb hr hg K hK => ?_) <| steps_cons rfl (fun A_ W hb hr hg K hK => ?_) <| steps_guard (fun A_ W hb hr hg K hK => ?_) <| steps_guard (fun A_ W hb hr hg K hK => ?_) <| steps_cons rfl (fun A_ W hb hr hg K hK => ?_) trivial
      · have e0 : A_.tmps[8]?.getD undef = .int .i64 (ec) := hb 8 (by kernel_rfl)
        clear hb hr
        go_simp
        exact hK _ _ (Below.refl _ _) (rfl)
      · have e0 : A_.tmps[59]?.getD undef = .int .i64 (ec) := hr 59 (by kernel_rfl)
        clear hb hr
        go_simp
        exact hK _ _ (Below.refl _ _) (rfl)
      · have e0 : A_.tmps[60]?.getD undef = .bool ((ec == 0)) := hr 60 (by kernel_rfl)
        clear hb hr
        go_simp
        exact hK _ _ (Below.refl _ _) (rfl)
      · have eG : A_.tmps[61]?.getD undef = .bool ((ec == 0)) := hr 61 (by kernel_rfl)
        have e0 : A_.tmps[10]?.getD undef = .int .i64 (fc) := hb 10 (by kernel_rfl)
        clear hb hr
        refine guard_t rfl (by kernel_rfl) eG (fun hc => ?_) (fun hn => ?_)
        · clear eG
          have eo : ((ec == 0)) = true := by simp only [hc, Bool.not_false, Bool.not_true, Bool.and_self, Bool.true_and, Bool.and_true, Bool.and_false, Bool.false_and]
          go_simp
          exact hK _ _ (Below.refl _ _) (wantV_eq eo (rfl))
        · exact hK _ _ (Below.refl _ _) (show undef = wantV ((ec == 0)) (.int .i64 (fc)) from (wantV_neg hn).symm)
      · have eG : A_.tmps[61]?.getD undef = .bool ((ec == 0)) := hr 61 (by kernel_rfl)
        have e0 : A_.tmps[62]?.getD undef = wantV ((ec == 0)) (.int .i64 (fc)) := hr 62 (by kernel_rfl)
        clear hb hr
        refine guard_t rfl (by kernel_rfl) eG (fun hc => ?_) (fun hn => ?_)
        · clear eG
          have eo : ((ec == 0)) = true := by simp only [hc, Bool.not_false, Bool.not_true, Bool.and_self, Bool.true_and, Bool.and_true, Bool.and_false, Bool.false_and]
          replace e0 : A_.tmps[62]?.getD undef = .int .i64 (fc) := e0.trans (wantV_pos (by simp only [hc, Bool.not_false, Bool.not_true, Bool.and_self, Bool.true_and, Bool.and_true, Bool.and_false, Bool.false_and]))
          go_simp
          exact hK _ _ (Below.refl _ _) (wantV_eq eo (rfl))
        · exact hK _ _ (Below.refl _ _) (show undef = wantV ((ec == 0)) (.bool ((fc == 0))) from (wantV_neg hn).symm)
      · have e0 : A_.tmps[61]?.getD undef = .bool ((ec == 0)) := hr 61 (by kernel_rfl)
        have e1 : A_.tmps[63]?.getD undef = wantV ((ec == 0)) (.bool ((fc == 0))) := hr 63 (by kernel_rfl)
        clear hb hr
        rcases Bool.eq_false_or_eq_true ((ec == 0)) with hq | hq
        · replace e0 : A_.tmps[61]?.getD undef = .bool true := e0.trans (congrArg Value.bool hq)
          replace e1 : A_.tmps[63]?.getD undef = .bool ((fc == 0)) := e1.trans (wantV_pos (by simp only [hq, Bool.not_false, Bool.not_true, Bool.and_self, Bool.true_and, Bool.and_true, Bool.and_false, Bool.false_and]))
          go_simp
          exact hK _ _ (Below.refl _ _) (congrArg Value.bool (and_t hq).symm)
        · replace e0 : A_.tmps[61]?.getD undef = .bool false := e0.trans (congrArg Value.bool hq)
          replace e1 : A_.tmps[63]?.getD undef = undef := e1.trans (wantV_neg (by simp only [hq, Bool.not_false, Bool.not_true, Bool.and_self, Bool.true_and, Bool.and_true, Bool.and_false, Bool.false_and]))
          go_simp
          exact hK _ _ (Below.refl _ _) (congrArg Value.bool (and_f hq).symm)
      · have e0 : A_.tmps[64]?.getD undef = .bool (((ec == 0) && (fc == 0))) := hr 64 (by kernel_rfl)
        clear hb hr
        go_simp
        exact hK _ _ (Below.refl _ _) (rfl)
      · have eG : A_.tmps[65]?.getD undef = .bool (((ec == 0) && (fc == 0))) := hr 65 (by kernel_rfl)
        have e0 : A_.tmps[12]?.getD undef = .int .i64 (gc) := hb 12 (by kernel_rfl)
        clear hb hr
        refine guard_t rfl (by kernel_rfl) eG (fun hc => ?_) (fun hn => ?_)
        · clear eG
          have eo : (((ec == 0) && (fc == 0))) = true := by simp only [hc, Bool.not_false, Bool.not_true, Bool.and_self, Bool.true_and, Bool.and_true, Bool.and_false, Bool.false_and]
          go_simp
          exact hK _ _ (Below.refl _ _) (wantV_eq eo (rfl))
        · exact hK _ _ (Below.refl _ _) (show undef = wantV (((ec == 0) && (fc == 0))) (.int .i64 (gc)) from (wantV_neg hn).symm)
      · have eG : A_.tmps[65]?.getD undef = .bool (((ec == 0) && (fc == 0))) := hr 65 (by kernel_rfl)
        have e0 : A_.tmps[66]?.getD undef = wantV (((ec == 0) && (fc == 0))) (.int .i64 (gc)) := hr 66 (by kernel_rfl)
        clear hb hr
        refine guard_t rfl (by kernel_rfl) eG (fun hc => ?_) (fun hn => ?_)
        · clear eG
          have eo : (((ec == 0) && (fc == 0))) = true := by simp only [hc, Bool.not_false, Bool.not_true, Bool.and_self, Bool.true_and, Bool.and_true, Bool.and_false, Bool.false_and]
          replace e0 : A_.tmps[66]?.getD undef = .int .i64 (gc) := e0.trans (wantV_pos (by simp only [hc, Bool.not_false, Bool.not_true, Bool.and_self, Bool.true_and, Bool.and_true, Bool.and_false, Bool.false_and]))
          go_simp
          exact hK _ _ (Below.refl _ _) (wantV_eq eo (rfl))
        · exact hK _ _ (Below.refl _ _) (show undef = wantV (((ec == 0) && (fc == 0))) (.bool ((gc == 0))) from (wantV_neg hn).symm)
      · have e0 : A_.tmps[65]?.getD undef = .bool (((ec == 0) && (fc == 0))) := hr 65 (by kernel_rfl)
        have e1 : A_.tmps[67]?.getD undef = wantV (((ec == 0) && (fc == 0))) (.bool ((gc == 0))) := hr 67 (by kernel_rfl)
        clear hb hr
        rcases Bool.eq_false_or_eq_true (((ec == 0) && (fc == 0))) with hq | hq
        · replace e0 : A_.tmps[65]?.getD undef = .bool true := e0.trans (congrArg Value.bool hq)
          replace e1 : A_.tmps[67]?.getD undef = .bool ((gc == 0)) := e1.trans (wantV_pos (by simp only [hq, Bool.not_false, Bool.not_true, Bool.and_self, Bool.true_and, Bool.and_true, Bool.and_false, Bool.false_and]))
          go_simp
          exact hK _ _ (Below.refl _ _) (congrArg Value.bool (and_t hq).symm)
        · replace e0 : A_.tmps[65]?.getD undef = .bool false := e0.trans (congrArg Value.bool hq)
          replace e1 : A_.tmps[67]?.getD undef = undef := e1.trans (wantV_neg (by simp only [hq, Bool.not_false, Bool.not_true, Bool.and_self, Bool.true_and, Bool.and_true, Bool.and_false, Bool.false_and]))
          go_simp
          exact hK _ _ (Below.refl _ _) (congrArg Value.bool (and_f hq).symm)
    rintro g5 w5 hb5 ⟨-, -, -, -, -, -, -, -, -, h68, -⟩
    simp only [List.drop_succ_cons, List.drop_zero, List.take_succ_cons, List.take_zero, putHead, Option.getD_some, Act.put, List.setIfInBounds_toArray, List.set_cons_zero, List.set_cons_succ]
    replace h68 : g5 68 = .bool ((((ec == 0) && (fc == 0)) && (gc == 0))) := h68
    rw [H_hk.out] at h68
    generalize g5 68 = v68 at *
    subst h68
    have B5 := Lib.hid (bstep B4.out hb5); clear hb5
    clear H_hk 
    go_wp2_with fail
    refine (P4.out _).mono ?_; rintro e w6 ⟨rfl, hb6⟩
    have B6 := Lib.hid (bstep B5.out hb6); clear hb6
    go_wp2_with fail
    refine (P5.out _).mono ?_; rintro e w7 ⟨rfl, hb7⟩
    have B7 := Lib.hid (bstep B6.out hb7); clear hb7
    have H_T12p := Lib.hid T12'; clear T12'
    simp only []
    repeat (first | with_reducible apply stop_at (r := 12) | go_step)
    apply Lib.hid
    refine region_seq 30 131 [(102, Is (.string a)), (103, Is (.string a)), (104, Is (.bool (true))), (105, Is (.bool (true))), (106, Is (.int .i64 (0))), (107, Is (.bool (true))), (108, Is (.bool (true))), (109, Is (.bool (true))), (110, Is (.string ⟨#[49]⟩)), (111, Is (.bool (true))), (112, Is (.bool (true))), (113, Is (.bool (true))), (114, Is (.int .i64 (0))), (115, Is (.bool (true))), (116, Is (.bool (true))), (117, Is (.bool (true))), (118, Is (.int .i64 (ec))), (119, Is (.bool ((ec == 12)))), (120, Is (.string a)), (121, Is (.bool (az))), (122, Is (.bool (az))), (123, Is (wantV (az) (.int .i64 (n)))), (124, Is (wantV (az) (.bool (decide (n < 0))))), (125, Is (.bool ((az && decide (n < 0))))), (126, Is (.bool (true))), (127, Is (.bool (true))), (128, Is (.bool (true))), (129, Is (.bool (true))), (130, Is (.bool (true))), (6, Is (.bool (true)))] rfl (by kernel_rfl) ?_ ?_
    · refine steps_cons rfl (fun A_ W hb hr hg K hK => ?_) <| steps_cons rfl (fun A_ W hb hr hg K hK => ?_) <| steps_cons rfl (fun A_ W hb hr hg K hK => ?_) <| steps_cons rfl (fun A_ W hb hr hg K hK => ?_) <| steps_guard (fun A_ W hb hr hg K hK => ?_) <| steps_guard (fun A_ W hb hr hg K hK => ?_) <| steps_cons rfl (fun A_ W hb hr hg K hK => ?_) <| steps_cons rfl (fun A_ W hb hr hg K hK => ?_) <| steps_guard (fun A_ W hb hr hg K hK => ?_) <| steps_guard (fun A_ W hb hr hg K hK => ?_) <| steps_cons rfl (fun A_ W hb hr hg K hK => ?_) <| steps_cons rfl (fun A_ W hb hr hg K hK => ?_) <| steps_guard (fun A_ W hb hr hg K hK => ?_) <| steps_guard (fun A_ W hb hr hg K hK => ?_) <| steps_cons rfl (fun A_ W hb hr hg K hK => ?_) <| steps_cons rfl (fun A_ W hb hr hg K hK => ?_) <| steps_guard (fun A_ W hb hr hg K hK => ?_) <| steps_guard (fun A_ W hb hr hg K hK => ?_) <| steps_guard (fun A_ W hb hr hg K hK => ?_) <| steps_guard (fun A_ W hb hr hg K hK => ?_) <| steps_guard (fun A_ W hb hr hg K hK => ?_) <| steps_guard (fun A_ W hb hr hg K hK => ?_) <| steps_guard (fun A_ W hb hr hg K hK => ?_) <| steps_guard (fun A_ W hb hr hg K hK => ?_) <| steps_guard (fun A_ W hb hr hg K hK => ?_) <| steps_cons rfl (fun A_ W hb hr hg K hK => ?_) <| steps_cons rfl (fun A_ W hb hr hg K hK => ?_) <| steps_guard (fun A_ W hb hr hg K hK => ?_) <| steps_cons rfl (fun A_ W hb hr hg K hK => ?_) <| steps_cons rfl (fun A_ W hb hr hg K hK => ?_) trivial
      · have e0 : A_.tmps[15]?.getD undef = .string a := hb 15 (by kernel_rfl)
        clear hb hr
        go_simp
        exact hK _ _ (Below.refl _ _) (rfl)
      · have e0 : A_.tmps[0]?.getD undef = .string a := hb 0 (by kernel_rfl)
        clear hb hr
        go_simp
        exact hK _ _ (Below.refl _ _) (rfl)
      · have e0 : A_.tmps[102]?.getD undef = .string a := hr 102 (by kernel_rfl)
        have e1 : A_.tmps[103]?.getD undef = .string a := hr 103 (by kernel_rfl)
        clear hb hr
        go_simp; exact hK _ _ (Below.refl _ _) (rfl)
      · have e0 : A_.tmps[104]?.getD undef = .bool (true) := hr 104 (by kernel_rfl)
        clear hb hr
        go_simp
        exact hK _ _ (Below.refl _ _) (rfl)
      · have eG : A_.tmps[105]?.getD undef = .bool (true) := hr 105 (by kernel_rfl)
        have e0 : A_.tmps[16]?.getD undef = .int .i64 (0) := hb 16 (by kernel_rfl)
        clear hb hr
        refine guard_on rfl (by kernel_rfl) eG ?_
        clear eG
        go_simp
        exact hK _ _ (Below.refl _ _) (rfl)
      · have eG : A_.tmps[105]?.getD undef = .bool (true) := hr 105 (by kernel_rfl)
        have e0 : A_.tmps[106]?.getD undef = .int .i64 (0) := hr 106 (by kernel_rfl)
        clear hb hr
        refine guard_on rfl (by kernel_rfl) eG ?_
        clear eG
        go_simp
        exact hK _ _ (Below.refl _ _) (rfl)
      · have e0 : A_.tmps[105]?.getD undef = .bool (true) := hr 105 (by kernel_rfl)
        have e1 : A_.tmps[107]?.getD undef = .bool (true) := hr 107 (by kernel_rfl)
        clear hb hr
        go_simp
        exact hK _ _ (Below.refl _ _) (rfl)
      · have e0 : A_.tmps[108]?.getD undef = .bool (true) := hr 108 (by kernel_rfl)
        clear hb hr
        go_simp
        exact hK _ _ (Below.refl _ _) (rfl)
      · have eG : A_.tmps[109]?.getD undef = .bool (true) := hr 109 (by kernel_rfl)
        have e0 : A_.tmps[17]?.getD undef = .string ⟨#[49]⟩ := hb 17 (by kernel_rfl)
        clear hb hr
        refine guard_on rfl (by kernel_rfl) eG ?_
        clear eG
        go_simp
        exact hK _ _ (Below.refl _ _) (rfl)
      · have eG : A_.tmps[109]?.getD undef = .bool (true) := hr 109 (by kernel_rfl)
        have e0 : A_.tmps[110]?.getD undef = .string ⟨#[49]⟩ := hr 110 (by kernel_rfl)
        clear hb hr
        refine guard_on rfl (by kernel_rfl) eG ?_
        clear eG
        go_simp; exact hK _ _ (Below.refl _ _) (rfl)
      · have e0 : A_.tmps[109]?.getD undef = .bool (true) := hr 109 (by kernel_rfl)
        have e1 : A_.tmps[111]?.getD undef = .bool (true) := hr 111 (by kernel_rfl)
        clear hb hr
        go_simp
        exact hK _ _ (Below.refl _ _) (rfl)
      · have e0 : A_.tmps[112]?.getD undef = .bool (true) := hr 112 (by kernel_rfl)
        clear hb hr
        go_simp
        exact hK _ _ (Below.refl _ _) (rfl)
      · have eG : A_.tmps[113]?.getD undef = .bool (true) := hr 113 (by kernel_rfl)
        have e0 : A_.tmps[18]?.getD undef = .int .i64 (0) := hb 18 (by kernel_rfl)
        clear hb hr
        refine guard_on rfl (by kernel_rfl) eG ?_
        clear eG
        go_simp
        exact hK _ _ (Below.refl _ _) (rfl)
      · have eG : A_.tmps[113]?.getD undef = .bool (true) := hr 113 (by kernel_rfl)
        have e0 : A_.tmps[114]?.getD undef = .int .i64 (0) := hr 114 (by kernel_rfl)
        clear hb hr
        refine guard_on rfl (by kernel_rfl) eG ?_
        clear eG
        go_simp
        exact hK _ _ (Below.refl _ _) (rfl)
      · have e0 : A_.tmps[113]?.getD undef = .bool (true) := hr 113 (by kernel_rfl)
        have e1 : A_.tmps[115]?.getD undef = .bool (true) := hr 115 (by kernel_rfl)
        clear hb hr
        go_simp
        exact hK _ _ (Below.refl _ _) (rfl)
      · have e0 : A_.tmps[116]?.getD undef = .bool (true) := hr 116 (by kernel_rfl)
        clear hb hr
        go_simp
        exact hK _ _ (Below.refl _ _) (rfl)
      · have eG : A_.tmps[117]?.getD undef = .bool (true) := hr 117 (by kernel_rfl)
        have e0 : A_.tmps[8]?.getD undef = .int .i64 (ec) := hb 8 (by kernel_rfl)
        clear hb hr
        refine guard_on rfl (by kernel_rfl) eG ?_
        clear eG
        go_simp
        exact hK _ _ (Below.refl _ _) (rfl)
      · have eG : A_.tmps[117]?.getD undef = .bool (true) := hr 117 (by kernel_rfl)
        have e0 : A_.tmps[118]?.getD undef = .int .i64 (ec) := hr 118 (by kernel_rfl)
        clear hb hr
        refine guard_on rfl (by kernel_rfl) eG ?_
        clear eG
        go_simp
        exact hK _ _ (Below.refl _ _) (rfl)
      · have eG : A_.tmps[117]?.getD undef = .bool (true) := hr 117 (by kernel_rfl)
        have e0 : A_.tmps[0]?.getD undef = .string a := hb 0 (by kernel_rfl)
        clear hb hr
        refine guard_on rfl (by kernel_rfl) eG ?_
        clear eG
        go_simp
        exact hK _ _ (Below.refl _ _) (rfl)
      · have eG : A_.tmps[117]?.getD undef = .bool (true) := hr 117 (by kernel_rfl)
        have e0 : A_.tmps[120]?.getD undef = .string a := hr 120 (by kernel_rfl)
        clear hb hr
        refine guard_on rfl (by kernel_rfl) eG ?_
        clear eG
        go_simp; exact hK _ _ (Below.refl _ _) (congrArg Value.bool HZ0.out)
      · have eG : A_.tmps[117]?.getD undef = .bool (true) := hr 117 (by kernel_rfl)
        have e0 : A_.tmps[121]?.getD undef = .bool (az) := hr 121 (by kernel_rfl)
        clear hb hr
        refine guard_on rfl (by kernel_rfl) eG ?_
        clear eG
        go_simp
        exact hK _ _ (Below.refl _ _) (rfl)
      · have eG : A_.tmps[122]?.getD undef = .bool (az) := hr 122 (by kernel_rfl)
        have e0 : A_.tmps[1]?.getD undef = .int .i64 (n) := hb 1 (by kernel_rfl)
        clear hb hr
        refine guard_t rfl (by kernel_rfl) eG (fun hc => ?_) (fun hn => ?_)
        · clear eG
          have eo : (az) = true := by simp only [hc, Bool.not_false, Bool.not_true, Bool.and_self, Bool.true_and, Bool.and_true, Bool.and_false, Bool.false_and]
          go_simp
          exact hK _ _ (Below.refl _ _) (wantV_eq eo (rfl))
        · exact hK _ _ (Below.refl _ _) (show undef = wantV (az) (.int .i64 (n)) from (wantV_neg hn).symm)
      · have eG : A_.tmps[122]?.getD undef = .bool (az) := hr 122 (by kernel_rfl)
        have e0 : A_.tmps[123]?.getD undef = wantV (az) (.int .i64 (n)) := hr 123 (by kernel_rfl)
        clear hb hr
        refine guard_t rfl (by kernel_rfl) eG (fun hc => ?_) (fun hn => ?_)
        · clear eG
          have eo : (az) = true := by simp only [hc, Bool.not_false, Bool.not_true, Bool.and_self, Bool.true_and, Bool.and_true, Bool.and_false, Bool.false_and]
          replace e0 : A_.tmps[123]?.getD undef = .int .i64 (n) := e0.trans (wantV_pos (by simp only [hc, Bool.not_false, Bool.not_true, Bool.and_self, Bool.true_and, Bool.and_true, Bool.and_false, Bool.false_and]))
          go_simp
          exact hK _ _ (Below.refl _ _) (wantV_eq eo (rfl))
        · exact hK _ _ (Below.refl _ _) (show undef = wantV (az) (.bool (decide (n < 0))) from (wantV_neg hn).symm)
      · have eG : A_.tmps[117]?.getD undef = .bool (true) := hr 117 (by kernel_rfl)
        have e0 : A_.tmps[122]?.getD undef = .bool (az) := hr 122 (by kernel_rfl)
        have e1 : A_.tmps[124]?.getD undef = wantV (az) (.bool (decide (n < 0))) := hr 124 (by kernel_rfl)
        clear hb hr
        refine guard_on rfl (by kernel_rfl) eG ?_
        clear eG
        rcases Bool.eq_false_or_eq_true (az) with hq | hq
        · replace e0 : A_.tmps[122]?.getD undef = .bool true := e0.trans (congrArg Value.bool hq)
          replace e1 : A_.tmps[124]?.getD undef = .bool (decide (n < 0)) := e1.trans (wantV_pos (by simp only [hq, Bool.not_false, Bool.not_true, Bool.and_self, Bool.true_and, Bool.and_true, Bool.and_false, Bool.false_and]))
          go_simp
          exact hK _ _ (Below.refl _ _) (congrArg Value.bool (and_t hq).symm)
        · replace e0 : A_.tmps[122]?.getD undef = .bool false := e0.trans (congrArg Value.bool hq)
          replace e1 : A_.tmps[124]?.getD undef = undef := e1.trans (wantV_neg (by simp only [hq, Bool.not_false, Bool.not_true, Bool.and_self, Bool.true_and, Bool.and_true, Bool.and_false, Bool.false_and]))
          go_simp
          exact hK _ _ (Below.refl _ _) (congrArg Value.bool (and_f hq).symm)
      · have eG : A_.tmps[117]?.getD undef = .bool (true) := hr 117 (by kernel_rfl)
        have e0 : A_.tmps[119]?.getD undef = .bool ((ec == 12)) := hr 119 (by kernel_rfl)
        have e1 : A_.tmps[125]?.getD undef = .bool ((az && decide (n < 0))) := hr 125 (by kernel_rfl)
        clear hb hr
        refine guard_on rfl (by kernel_rfl) eG ?_
        clear eG
        go_simp
        exact hK _ _ (Below.refl _ _) (Eq.trans (show _ = Value.bool (((ec == 12) == (az && decide (n < 0)))) from rfl) (congrArg Value.bool H_T12p.out))
      · have e0 : A_.tmps[117]?.getD undef = .bool (true) := hr 117 (by kernel_rfl)
        have e1 : A_.tmps[126]?.getD undef = .bool (true) := hr 126 (by kernel_rfl)
        clear hb hr
        go_simp
        exact hK _ _ (Below.refl _ _) (rfl)
      · have e0 : A_.tmps[127]?.getD undef = .bool (true) := hr 127 (by kernel_rfl)
        clear hb hr
        go_simp
        exact hK _ _ (Below.refl _ _) (rfl)
      · have eG : A_.tmps[128]?.getD undef = .bool (true) := hr 128 (by kernel_rfl)
        clear hb hr
        refine guard_on rfl (by kernel_rfl) eG ?_
        clear eG
        go_simp
        refine (AL.out _).mono ?_; rintro e w5 ⟨rfl, hb5⟩
        exact hK _ _ hb5 (rfl)
      · have e0 : A_.tmps[128]?.getD undef = .bool (true) := hr 128 (by kernel_rfl)
        have e1 : A_.tmps[129]?.getD undef = .bool (true) := hr 129 (by kernel_rfl)
        clear hb hr
        go_simp
        exact hK _ _ (Below.refl _ _) (rfl)
      · have e0 : A_.tmps[130]?.getD undef = .bool (true) := hr 130 (by kernel_rfl)
        clear hb hr
        go_simp
        exact hK _ _ (Below.refl _ _) (rfl)
    rintro g8 w8 hb8 ⟨-, -, -, -, -, -, -, -, -, -, -, -, -, -, -, -, -, -, -, -, -, -, -, -, -, -, -, -, -, h6, -⟩
    simp only [List.drop_succ_cons, List.drop_zero, List.take_succ_cons, List.take_zero, putHead, Option.getD_some, Act.put, List.setIfInBounds_toArray, List.set_cons_zero, List.set_cons_succ]
    replace h6 : g8 6 = .bool (true) := h6
    generalize g8 6 = v6 at *
    subst h6
    have B8 := Lib.hid (bstep B7.out hb8); clear hb8
    go_wp2_with fail
    go_ret
    exact ⟨rfl, B8.out⟩


set_option maxHeartbeats 8000000 in
set_option maxRecDepth 100000 in
theorem powers_any (w : World) (a : ByteArray) (n m : Int) (ha : a.size ≤ 140737488355328) : Calls Try.prog 12 #[.string a, .int .i64 n, .int .i64 m] w (TrueB w) := by
  have AL : Hid (∀ w, Calls Try.prog 20 #[] w fun e w' => e = .returned (.bool true) ∧ Below w.heap.size w w') := alive_any
  cases i1 : isB a
  · have I1 : Hid (∀ w, Calls Try.prog 18 #[.string a] w fun e w' => e = .returned (.bool false) ∧ Below w.heap.size w w') := fun w => by have := is_any w a ha; rwa [show (readQ a.data.toList).isSome = false from i1] at this
    clear i1 ha
    go_enter Try.func12, Try.ntmps12
    go_wp2_with fail
    refine (I1.out _).mono ?_; rintro e w1 ⟨rfl, hb1⟩
    have B1 := Lib.hid hb1; clear hb1
    go_wp2_with fail
    refine (AL.out _).mono ?_; rintro e w2 ⟨rfl, hb2⟩
    have B2 := Lib.hid (bstep B1.out hb2); clear hb2
    go_wp2_with fail
    go_ret
    exact ⟨rfl, B2.out⟩
  · by_cases h1 : n < -50
    · have tn1 : decide (n < -50) = true := decide_eq_true h1
      clear h1
      have I1 : Hid (∀ w, Calls Try.prog 18 #[.string a] w fun e w' => e = .returned (.bool true) ∧ Below w.heap.size w w') := fun w => by have := is_any w a ha; rwa [show (readQ a.data.toList).isSome = true from i1] at this
      clear i1 ha
      go_enter Try.func12, Try.ntmps12
      go_wp2_with fail
      refine (I1.out _).mono ?_; rintro e w1 ⟨rfl, hb1⟩
      have B1 := Lib.hid hb1; clear hb1
      go_wp2_with fail
      refine (AL.out _).mono ?_; rintro e w2 ⟨rfl, hb2⟩
      have B2 := Lib.hid (bstep B1.out hb2); clear hb2
      go_wp2_with fail
      go_ret
      exact ⟨rfl, B2.out⟩
    · have tn1 : decide (n < -50) = false := decide_eq_false h1
      by_cases h2 : 50 < n
      · have tn2 : decide (50 < n) = true := decide_eq_true h2
        clear h1 h2
        have I1 : Hid (∀ w, Calls Try.prog 18 #[.string a] w fun e w' => e = .returned (.bool true) ∧ Below w.heap.size w w') := fun w => by have := is_any w a ha; rwa [show (readQ a.data.toList).isSome = true from i1] at this
        clear i1 ha
        go_enter Try.func12, Try.ntmps12
        go_wp2_with fail
        refine (I1.out _).mono ?_; rintro e w1 ⟨rfl, hb1⟩
        have B1 := Lib.hid hb1; clear hb1
        go_wp2_with fail
        refine (AL.out _).mono ?_; rintro e w2 ⟨rfl, hb2⟩
        have B2 := Lib.hid (bstep B1.out hb2); clear hb2
        go_wp2_with fail
        go_ret
        exact ⟨rfl, B2.out⟩
      · have tn2 : decide (50 < n) = false := decide_eq_false h2
        by_cases h3 : m < -50
        · have tm1 : decide (m < -50) = true := decide_eq_true h3
          clear h1 h2 h3
          have I1 : Hid (∀ w, Calls Try.prog 18 #[.string a] w fun e w' => e = .returned (.bool true) ∧ Below w.heap.size w w') := fun w => by have := is_any w a ha; rwa [show (readQ a.data.toList).isSome = true from i1] at this
          clear i1 ha
          go_enter Try.func12, Try.ntmps12
          go_wp2_with fail
          refine (I1.out _).mono ?_; rintro e w1 ⟨rfl, hb1⟩
          have B1 := Lib.hid hb1; clear hb1
          go_wp2_with fail
          refine (AL.out _).mono ?_; rintro e w2 ⟨rfl, hb2⟩
          have B2 := Lib.hid (bstep B1.out hb2); clear hb2
          go_wp2_with fail
          go_ret
          exact ⟨rfl, B2.out⟩
        · have tm1 : decide (m < -50) = false := decide_eq_false h3
          by_cases h4 : 50 < m
          · have tm2 : decide (50 < m) = true := decide_eq_true h4
            clear h1 h2 h3 h4
            have I1 : Hid (∀ w, Calls Try.prog 18 #[.string a] w fun e w' => e = .returned (.bool true) ∧ Below w.heap.size w w') := fun w => by have := is_any w a ha; rwa [show (readQ a.data.toList).isSome = true from i1] at this
            clear i1 ha
            go_enter Try.func12, Try.ntmps12
            go_wp2_with fail
            refine (I1.out _).mono ?_; rintro e w1 ⟨rfl, hb1⟩
            have B1 := Lib.hid hb1; clear hb1
            go_wp2_with fail
            refine (AL.out _).mono ?_; rintro e w2 ⟨rfl, hb2⟩
            have B2 := Lib.hid (bstep B1.out hb2); clear hb2
            go_wp2_with fail
            go_ret
            exact ⟨rfl, B2.out⟩
          · exact powers_all w a n m ha i1 ⟨by omega, by omega, by omega, by omega⟩
end Go.Proofs.Ytlkdahgfnfdakaa

namespace Go.Proofs.Ytlkdahgfnfdakaa
open Go.ChangeShapes Go.WideShapes Go.ChangeAt Go.RowKit
open Go.ChangeMaps (open_string shut_string)

set_option maxRecDepth 100000 in
theorem powers_lifted (os : Os) (started : os.Started) (H : Type) (enc : TypeId × Value → H) :
    ReturnsInHanded {} Try.checked os 12 .any (Rows.ratPowersSpec.pre6 enc Try.prog Try.f12 Rows.ratPowersRow.domain false) (Rows.ratPowersSpec.post enc Try.prog Try.f12 false true false false) := by
  refine returnsInHanded_of_change_sized (C := Try.checked) Try.own started (by kernel_rfl) Try.func12
    (ChangeSpec.witness6 (enc := enc) (C := Try.checked) false ⟨#[], #[.string ⟨#[]⟩, .int .i64 0, .int .i64 0], []⟩ 8 (by kernel_rfl) (by kernel_rfl) (by kernel_rfl) (by kernel_rfl)) ?_
  intro W base args ds gs before hval0 hW hcnd hsz0 _
  have hsz : (DataW.weightsEach Try.prog (Try.f12.params.toList ++ Rows.ratPowersSpec.plain.varTypes Try.prog) (ds ++ gs)).all (· ≤ reachBytes) = true := hsz0
  clear hsz0
  have hval : ∀ (j : Nat) t v, Try.f12.params[j]? = some t → args[j]? = some v → Value.okWide Try.prog W .any base t v := hval0
  have hW1 := hW
  obtain ⟨p, q, hA0, hV, rfl, hfz, hnd⟩ := hW
  have hA : DataW.TrodAll enc Try.prog W 0 (fun _ => true) true Try.f12.params.toList args.toList ds p := hA0
  rw [Try.params12] at hA hval hsz
  obtain ⟨v0, v1, v2, d0, d1, d2, p0, p1, p2, rfl, rfl, rfl, h0, h1, h2⟩ := trodAll_three hA
  obtain ⟨rfl, rfl⟩ := trodVars_none hV
  obtain ⟨a, rfl, rfl, rfl, wa⟩ := open_string Try.underlying9 (hval 0 9 v0 rfl rfl) h0
  obtain ⟨n, rfl, rfl, rfl, wn⟩ := open_int Try.underlying3 (hval 1 3 v1 rfl rfl) h1
  obtain ⟨m, rfl, rfl, rfl, wm⟩ := open_int Try.underlying3 (hval 2 3 v2 rfl rfl) h2
  clear hA0 hval0
  simp only [List.append_nil] at hW1
  have sa : a.size ≤ 140737488355328 := size_of (sized_string hsz (j := 0) (t := 9) rfl rfl)
  refine (powers_any W a n m sa).mono fun e W1 ⟨he, hw⟩ => ?_
  subst he
  exact ⟨_, rfl, post_new hW1 hw (fun _ _ _ => trodAll_mk1 (shut_bool Try.underlying4 true)) (fun _ => trodAll_mk3 (shut_string Try.underlying9 wa) (shut_int Try.underlying3 wn) (shut_int Try.underlying3 wm)) (fun _ => rfl)
    (ok_one (by kernel_rfl) rfl (okWide_bool_mk Try.underlying4 true))⟩

theorem powers_holds : Rows.RatPowersSaid :=
  OpenClaim.holds_of_wide 12 Try.f12 rfl rfl rfl rfl rfl rfl rfl ⟨rfl, rfl, rfl, rfl, rfl⟩ rfl rfl rfl rfl rfl (by kernel_rfl) Try.func12 (by kernel_rfl)
    (of_decide_eq_true (by kernel_rfl)) (by unfold Func.isWrapper; first | (rw [if_pos (by decide +kernel)]; kernel_rfl) | (rw [if_neg (by decide +kernel)]; exact ⟨rfl, rfl⟩))
    (fun os started H enc _ => powers_lifted os started H enc)
end Go.Proofs.Ytlkdahgfnfdakaa
