/- RatSimplest: whatever two texts it is given, it returns true, and the texts read as they did. No condition. -/
import Derived.Test.YtlkdahgfnfdakaaLawS
namespace Go.Proofs.Ytlkdahgfnfdakaa
open Go Go.RowKit Go.Shelf WN LM

set_option maxHeartbeats 8000000 in
set_option maxRecDepth 100000 in
theorem simplest_law (w : World) (a b : ByteArray) (ha : a.size ≤ 140737488355328) (hb : b.size ≤ 140737488355328) : Calls Try.prog 13 #[.string a, .string b] w (TrueB w) := by
  have AL : Hid (∀ w, Calls Try.prog 20 #[] w fun e w' => e = .returned (.bool true) ∧ Below w.heap.size w w') := alive_any
  have CM : Hid (∀ w a b, a.size ≤ 140737488355328 → b.size ≤ 140737488355328 → Calls Try.prog 31 #[.string a, .string b] w (OutI w (cmpT a b))) := fun w a b h k => cmp_any w a b h k
  have MU : Hid (∀ w a b, a.size ≤ 140737488355328 → b.size ≤ 140737488355328 → Calls Try.prog 27 #[.string a, .string b] w (OutS w (mulT a b))) := fun w a b h k => mul_any w a b h k
  have DV : Hid (∀ w a b, a.size ≤ 140737488355328 → b.size ≤ 140737488355328 → Calls Try.prog 29 #[.string a, .string b] w (OutS w (divT a b))) := fun w a b h k => div_any w a b h k
  have FL : Hid (∀ w a, a.size ≤ 140737488355328 → Calls Try.prog 33 #[.string a] w (OutS w (floorT a))) := fun w a h => floor_any w a h
  have HA := Lib.hid ha; have HB := Lib.hid hb
  have SM : Hid (∀ w, Calls Try.prog 48 #[.string a, .string b] w (OutS w (simT a b))) := fun w => simplest_any w a b ha hb
  have C0 : Hid (∀ w, Calls Try.prog 31 #[.string a, .string b] w (OutI w (cmpT a b))) := fun w => CM.out w a b ha hb
  have ZS : Hid ((simT a b).1.size ≤ 1000) := simT_size a b
  by_cases he : (simT a b).2 = 0
  · obtain ⟨x, y, t, Q, tn, den, X, Y, S, h1, h2, hp, D, hmin⟩ := sim_good he
    have c1 := cmpT_isV X S
    have c2 := cmpT_isV S Y
    have t1 : decide (0 < cmpR x t) = false := decide_eq_false (by have := cmpR_le.2 h1; omega)
    have t2 : decide (0 < cmpR t y) = false := decide_eq_false (by have := cmpR_le.2 h2; omega)
    have hs : (simT a b).1.size ≤ 140737488355328 := Nat.le_trans ZS.out (by omega)
    have hden : den.size ≤ 140737488355328 := Nat.le_trans (isV_size D) (by omega)
    have C1 : Hid (∀ w, Calls Try.prog 31 #[.string a, .string (simT a b).1] w (OutI w (cmpR x t, 0))) := fun w => by have := CM.out w a _ ha hs; rwa [c1] at this
    have C2 : Hid (∀ w, Calls Try.prog 31 #[.string (simT a b).1, .string b] w (OutI w (cmpR t y, 0))) := fun w => by have := CM.out w _ b hs hb; rwa [c2] at this
    have PT : Hid (∀ w, Calls Try.prog 16 #[.string (simT a b).1] w (OutT w (tn, den, 0))) := fun w => by have := parts_any w (simT a b).1 hs; rwa [hp] at this
    have MK : Hid (∀ d : Nat, d ≤ 60 → ∃ q : ByteArray, IsV q (d : Rat) ∧ ∀ w, Calls Try.prog 21 #[.int .i64 (d : Nat), .int .i64 1] w (OutS w (q, 0))) := fun d hd => by
      obtain ⟨m1, m2⟩ := makT_nat (d := d) (by omega)
      refine ⟨(makT d 1).1, m2, fun w => ?_⟩
      have := make_any w d 1 (by omega) (by omega) (by omega) (by omega)
      have e : makT d 1 = ((makT d 1).1, 0) := Prod.ext rfl m1
      rw [e] at this
      exact this
    have HX := Lib.hid X; have HY := Lib.hid Y; have HD := Lib.hid D; have HM := Lib.hid hmin; have HDN := Lib.hid hden
    clear c1 c2 h1 h2 hp S C0 X Y D hmin hs hden ZS
    generalize simT a b = q_ at *; obtain ⟨s, e⟩ := q_
    obtain rfl : e = 0 := he
    generalize cmpR x t = cx at *
    generalize cmpR t y = cy at *
    replace C1 : Hid (∀ w, Calls Try.prog 31 #[.string a, .string s] w (OutI w (cx, 0))) := C1
    replace C2 : Hid (∀ w, Calls Try.prog 31 #[.string s, .string b] w (OutI w (cy, 0))) := C2
    replace PT : Hid (∀ w, Calls Try.prog 16 #[.string s] w (OutT w (tn, den, 0))) := PT
    clear ha hb
    go_enter Try.func13, Try.ntmps13
    go_wp2_with fail
    refine (SM.out _).mono ?_; rintro e w1 ⟨rfl, hb1⟩
    have B1 := Lib.hid hb1; clear hb1
    go_wp2_with fail
    refine (C1.out _).mono ?_; rintro e w2 ⟨rfl, hb2⟩
    have B2 := Lib.hid (bstep B1.out hb2); clear hb2
    go_wp2_with fail
    refine (C2.out _).mono ?_; rintro e w3 ⟨rfl, hb3⟩
    have B3 := Lib.hid (bstep B2.out hb3); clear hb3
    go_wp2_with fail
    refine (PT.out _).mono ?_; rintro e w4 ⟨rfl, hb4⟩
    have B4 := Lib.hid (bstep B3.out hb4); clear hb4
    go_wp2_with fail
    clear SM C1 C2 PT t1 t2
    go_loopw [16] (fun vi wr => ∃ d : Nat, 1 ≤ d ∧ d ≤ 61 ∧ vi = .int .i64 (d : Nat) ∧ Hid (Below w.heap.size w wr)) (fun vi _ => 61 - (intOf vi).toNat)
    case atStart => exact ⟨1, by omega, by omega, rfl, B4.out⟩
    case round =>
      obtain ⟨d, hd1, hd2, rfl, hbel⟩ := hrel
      have B5 := hbel; clear hbel
      by_cases hlt : d ≤ 60
      · have tle : decide ((d : Int) ≤ 60) = true := decide_eq_true (by omega)
        obtain ⟨q, hq, mk⟩ := MK.out d hlt
        have hqs : q.size ≤ 140737488355328 := Nat.le_trans (isV_size hq) (by omega)
        have CQ : Hid (∀ w, Calls Try.prog 31 #[.string q, .string den] w (OutI w (cmpR (d : Rat) (Q : Rat), 0))) := fun w => by have := CM.out w q den hqs HDN.out; rwa [cmpT_isV hq HD.out] at this
        have MK1 := Lib.hid mk; clear mk
        by_cases hQ : Q ≤ d
        · have tq : decide (0 ≤ cmpR (d : Rat) (Q : Rat)) = true := decide_eq_true (cmpR_nat.2 hQ)
          generalize cmpR (d : Rat) (Q : Rat) = cq at *
          clear hQ hq hqs hd1 hd2 hlt
          go_wp2_with fail
          refine (MK1.out _).mono ?_; rintro e w6 ⟨rfl, hb6⟩
          have B6 := Lib.hid (bstep B5.out hb6); clear hb6
          go_wp2_with fail
          refine (CQ.out _).mono ?_; rintro e w7 ⟨rfl, hb7⟩
          have B7 := Lib.hid (bstep B6.out hb7); clear hb7
          go_wp2_with fail
          refine (AL.out _).mono ?_; rintro e w8 ⟨rfl, hb8⟩
          have B8 := Lib.hid (bstep B7.out hb8); clear hb8
          go_wp2_with fail
          go_ret
          exact ⟨rfl, B8.out⟩
        · have tq : decide (0 ≤ cmpR (d : Rat) (Q : Rat)) = false := decide_eq_false (fun h => hQ (cmpR_nat.1 h))
          have T1 : Hid (∀ w, Calls Try.prog 27 #[.string a, .string q] w (OutS w (mulT a q))) := fun w => MU.out w a q HA.out hqs
          have z1 : (mulT a q).1.size ≤ 140737488355328 := Nat.le_trans (mulT_size a q) (by omega)
          have T2 : Hid (∀ w, Calls Try.prog 27 #[.string (mulT a q).1, .string ⟨#[45, 49]⟩] w (OutS w (mulT (mulT a q).1 ⟨#[45, 49]⟩))) := fun w => MU.out w _ _ z1 (by decide)
          have z2 : (mulT (mulT a q).1 ⟨#[45, 49]⟩).1.size ≤ 140737488355328 := Nat.le_trans (mulT_size _ _) (by omega)
          have T3 : Hid (∀ w, Calls Try.prog 33 #[.string (mulT (mulT a q).1 ⟨#[45, 49]⟩).1] w (OutS w (floorT (mulT (mulT a q).1 ⟨#[45, 49]⟩).1))) := fun w => FL.out w _ z2
          have z3 : (floorT (mulT (mulT a q).1 ⟨#[45, 49]⟩).1).1.size ≤ 140737488355328 := Nat.le_trans (one_size _) (by omega)
          have T4 : Hid (∀ w, Calls Try.prog 27 #[.string (floorT (mulT (mulT a q).1 ⟨#[45, 49]⟩).1).1, .string ⟨#[45, 49]⟩] w (OutS w (mulT (floorT (mulT (mulT a q).1 ⟨#[45, 49]⟩).1).1 ⟨#[45, 49]⟩))) := fun w => MU.out w _ _ z3 (by decide)
          have z4 : (mulT (floorT (mulT (mulT a q).1 ⟨#[45, 49]⟩).1).1 ⟨#[45, 49]⟩).1.size ≤ 140737488355328 := Nat.le_trans (mulT_size _ _) (by omega)
          have T5 : Hid (∀ w, Calls Try.prog 29 #[.string (mulT (floorT (mulT (mulT a q).1 ⟨#[45, 49]⟩).1).1 ⟨#[45, 49]⟩).1, .string q] w (OutS w (divT (mulT (floorT (mulT (mulT a q).1 ⟨#[45, 49]⟩).1).1 ⟨#[45, 49]⟩).1 q))) := fun w => DV.out w _ _ z4 hqs
          have z5 : (divT (mulT (floorT (mulT (mulT a q).1 ⟨#[45, 49]⟩).1).1 ⟨#[45, 49]⟩).1 q).1.size ≤ 140737488355328 := Nat.le_trans (divT_size _ _) (by omega)
          have T6 : Hid (∀ w, Calls Try.prog 31 #[.string (divT (mulT (floorT (mulT (mulT a q).1 ⟨#[45, 49]⟩).1).1 ⟨#[45, 49]⟩).1 q).1, .string b] w (OutI w (cmpT (divT (mulT (floorT (mulT (mulT a q).1 ⟨#[45, 49]⟩).1).1 ⟨#[45, 49]⟩).1 q).1 b))) := fun w => CM.out w _ _ z5 HB.out
          have FIN := fun hf hg hi => sim_loop (q := q) HX.out HY.out hq HM.out hd1 (Nat.lt_of_not_le hQ) hf hg hi
          clear z1 z2 z3 z4 z5 hQ hq hqs
          generalize cmpR (d : Rat) (Q : Rat) = cq at *
          generalize cmpT (divT (mulT (floorT (mulT (mulT a q).1 ⟨#[45, 49]⟩).1).1 ⟨#[45, 49]⟩).1 q).1 b = q6 at *; obtain ⟨cv, cvc⟩ := q6
          generalize divT (mulT (floorT (mulT (mulT a q).1 ⟨#[45, 49]⟩).1).1 ⟨#[45, 49]⟩).1 q = q5 at *; obtain ⟨v, ic⟩ := q5
          generalize mulT (floorT (mulT (mulT a q).1 ⟨#[45, 49]⟩).1).1 ⟨#[45, 49]⟩ = q4 at *; obtain ⟨up, uc⟩ := q4
          generalize floorT (mulT (mulT a q).1 ⟨#[45, 49]⟩).1 = q3 at *; obtain ⟨lo, gc⟩ := q3
          generalize mulT (mulT a q).1 ⟨#[45, 49]⟩ = q2 at *; obtain ⟨mi, mc⟩ := q2
          generalize mulT a q = q1 at *; obtain ⟨tt, fc⟩ := q1
          replace FIN : Hid (fc = 0 → gc = 0 → ic = 0 → 0 < cv) := FIN
          replace T2 : Hid (∀ w, Calls Try.prog 27 #[.string tt, .string ⟨#[45, 49]⟩] w (OutS w (mi, mc))) := T2
          replace T3 : Hid (∀ w, Calls Try.prog 33 #[.string mi] w (OutS w (lo, gc))) := T3
          replace T4 : Hid (∀ w, Calls Try.prog 27 #[.string lo, .string ⟨#[45, 49]⟩] w (OutS w (up, uc))) := T4
          replace T5 : Hid (∀ w, Calls Try.prog 29 #[.string up, .string q] w (OutS w (v, ic))) := T5
          replace T6 : Hid (∀ w, Calls Try.prog 31 #[.string v, .string b] w (OutI w (cv, cvc))) := T6
          have HD1 := Lib.hid hd1; have HLT := Lib.hid hlt
          clear hd1 hd2 hlt
          by_cases hf : fc = 0
          · subst hf
            by_cases hgi : (gc = 0 ∧ uc = 0) ∧ ic = 0
            · obtain ⟨⟨rfl, rfl⟩, rfl⟩ := hgi
              have tv : decide (cv ≤ 0) = false := decide_eq_false (by have := FIN.out rfl rfl rfl; omega)
              clear FIN
              go_wp2_with fail
              refine (MK1.out _).mono ?_; rintro e w6 ⟨rfl, hb6⟩
              have B6 := Lib.hid (bstep B5.out hb6); clear hb6
              go_wp2_with fail
              refine (CQ.out _).mono ?_; rintro e w7 ⟨rfl, hb7⟩
              have B7 := Lib.hid (bstep B6.out hb7); clear hb7
              go_wp2_with fail
              refine (T1.out _).mono ?_; rintro e w8 ⟨rfl, hb8⟩
              have B8 := Lib.hid (bstep B7.out hb8); clear hb8
              go_wp2_with fail
              refine (T2.out _).mono ?_; rintro e w9 ⟨rfl, hb9⟩
              have B9 := Lib.hid (bstep B8.out hb9); clear hb9
              go_wp2_with fail
              refine (T3.out _).mono ?_; rintro e w10 ⟨rfl, hb10⟩
              have B10 := Lib.hid (bstep B9.out hb10); clear hb10
              go_wp2_with fail
              refine (T4.out _).mono ?_; rintro e w11 ⟨rfl, hb11⟩
              have B11 := Lib.hid (bstep B10.out hb11); clear hb11
              go_wp2_with fail
              refine (T5.out _).mono ?_; rintro e w12 ⟨rfl, hb12⟩
              have B12 := Lib.hid (bstep B11.out hb12); clear hb12
              go_wp2_with fail
              refine (T6.out _).mono ?_; rintro e w13 ⟨rfl, hb13⟩
              have B13 := Lib.hid (bstep B12.out hb13); clear hb13
              go_wp2_with fail
              have hw : wrap64 ((d : Int) + 1) = ((d + 1 : Nat) : Int) := by have := HLT.out; unfold wrap64; omega
              go_roundw
              case rel => exact ⟨d + 1, by omega, by have := HLT.out; omega, congrArg (Value.int .i64) hw, B13.out⟩
              case measure => have := HLT.out; rw [hw]; simp [intOf]; omega
            · have hk : (((gc != 0) || (uc != 0)) || (ic != 0)) = true := by
                cases h : (((gc != 0) || (uc != 0)) || (ic != 0))
                · simp only [Bool.or_eq_false_iff, bne_eq_false_iff_eq] at h
                  exact absurd h hgi
                · rfl
              clear FIN hgi
              have HK := Lib.hid hk; clear hk
              go_wp2_with fail
              refine (MK1.out _).mono ?_; rintro e w6 ⟨rfl, hb6⟩
              have B6 := Lib.hid (bstep B5.out hb6); clear hb6
              go_wp2_with fail
              refine (CQ.out _).mono ?_; rintro e w7 ⟨rfl, hb7⟩
              have B7 := Lib.hid (bstep B6.out hb7); clear hb7
              go_wp2_with fail
              refine (T1.out _).mono ?_; rintro e w8 ⟨rfl, hb8⟩
              have B8 := Lib.hid (bstep B7.out hb8); clear hb8
              go_wp2_with fail
              refine (T2.out _).mono ?_; rintro e w9 ⟨rfl, hb9⟩
              have B9 := Lib.hid (bstep B8.out hb9); clear hb9
              go_wp2_with fail
              refine (T3.out _).mono ?_; rintro e w10 ⟨rfl, hb10⟩
              have B10 := Lib.hid (bstep B9.out hb10); clear hb10
              go_wp2_with fail
              refine (T4.out _).mono ?_; rintro e w11 ⟨rfl, hb11⟩
              have B11 := Lib.hid (bstep B10.out hb11); clear hb11
              go_wp2_with fail
              have hk := HK.out
              refine (T5.out _).mono ?_; rintro e w12 ⟨rfl, hb12⟩
              have B12 := Lib.hid (bstep B11.out hb12); clear hb12
              have H_hk := Lib.hid hk; clear hk
              simp only []
              repeat (first | with_reducible apply stop_at (r := 23) | go_step)
              apply Lib.hid
              refine region_seq 10 160 [(140, Is (.int .i64 (gc))), (141, Is (.bool ((gc != 0)))), (142, Is (.bool ((gc != 0)))), (143, Is (wantV (!(gc != 0)) (.int .i64 (uc)))), (144, Is (wantV (!(gc != 0)) (.bool ((uc != 0))))), (145, Is (.bool (((gc != 0) || (uc != 0))))), (146, Is (.bool (((gc != 0) || (uc != 0))))), (147, Is (wantV (!((gc != 0) || (uc != 0))) (.int .i64 (ic)))), (148, Is (wantV (!((gc != 0) || (uc != 0))) (.bool ((ic != 0))))), (149, Is (.bool ((((gc != 0) || (uc != 0)) || (ic != 0)))))] rfl (by kernel_rfl) ?_ ?_
              · refine steps_cons rfl (fun A_ W hb hr hg K hK => ?_) <| steps_cons rfl (fun A_ W hb hr hg K hK => ?_) <| steps_cons rfl (fun A_ W hb hr hg K hK => ?_) <| steps_guard (fun A_ W hb hr hg K hK => ?_) <| steps_guard (fun A_ W hb hr hg K hK => ?_) <| steps_cons rfl (fun A_ W hb hr hg K hK => ?_) <| steps_cons rfl (fun A_ W hb hr hg K hK => ?_) <| steps_guard (fun A_ W hb hr hg K hK => ?_) <| steps_guard (fun A_ W hb hr hg K hK => ?_) <| steps_cons rfl (fun A_ W hb hr hg K hK => ?_) trivial
                · have e0 : A_.tmps[26]?.getD undef = .int .i64 (gc) := hb 26 (by kernel_rfl)
                  clear hb hr
                  go_simp
                  exact hK _ _ (Below.refl _ _) (rfl)
                · have e0 : A_.tmps[140]?.getD undef = .int .i64 (gc) := hr 140 (by kernel_rfl)
                  clear hb hr
                  go_simp
                  exact hK _ _ (Below.refl _ _) (rfl)
                · have e0 : A_.tmps[141]?.getD undef = .bool ((gc != 0)) := hr 141 (by kernel_rfl)
                  clear hb hr
                  go_simp
                  exact hK _ _ (Below.refl _ _) (rfl)
                · have eG : A_.tmps[142]?.getD undef = .bool ((gc != 0)) := hr 142 (by kernel_rfl)
                  have e0 : A_.tmps[28]?.getD undef = .int .i64 (uc) := hb 28 (by kernel_rfl)
                  clear hb hr
                  refine guard_f rfl (by kernel_rfl) eG (fun hc => ?_) (fun hn => ?_)
                  · clear eG
                    have eo : (!(gc != 0)) = true := by simp only [hc, Bool.not_false, Bool.not_true, Bool.and_self, Bool.true_and, Bool.and_true, Bool.and_false, Bool.false_and]
                    go_simp
                    exact hK _ _ (Below.refl _ _) (wantV_eq eo (rfl))
                  · exact hK _ _ (Below.refl _ _) (show undef = wantV (!(gc != 0)) (.int .i64 (uc)) from (wantV_neg hn).symm)
                · have eG : A_.tmps[142]?.getD undef = .bool ((gc != 0)) := hr 142 (by kernel_rfl)
                  have e0 : A_.tmps[143]?.getD undef = wantV (!(gc != 0)) (.int .i64 (uc)) := hr 143 (by kernel_rfl)
                  clear hb hr
                  refine guard_f rfl (by kernel_rfl) eG (fun hc => ?_) (fun hn => ?_)
                  · clear eG
                    have eo : (!(gc != 0)) = true := by simp only [hc, Bool.not_false, Bool.not_true, Bool.and_self, Bool.true_and, Bool.and_true, Bool.and_false, Bool.false_and]
                    replace e0 : A_.tmps[143]?.getD undef = .int .i64 (uc) := e0.trans (wantV_pos (by simp only [hc, Bool.not_false, Bool.not_true, Bool.and_self, Bool.true_and, Bool.and_true, Bool.and_false, Bool.false_and]))
                    go_simp
                    exact hK _ _ (Below.refl _ _) (wantV_eq eo (rfl))
                  · exact hK _ _ (Below.refl _ _) (show undef = wantV (!(gc != 0)) (.bool ((uc != 0))) from (wantV_neg hn).symm)
                · have e0 : A_.tmps[142]?.getD undef = .bool ((gc != 0)) := hr 142 (by kernel_rfl)
                  have e1 : A_.tmps[144]?.getD undef = wantV (!(gc != 0)) (.bool ((uc != 0))) := hr 144 (by kernel_rfl)
                  clear hb hr
                  rcases Bool.eq_false_or_eq_true ((gc != 0)) with hq | hq
                  · replace e0 : A_.tmps[142]?.getD undef = .bool true := e0.trans (congrArg Value.bool hq)
                    replace e1 : A_.tmps[144]?.getD undef = undef := e1.trans (wantV_neg (by simp only [hq, Bool.not_false, Bool.not_true, Bool.and_self, Bool.true_and, Bool.and_true, Bool.and_false, Bool.false_and]))
                    go_simp
                    exact hK _ _ (Below.refl _ _) (congrArg Value.bool (or_t hq).symm)
                  · replace e0 : A_.tmps[142]?.getD undef = .bool false := e0.trans (congrArg Value.bool hq)
                    replace e1 : A_.tmps[144]?.getD undef = .bool ((uc != 0)) := e1.trans (wantV_pos (by simp only [hq, Bool.not_false, Bool.not_true, Bool.and_self, Bool.true_and, Bool.and_true, Bool.and_false, Bool.false_and]))
                    go_simp
                    exact hK _ _ (Below.refl _ _) (congrArg Value.bool (or_f hq).symm)
                · have e0 : A_.tmps[145]?.getD undef = .bool (((gc != 0) || (uc != 0))) := hr 145 (by kernel_rfl)
                  clear hb hr
                  go_simp
                  exact hK _ _ (Below.refl _ _) (rfl)
                · have eG : A_.tmps[146]?.getD undef = .bool (((gc != 0) || (uc != 0))) := hr 146 (by kernel_rfl)
                  have e0 : A_.tmps[30]?.getD undef = .int .i64 (ic) := hb 30 (by kernel_rfl)
                  clear hb hr
                  refine guard_f rfl (by kernel_rfl) eG (fun hc => ?_) (fun hn => ?_)
                  · clear eG
                    have eo : (!((gc != 0) || (uc != 0))) = true := by simp only [hc, Bool.not_false, Bool.not_true, Bool.and_self, Bool.true_and, Bool.and_true, Bool.and_false, Bool.false_and]
                    go_simp
                    exact hK _ _ (Below.refl _ _) (wantV_eq eo (rfl))
                  · exact hK _ _ (Below.refl _ _) (show undef = wantV (!((gc != 0) || (uc != 0))) (.int .i64 (ic)) from (wantV_neg hn).symm)
                · have eG : A_.tmps[146]?.getD undef = .bool (((gc != 0) || (uc != 0))) := hr 146 (by kernel_rfl)
                  have e0 : A_.tmps[147]?.getD undef = wantV (!((gc != 0) || (uc != 0))) (.int .i64 (ic)) := hr 147 (by kernel_rfl)
                  clear hb hr
                  refine guard_f rfl (by kernel_rfl) eG (fun hc => ?_) (fun hn => ?_)
                  · clear eG
                    have eo : (!((gc != 0) || (uc != 0))) = true := by simp only [hc, Bool.not_false, Bool.not_true, Bool.and_self, Bool.true_and, Bool.and_true, Bool.and_false, Bool.false_and]
                    replace e0 : A_.tmps[147]?.getD undef = .int .i64 (ic) := e0.trans (wantV_pos (by simp only [hc, Bool.not_false, Bool.not_true, Bool.and_self, Bool.true_and, Bool.and_true, Bool.and_false, Bool.false_and]))
                    go_simp
                    exact hK _ _ (Below.refl _ _) (wantV_eq eo (rfl))
                  · exact hK _ _ (Below.refl _ _) (show undef = wantV (!((gc != 0) || (uc != 0))) (.bool ((ic != 0))) from (wantV_neg hn).symm)
                · have e0 : A_.tmps[146]?.getD undef = .bool (((gc != 0) || (uc != 0))) := hr 146 (by kernel_rfl)
                  have e1 : A_.tmps[148]?.getD undef = wantV (!((gc != 0) || (uc != 0))) (.bool ((ic != 0))) := hr 148 (by kernel_rfl)
                  clear hb hr
                  rcases Bool.eq_false_or_eq_true (((gc != 0) || (uc != 0))) with hq | hq
                  · replace e0 : A_.tmps[146]?.getD undef = .bool true := e0.trans (congrArg Value.bool hq)
                    replace e1 : A_.tmps[148]?.getD undef = undef := e1.trans (wantV_neg (by simp only [hq, Bool.not_false, Bool.not_true, Bool.and_self, Bool.true_and, Bool.and_true, Bool.and_false, Bool.false_and]))
                    go_simp
                    exact hK _ _ (Below.refl _ _) (congrArg Value.bool (or_t hq).symm)
                  · replace e0 : A_.tmps[146]?.getD undef = .bool false := e0.trans (congrArg Value.bool hq)
                    replace e1 : A_.tmps[148]?.getD undef = .bool ((ic != 0)) := e1.trans (wantV_pos (by simp only [hq, Bool.not_false, Bool.not_true, Bool.and_self, Bool.true_and, Bool.and_true, Bool.and_false, Bool.false_and]))
                    go_simp
                    exact hK _ _ (Below.refl _ _) (congrArg Value.bool (or_f hq).symm)
              rintro g13 w13 hb13 ⟨-, -, -, -, -, -, -, -, -, h149, -⟩
              simp only [List.drop_succ_cons, List.drop_zero, List.take_succ_cons, List.take_zero, putHead, Option.getD_some, Act.put, List.setIfInBounds_toArray, List.set_cons_zero, List.set_cons_succ]
              replace h149 : g13 149 = .bool ((((gc != 0) || (uc != 0)) || (ic != 0))) := h149
              rw [H_hk.out] at h149
              generalize g13 149 = v149 at *
              subst h149
              have B13 := Lib.hid (bstep B12.out hb13); clear hb13
              clear H_hk 
              go_wp2_with fail
              refine (AL.out _).mono ?_; rintro e w14 ⟨rfl, hb14⟩
              have B14 := Lib.hid (bstep B13.out hb14); clear hb14
              go_wp2_with fail
              go_ret
              exact ⟨rfl, B14.out⟩
          · have tf : (fc != 0) = true := by rw [bne_iff_ne]; exact hf
            clear FIN hf
            go_wp2_with fail
            refine (MK1.out _).mono ?_; rintro e w6 ⟨rfl, hb6⟩
            have B6 := Lib.hid (bstep B5.out hb6); clear hb6
            go_wp2_with fail
            refine (CQ.out _).mono ?_; rintro e w7 ⟨rfl, hb7⟩
            have B7 := Lib.hid (bstep B6.out hb7); clear hb7
            go_wp2_with fail
            refine (T1.out _).mono ?_; rintro e w8 ⟨rfl, hb8⟩
            have B8 := Lib.hid (bstep B7.out hb8); clear hb8
            go_wp2_with fail
            refine (AL.out _).mono ?_; rintro e w9 ⟨rfl, hb9⟩
            have B9 := Lib.hid (bstep B8.out hb9); clear hb9
            go_wp2_with fail
            go_ret
            exact ⟨rfl, B9.out⟩
      · have tle : decide ((d : Int) ≤ 60) = false := decide_eq_false (by omega)
        clear hd1 hd2 hlt
        go_wp2_with fail
        refine (AL.out _).mono ?_; rintro e w6 ⟨rfl, hb6⟩
        have B6 := Lib.hid (bstep B5.out hb6); clear hb6
        go_wp2_with fail
        go_ret
        exact ⟨rfl, B6.out⟩
  · obtain ⟨b1, b2⟩ := sim_bad he
    have he2 : ((simT a b).2 != 0) = true := by rw [bne_iff_ne]; exact he
    clear he ZS CM MU DV FL HA HB ha hb
    generalize simT a b = q_ at *; obtain ⟨s, e⟩ := q_
    generalize cmpT a b = q_ at *; obtain ⟨x, f⟩ := q_
    obtain rfl : s = ⟨#[]⟩ := b1
    replace b2 : Hid ((((f == e) || ((e == 3) && decide (0 < x))) || (e == 2)) = true) := b2
    replace he2 : (e != 0) = true := he2
    go_enter Try.func13, Try.ntmps13
    go_wp2_with fail
    refine (SM.out _).mono ?_; rintro e w1 ⟨rfl, hb1⟩
    have B1 := Lib.hid hb1; clear hb1
    go_wp2_with fail
    clear he2
    have T := b2.out
    refine (C0.out _).mono ?_; rintro e w2 ⟨rfl, hb2⟩
    have B2 := Lib.hid (bstep B1.out hb2); clear hb2
    have H_T := Lib.hid T; clear T
    simp only []
    repeat (first | with_reducible apply stop_at (r := 4) | go_step)
    apply Lib.hid
    refine region_seq 23 160 [(47, Is (.int .i64 (f))), (48, Is (.int .i64 (e))), (49, Is (.bool ((f == e)))), (50, Is (.bool ((f == e)))), (51, Is (wantV (!(f == e)) (.int .i64 (e)))), (52, Is (wantV (!(f == e)) (.bool ((e == 3))))), (53, Is (wantV (!(f == e)) (.bool ((e == 3))))), (54, Is (wantV ((!(f == e) && (e == 3))) (.int .i64 (x)))), (55, Is (wantV ((!(f == e) && (e == 3))) (.bool (decide (0 < x))))), (56, Is (wantV (!(f == e)) (.bool (((e == 3) && decide (0 < x)))))), (57, Is (.bool (((f == e) || ((e == 3) && decide (0 < x)))))), (58, Is (.bool (((f == e) || ((e == 3) && decide (0 < x)))))), (59, Is (wantV (!((f == e) || ((e == 3) && decide (0 < x)))) (.int .i64 (e)))), (60, Is (wantV (!((f == e) || ((e == 3) && decide (0 < x)))) (.bool ((e == 2))))), (61, Is (.bool (true))), (62, Is (.bool (true))), (63, Is (.string ⟨#[]⟩)), (64, Is (.bool (true))), (65, Is (.bool (true))), (66, Is (.bool (true))), (67, Is (.bool (true))), (68, Is (.bool (true))), (4, Is (.bool (true)))] rfl (by kernel_rfl) ?_ ?_
    · refine steps_cons rfl (fun A_ W hb hr hg K hK => ?_) <| steps_cons rfl (fun A_ W hb hr hg K hK => ?_) <| steps_cons rfl (fun A_ W hb hr hg K hK => ?_) <| steps_cons rfl (fun A_ W hb hr hg K hK => ?_) <| steps_guard (fun A_ W hb hr hg K hK => ?_) <| steps_guard (fun A_ W hb hr hg K hK => ?_) <| steps_guard (fun A_ W hb hr hg K hK => ?_) <| steps_guard (fun A_ W hb hr hg K hK => ?_) <| steps_guard (fun A_ W hb hr hg K hK => ?_) <| steps_guard (fun A_ W hb hr hg K hK => ?_) <| steps_cons rfl (fun A_ W hb hr hg K hK => ?_) <| steps_cons rfl (fun A_ W hb hr hg K hK => ?_) <| steps_guard (fun A_ W hb hr hg K hK => ?_) <| steps_guard (fun A_ W hb hr hg K hK => ?_) <| steps_cons rfl (fun A_ W hb hr hg K hK => ?_) <| steps_cons rfl (fun A_ W hb hr hg K hK => ?_) <| steps_guard (fun A_ W hb hr hg K hK => ?_) <| steps_guard (fun A_ W hb hr hg K hK => ?_) <| steps_cons rfl (fun A_ W hb hr hg K hK => ?_) <| steps_cons rfl (fun A_ W hb hr hg K hK => ?_) <| steps_guard (fun A_ W hb hr hg K hK => ?_) <| steps_cons rfl (fun A_ W hb hr hg K hK => ?_) <| steps_cons rfl (fun A_ W hb hr hg K hK => ?_) trivial
      · have e0 : A_.tmps[8]?.getD undef = .int .i64 (f) := hb 8 (by kernel_rfl)
        clear hb hr
        go_simp
        exact hK _ _ (Below.refl _ _) (rfl)
      · have e0 : A_.tmps[6]?.getD undef = .int .i64 (e) := hb 6 (by kernel_rfl)
        clear hb hr
        go_simp
        exact hK _ _ (Below.refl _ _) (rfl)
      · have e0 : A_.tmps[47]?.getD undef = .int .i64 (f) := hr 47 (by kernel_rfl)
        have e1 : A_.tmps[48]?.getD undef = .int .i64 (e) := hr 48 (by kernel_rfl)
        clear hb hr
        go_simp
        exact hK _ _ (Below.refl _ _) (rfl)
      · have e0 : A_.tmps[49]?.getD undef = .bool ((f == e)) := hr 49 (by kernel_rfl)
        clear hb hr
        go_simp
        exact hK _ _ (Below.refl _ _) (rfl)
      · have eG : A_.tmps[50]?.getD undef = .bool ((f == e)) := hr 50 (by kernel_rfl)
        have e0 : A_.tmps[6]?.getD undef = .int .i64 (e) := hb 6 (by kernel_rfl)
        clear hb hr
        refine guard_f rfl (by kernel_rfl) eG (fun hc => ?_) (fun hn => ?_)
        · clear eG
          have eo : (!(f == e)) = true := by simp only [hc, Bool.not_false, Bool.not_true, Bool.and_self, Bool.true_and, Bool.and_true, Bool.and_false, Bool.false_and]
          go_simp
          exact hK _ _ (Below.refl _ _) (wantV_eq eo (rfl))
        · exact hK _ _ (Below.refl _ _) (show undef = wantV (!(f == e)) (.int .i64 (e)) from (wantV_neg hn).symm)
      · have eG : A_.tmps[50]?.getD undef = .bool ((f == e)) := hr 50 (by kernel_rfl)
        have e0 : A_.tmps[51]?.getD undef = wantV (!(f == e)) (.int .i64 (e)) := hr 51 (by kernel_rfl)
        clear hb hr
        refine guard_f rfl (by kernel_rfl) eG (fun hc => ?_) (fun hn => ?_)
        · clear eG
          have eo : (!(f == e)) = true := by simp only [hc, Bool.not_false, Bool.not_true, Bool.and_self, Bool.true_and, Bool.and_true, Bool.and_false, Bool.false_and]
          replace e0 : A_.tmps[51]?.getD undef = .int .i64 (e) := e0.trans (wantV_pos (by simp only [hc, Bool.not_false, Bool.not_true, Bool.and_self, Bool.true_and, Bool.and_true, Bool.and_false, Bool.false_and]))
          go_simp
          exact hK _ _ (Below.refl _ _) (wantV_eq eo (rfl))
        · exact hK _ _ (Below.refl _ _) (show undef = wantV (!(f == e)) (.bool ((e == 3))) from (wantV_neg hn).symm)
      · have eG : A_.tmps[50]?.getD undef = .bool ((f == e)) := hr 50 (by kernel_rfl)
        have e0 : A_.tmps[52]?.getD undef = wantV (!(f == e)) (.bool ((e == 3))) := hr 52 (by kernel_rfl)
        clear hb hr
        refine guard_f rfl (by kernel_rfl) eG (fun hc => ?_) (fun hn => ?_)
        · clear eG
          have eo : (!(f == e)) = true := by simp only [hc, Bool.not_false, Bool.not_true, Bool.and_self, Bool.true_and, Bool.and_true, Bool.and_false, Bool.false_and]
          replace e0 : A_.tmps[52]?.getD undef = .bool ((e == 3)) := e0.trans (wantV_pos (by simp only [hc, Bool.not_false, Bool.not_true, Bool.and_self, Bool.true_and, Bool.and_true, Bool.and_false, Bool.false_and]))
          go_simp
          exact hK _ _ (Below.refl _ _) (wantV_eq eo (rfl))
        · exact hK _ _ (Below.refl _ _) (show undef = wantV (!(f == e)) (.bool ((e == 3))) from (wantV_neg hn).symm)
      · have eG : A_.tmps[53]?.getD undef = wantV (!(f == e)) (.bool ((e == 3))) := hr 53 (by kernel_rfl)
        have e0 : A_.tmps[7]?.getD undef = .int .i64 (x) := hb 7 (by kernel_rfl)
        clear hb hr
        refine guard_tt rfl (by kernel_rfl) eG (fun hp hc => ?_) (fun hn => ?_)
        · clear eG
          have eo : ((!(f == e) && (e == 3))) = true := by simp only [hp, hc, Bool.not_false, Bool.not_true, Bool.and_self, Bool.true_and, Bool.and_true, Bool.and_false, Bool.false_and]
          go_simp
          exact hK _ _ (Below.refl _ _) (wantV_eq eo (rfl))
        · exact hK _ _ (Below.refl _ _) (show undef = wantV ((!(f == e) && (e == 3))) (.int .i64 (x)) from (wantV_neg hn).symm)
      · have eG : A_.tmps[53]?.getD undef = wantV (!(f == e)) (.bool ((e == 3))) := hr 53 (by kernel_rfl)
        have e0 : A_.tmps[54]?.getD undef = wantV ((!(f == e) && (e == 3))) (.int .i64 (x)) := hr 54 (by kernel_rfl)
        clear hb hr
        refine guard_tt rfl (by kernel_rfl) eG (fun hp hc => ?_) (fun hn => ?_)
        · clear eG
          have eo : ((!(f == e) && (e == 3))) = true := by simp only [hp, hc, Bool.not_false, Bool.not_true, Bool.and_self, Bool.true_and, Bool.and_true, Bool.and_false, Bool.false_and]
          replace e0 : A_.tmps[54]?.getD undef = .int .i64 (x) := e0.trans (wantV_pos (by simp only [hp, hc, Bool.not_false, Bool.not_true, Bool.and_self, Bool.true_and, Bool.and_true, Bool.and_false, Bool.false_and]))
          go_simp
          exact hK _ _ (Below.refl _ _) (wantV_eq eo (rfl))
        · exact hK _ _ (Below.refl _ _) (show undef = wantV ((!(f == e) && (e == 3))) (.bool (decide (0 < x))) from (wantV_neg hn).symm)
      · have eG : A_.tmps[50]?.getD undef = .bool ((f == e)) := hr 50 (by kernel_rfl)
        have e0 : A_.tmps[53]?.getD undef = wantV (!(f == e)) (.bool ((e == 3))) := hr 53 (by kernel_rfl)
        have e1 : A_.tmps[55]?.getD undef = wantV ((!(f == e) && (e == 3))) (.bool (decide (0 < x))) := hr 55 (by kernel_rfl)
        clear hb hr
        refine guard_f rfl (by kernel_rfl) eG (fun hc => ?_) (fun hn => ?_)
        · clear eG
          have eo : (!(f == e)) = true := by simp only [hc, Bool.not_false, Bool.not_true, Bool.and_self, Bool.true_and, Bool.and_true, Bool.and_false, Bool.false_and]
          replace e0 : A_.tmps[53]?.getD undef = .bool ((e == 3)) := e0.trans (wantV_pos (by simp only [hc, Bool.not_false, Bool.not_true, Bool.and_self, Bool.true_and, Bool.and_true, Bool.and_false, Bool.false_and]))
          rcases Bool.eq_false_or_eq_true ((e == 3)) with hq | hq
          · replace e0 : A_.tmps[53]?.getD undef = .bool true := e0.trans (congrArg Value.bool hq)
            replace e1 : A_.tmps[55]?.getD undef = .bool (decide (0 < x)) := e1.trans (wantV_pos (by simp only [hc, hq, Bool.not_false, Bool.not_true, Bool.and_self, Bool.true_and, Bool.and_true, Bool.and_false, Bool.false_and]))
            go_simp
            exact hK _ _ (Below.refl _ _) (wantV_eq eo (congrArg Value.bool (and_t hq).symm))
          · replace e0 : A_.tmps[53]?.getD undef = .bool false := e0.trans (congrArg Value.bool hq)
            replace e1 : A_.tmps[55]?.getD undef = undef := e1.trans (wantV_neg (by simp only [hc, hq, Bool.not_false, Bool.not_true, Bool.and_self, Bool.true_and, Bool.and_true, Bool.and_false, Bool.false_and]))
            go_simp
            exact hK _ _ (Below.refl _ _) (wantV_eq eo (congrArg Value.bool (and_f hq).symm))
        · exact hK _ _ (Below.refl _ _) (show undef = wantV (!(f == e)) (.bool (((e == 3) && decide (0 < x)))) from (wantV_neg hn).symm)
      · have e0 : A_.tmps[50]?.getD undef = .bool ((f == e)) := hr 50 (by kernel_rfl)
        have e1 : A_.tmps[56]?.getD undef = wantV (!(f == e)) (.bool (((e == 3) && decide (0 < x)))) := hr 56 (by kernel_rfl)
        clear hb hr
        rcases Bool.eq_false_or_eq_true ((f == e)) with hq | hq
        · replace e0 : A_.tmps[50]?.getD undef = .bool true := e0.trans (congrArg Value.bool hq)
          replace e1 : A_.tmps[56]?.getD undef = undef := e1.trans (wantV_neg (by simp only [hq, Bool.not_false, Bool.not_true, Bool.and_self, Bool.true_and, Bool.and_true, Bool.and_false, Bool.false_and]))
          go_simp
          exact hK _ _ (Below.refl _ _) (congrArg Value.bool (or_t hq).symm)
        · replace e0 : A_.tmps[50]?.getD undef = .bool false := e0.trans (congrArg Value.bool hq)
          replace e1 : A_.tmps[56]?.getD undef = .bool (((e == 3) && decide (0 < x))) := e1.trans (wantV_pos (by simp only [hq, Bool.not_false, Bool.not_true, Bool.and_self, Bool.true_and, Bool.and_true, Bool.and_false, Bool.false_and]))
          go_simp
          exact hK _ _ (Below.refl _ _) (congrArg Value.bool (or_f hq).symm)
      · have e0 : A_.tmps[57]?.getD undef = .bool (((f == e) || ((e == 3) && decide (0 < x)))) := hr 57 (by kernel_rfl)
        clear hb hr
        go_simp
        exact hK _ _ (Below.refl _ _) (rfl)
      · have eG : A_.tmps[58]?.getD undef = .bool (((f == e) || ((e == 3) && decide (0 < x)))) := hr 58 (by kernel_rfl)
        have e0 : A_.tmps[6]?.getD undef = .int .i64 (e) := hb 6 (by kernel_rfl)
        clear hb hr
        refine guard_f rfl (by kernel_rfl) eG (fun hc => ?_) (fun hn => ?_)
        · clear eG
          have eo : (!((f == e) || ((e == 3) && decide (0 < x)))) = true := by simp only [hc, Bool.not_false, Bool.not_true, Bool.and_self, Bool.true_and, Bool.and_true, Bool.and_false, Bool.false_and]
          go_simp
          exact hK _ _ (Below.refl _ _) (wantV_eq eo (rfl))
        · exact hK _ _ (Below.refl _ _) (show undef = wantV (!((f == e) || ((e == 3) && decide (0 < x)))) (.int .i64 (e)) from (wantV_neg hn).symm)
      · have eG : A_.tmps[58]?.getD undef = .bool (((f == e) || ((e == 3) && decide (0 < x)))) := hr 58 (by kernel_rfl)
        have e0 : A_.tmps[59]?.getD undef = wantV (!((f == e) || ((e == 3) && decide (0 < x)))) (.int .i64 (e)) := hr 59 (by kernel_rfl)
        clear hb hr
        refine guard_f rfl (by kernel_rfl) eG (fun hc => ?_) (fun hn => ?_)
        · clear eG
          have eo : (!((f == e) || ((e == 3) && decide (0 < x)))) = true := by simp only [hc, Bool.not_false, Bool.not_true, Bool.and_self, Bool.true_and, Bool.and_true, Bool.and_false, Bool.false_and]
          replace e0 : A_.tmps[59]?.getD undef = .int .i64 (e) := e0.trans (wantV_pos (by simp only [hc, Bool.not_false, Bool.not_true, Bool.and_self, Bool.true_and, Bool.and_true, Bool.and_false, Bool.false_and]))
          go_simp
          exact hK _ _ (Below.refl _ _) (wantV_eq eo (rfl))
        · exact hK _ _ (Below.refl _ _) (show undef = wantV (!((f == e) || ((e == 3) && decide (0 < x)))) (.bool ((e == 2))) from (wantV_neg hn).symm)
      · have e0 : A_.tmps[58]?.getD undef = .bool (((f == e) || ((e == 3) && decide (0 < x)))) := hr 58 (by kernel_rfl)
        have e1 : A_.tmps[60]?.getD undef = wantV (!((f == e) || ((e == 3) && decide (0 < x)))) (.bool ((e == 2))) := hr 60 (by kernel_rfl)
        clear hb hr
        rcases Bool.eq_false_or_eq_true (((f == e) || ((e == 3) && decide (0 < x)))) with hq | hq
        · replace e0 : A_.tmps[58]?.getD undef = .bool true := e0.trans (congrArg Value.bool hq)
          replace e1 : A_.tmps[60]?.getD undef = undef := e1.trans (wantV_neg (by simp only [hq, Bool.not_false, Bool.not_true, Bool.and_self, Bool.true_and, Bool.and_true, Bool.and_false, Bool.false_and]))
          go_simp
          exact hK _ _ (Below.refl _ _) (Eq.trans (show _ = Value.bool ((((f == e) || ((e == 3) && decide (0 < x))) || (e == 2))) from congrArg Value.bool (or_t hq).symm) (congrArg Value.bool H_T.out))
        · replace e0 : A_.tmps[58]?.getD undef = .bool false := e0.trans (congrArg Value.bool hq)
          replace e1 : A_.tmps[60]?.getD undef = .bool ((e == 2)) := e1.trans (wantV_pos (by simp only [hq, Bool.not_false, Bool.not_true, Bool.and_self, Bool.true_and, Bool.and_true, Bool.and_false, Bool.false_and]))
          go_simp
          exact hK _ _ (Below.refl _ _) (Eq.trans (show _ = Value.bool ((((f == e) || ((e == 3) && decide (0 < x))) || (e == 2))) from congrArg Value.bool (or_f hq).symm) (congrArg Value.bool H_T.out))
      · have e0 : A_.tmps[61]?.getD undef = .bool (true) := hr 61 (by kernel_rfl)
        clear hb hr
        go_simp
        exact hK _ _ (Below.refl _ _) (rfl)
      · have eG : A_.tmps[62]?.getD undef = .bool (true) := hr 62 (by kernel_rfl)
        have e0 : A_.tmps[5]?.getD undef = .string ⟨#[]⟩ := hb 5 (by kernel_rfl)
        clear hb hr
        refine guard_on rfl (by kernel_rfl) eG ?_
        clear eG
        go_simp
        exact hK _ _ (Below.refl _ _) (rfl)
      · have eG : A_.tmps[62]?.getD undef = .bool (true) := hr 62 (by kernel_rfl)
        have e0 : A_.tmps[63]?.getD undef = .string ⟨#[]⟩ := hr 63 (by kernel_rfl)
        clear hb hr
        refine guard_on rfl (by kernel_rfl) eG ?_
        clear eG
        go_simp; exact hK _ _ (Below.refl _ _) (rfl)
      · have e0 : A_.tmps[62]?.getD undef = .bool (true) := hr 62 (by kernel_rfl)
        have e1 : A_.tmps[64]?.getD undef = .bool (true) := hr 64 (by kernel_rfl)
        clear hb hr
        go_simp
        exact hK _ _ (Below.refl _ _) (rfl)
      · have e0 : A_.tmps[65]?.getD undef = .bool (true) := hr 65 (by kernel_rfl)
        clear hb hr
        go_simp
        exact hK _ _ (Below.refl _ _) (rfl)
      · have eG : A_.tmps[66]?.getD undef = .bool (true) := hr 66 (by kernel_rfl)
        clear hb hr
        refine guard_on rfl (by kernel_rfl) eG ?_
        clear eG
        go_simp
        refine (AL.out _).mono ?_; rintro e w5 ⟨rfl, hb5⟩
        exact hK _ _ hb5 (rfl)
      · have e0 : A_.tmps[66]?.getD undef = .bool (true) := hr 66 (by kernel_rfl)
        have e1 : A_.tmps[67]?.getD undef = .bool (true) := hr 67 (by kernel_rfl)
        clear hb hr
        go_simp
        exact hK _ _ (Below.refl _ _) (rfl)
      · have e0 : A_.tmps[68]?.getD undef = .bool (true) := hr 68 (by kernel_rfl)
        clear hb hr
        go_simp
        exact hK _ _ (Below.refl _ _) (rfl)
    rintro g3 w3 hb3 ⟨-, -, -, -, -, -, -, -, -, -, -, -, -, -, -, -, -, -, -, -, -, -, h4, -⟩
    simp only [List.drop_succ_cons, List.drop_zero, List.take_succ_cons, List.take_zero, putHead, Option.getD_some, Act.put, List.setIfInBounds_toArray, List.set_cons_zero, List.set_cons_succ]
    replace h4 : g3 4 = .bool (true) := h4
    generalize g3 4 = v4 at *
    subst h4
    have B3 := Lib.hid (bstep B2.out hb3); clear hb3
    go_wp2_with fail
    go_ret
    exact ⟨rfl, B3.out⟩

end Go.Proofs.Ytlkdahgfnfdakaa

namespace Go.Proofs.Ytlkdahgfnfdakaa
open Go.ChangeShapes Go.WideShapes Go.ChangeAt Go.RowKit
open Go.ChangeMaps (open_string shut_string)

set_option maxRecDepth 100000 in
theorem simplest_lifted (os : Os) (started : os.Started) (H : Type) (enc : TypeId × Value → H) :
    ReturnsInHanded {} Try.checked os 13 .any (Rows.ratSimplestSpec.pre6 enc Try.prog Try.f13 Rows.ratSimplestRow.domain false) (Rows.ratSimplestSpec.post enc Try.prog Try.f13 false true false false) := by
  refine returnsInHanded_of_change_sized (C := Try.checked) Try.own started (by kernel_rfl) Try.func13
    (ChangeSpec.witness6 (enc := enc) (C := Try.checked) false ⟨#[], #[.string ⟨#[]⟩, .string ⟨#[]⟩], []⟩ 8 (by kernel_rfl) (by kernel_rfl) (by kernel_rfl) (by kernel_rfl)) ?_
  intro W base args ds gs before hval0 hW hcnd hsz0 _
  have hsz : (DataW.weightsEach Try.prog (Try.f13.params.toList ++ Rows.ratSimplestSpec.plain.varTypes Try.prog) (ds ++ gs)).all (· ≤ reachBytes) = true := hsz0
  clear hsz0
  have hval : ∀ (j : Nat) t v, Try.f13.params[j]? = some t → args[j]? = some v → Value.okWide Try.prog W .any base t v := hval0
  have hW1 := hW
  obtain ⟨p, q, hA0, hV, rfl, hfz, hnd⟩ := hW
  have hA : DataW.TrodAll enc Try.prog W 0 (fun _ => true) true Try.f13.params.toList args.toList ds p := hA0
  rw [Try.params13] at hA hval hsz
  obtain ⟨v0, v1, d0, d1, p0, p1, rfl, rfl, rfl, h0, h1⟩ := trodAll_two hA
  obtain ⟨rfl, rfl⟩ := trodVars_none hV
  obtain ⟨a, rfl, rfl, rfl, wa⟩ := open_string Try.underlying9 (hval 0 9 v0 rfl rfl) h0
  obtain ⟨b, rfl, rfl, rfl, wb⟩ := open_string Try.underlying9 (hval 1 9 v1 rfl rfl) h1
  clear hA0 hval0
  simp only [List.append_nil] at hW1
  have sa : a.size ≤ 140737488355328 := size_of (sized_string hsz (j := 0) (t := 9) rfl rfl)
  have sb : b.size ≤ 140737488355328 := size_of (sized_string hsz (j := 1) (t := 9) rfl rfl)
  refine (simplest_law W a b sa sb).mono fun e W1 ⟨he, hw⟩ => ?_
  subst he
  exact ⟨_, rfl, post_new hW1 hw (fun _ _ _ => trodAll_mk1 (shut_bool Try.underlying4 true)) (fun _ => trodAll_mk2 (shut_string Try.underlying9 wa) (shut_string Try.underlying9 wb)) (fun _ => rfl)
    (ok_one (by kernel_rfl) rfl (okWide_bool_mk Try.underlying4 true))⟩

theorem simplest_holds : Rows.RatSimplestSaid :=
  OpenClaim.holds_of_wide 13 Try.f13 rfl rfl rfl rfl rfl rfl rfl ⟨rfl, rfl, rfl, rfl, rfl⟩ rfl rfl rfl rfl rfl (by kernel_rfl) Try.func13 (by kernel_rfl)
    (of_decide_eq_true (by kernel_rfl)) (by unfold Func.isWrapper; first | (rw [if_pos (by decide +kernel)]; kernel_rfl) | (rw [if_neg (by decide +kernel)]; exact ⟨rfl, rfl⟩))
    (fun os started H enc _ => simplest_lifted os started H enc)
end Go.Proofs.Ytlkdahgfnfdakaa
