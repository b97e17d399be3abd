/- RatFloor: whatever text it is given, it returns true, and the text reads as it did. No condition. -/
import Derived.Test.YtlkdahgfnfdakaaLawL
namespace Go.Proofs.Ytlkdahgfnfdakaa
open Go Go.RowKit Go.Shelf WN LM

set_option maxHeartbeats 8000000 in
set_option maxRecDepth 100000 in
theorem floor_all (w : World) (a : ByteArray) (ha : a.size ≤ 140737488355328) (hall : isB a = true) : Calls Try.prog 11 #[.string a] w (TrueB w) := by
  have AL : Hid (∀ w, Calls Try.prog 20 #[] w fun e w' => e = .returned (.bool true) ∧ Below w.heap.size w w') := alive_any
  have SU : Hid (∀ w a b, a.size ≤ 140737488355328 → b.size ≤ 140737488355328 → Calls Try.prog 52 #[.string a, .string b] w (OutP w (okS (addT a b)))) := fun w a b h k => sum_law w a b h k
  have CM : Hid (∀ w a b, a.size ≤ 140737488355328 → b.size ≤ 140737488355328 → Calls Try.prog 31 #[.string a, .string b] w (OutI w (cmpT a b))) := fun w a b h k => cmp_any w a b h k
  have SB : Hid (∀ w a b, a.size ≤ 140737488355328 → b.size ≤ 140737488355328 → Calls Try.prog 25 #[.string a, .string b] w (OutS w (subT a b))) := fun w a b h k => sub_any w a b h k
  have MP : Hid (∀ w a b, a.size ≤ 140737488355328 → b.size ≤ 140737488355328 → Calls Try.prog 50 #[.string a, .string b] w (OutB w (multT a b))) := fun w a b h k => multiple_any w a b h k
  have MU : Hid (∀ w a b, a.size ≤ 140737488355328 → b.size ≤ 140737488355328 → Calls Try.prog 27 #[.string a, .string b] w (OutS w (mulT a b))) := fun w a b h k => mul_any w a b h k
  have HA := Lib.hid ha
  go_enter Try.func11, Try.ntmps11
  obtain ⟨x, hx⟩ := isV_of (show (readQ a.data.toList).isSome = true from hall)
  have X := Lib.hid hx; clear hx
  have I1 : Hid (∀ w, Calls Try.prog 18 #[.string a] w fun e w' => e = .returned (.bool true) ∧ Below w.heap.size w w') := fun w => by have := is_any w a ha; rwa [show (readQ a.data.toList).isSome = true from hall] at this
  have FL : Hid (∀ w, Calls Try.prog 33 #[.string a] w (OutS w (floorT a))) := fun w => floor_any w a ha
  have RO : Hid (∀ w, Calls Try.prog 35 #[.string a] w (OutS w (roundT a))) := fun w => round_any w a ha
  have KF : (floorT a).2 = 0 ∨ (floorT a).2 = 2 := one_code X.out
  have KR : (roundT a).2 = 0 ∨ (roundT a).2 = 2 := one_code X.out
  have VF : Hid ((floorT a).2 = 0 → ∃ F : Int, IsV (floorT a).1 (F : Rat) ∧ (F : Rat) ≤ x ∧ x < (F : Rat) + 1) := floorT_isV X.out
  have VR : Hid ((roundT a).2 = 0 → ∃ R : Int, IsV (roundT a).1 (R : Rat) ∧ (R : Rat) - x ≤ mkRat 1 2 ∧ mkRat (-1) 2 ≤ (R : Rat) - x ∧ ((R : Rat) - x = mkRat 1 2 ∨ (R : Rat) - x = mkRat (-1) 2 → R % 2 = 0)) := roundT_isV X.out
  have ZF : Hid ((floorT a).1.size ≤ 1000) := one_size a
  have ZR : Hid ((roundT a).1.size ≤ 1000) := one_size a
  generalize floorT a = r_ at *; obtain ⟨f, ec⟩ := r_
  generalize roundT a = r_ at *; obtain ⟨r, gc⟩ := r_
  replace KF : ec = 0 ∨ ec = 2 := KF
  replace KR : gc = 0 ∨ gc = 2 := KR
  clear hall ha
  rcases KF with rfl | rfl <;> rcases KR with rfl | rfl
  · obtain ⟨N, NV, N1, N2⟩ := VF.out rfl
    obtain ⟨R, RV, R1, R2, R3⟩ := VR.out rfl
    have sf : f.size ≤ 140737488355328 := Nat.le_trans ZF.out (by omega)
    have sr : r.size ≤ 140737488355328 := Nat.le_trans ZR.out (by omega)
    obtain ⟨nf, pf⟩ := parT_int NV
    obtain ⟨nr, pr⟩ := parT_int RV
    have PF : Hid (∀ w, Calls Try.prog 16 #[.string f] w (OutT w (nf, ⟨#[49]⟩, 0))) := fun w => by have := parts_any w f sf; rwa [pf] at this
    have PR : Hid (∀ w, Calls Try.prog 16 #[.string r] w (OutT w (nr, ⟨#[49]⟩, 0))) := fun w => by have := parts_any w r sr; rwa [pr] at this
    have C1 : Hid (∀ w, Calls Try.prog 31 #[.string f, .string a] w (OutI w (cmpR (N : Rat) x, 0))) := fun w => by have := CM.out w f a sf HA.out; rwa [cmpT_isV NV X.out] at this
    have H1 : cmpR (N : Rat) x ≤ 0 := cmpR_le.2 N1
    have S1 : Hid (∀ w, Calls Try.prog 52 #[.string f, .string ⟨#[49]⟩] w (OutP w (okS (addT f ⟨#[49]⟩)))) := fun w => SU.out w f ⟨#[49]⟩ (sf) (by decide)
    have V1 : Hid ((okS (addT f ⟨#[49]⟩)).2 = true → IsV (okS (addT f ⟨#[49]⟩)).1 ((N : Rat) + 1)) := fun h => addT_isV NV isV_one (by simpa [okS] using h)
    have Z1 : Hid ((okS (addT f ⟨#[49]⟩)).1.size ≤ 1000) := addT_size f ⟨#[49]⟩
    generalize okS (addT f ⟨#[49]⟩) = q_ at *; obtain ⟨more, k⟩ := q_
    have C2 := Lib.hid (fun w => CM.out w more a (Nat.le_trans Z1.out (by omega)) HA.out)
    have V2 : k = true → 0 < (cmpT more a).1 := fun h => by rw [cmpT_isV (V1.out h) X.out]; exact cmpR_pos.2 N2
    have D1 := Lib.hid (fun w => SB.out w r a sr HA.out)
    have V3 : Hid ((subT r a).2 = 0 → IsV (subT r a).1 ((R : Rat) - x)) := fun h => subT_isV RV X.out h
    have sd : (subT r a).1.size ≤ 140737488355328 := Nat.le_trans (subT_size r a) (by omega)
    have C3 := Lib.hid (fun w => CM.out w (subT r a).1 ⟨#[49, 47, 50]⟩ sd (by decide))
    have C4 := Lib.hid (fun w => CM.out w (subT r a).1 ⟨#[45, 49, 47, 50]⟩ sd (by decide))
    have U1 : (subT r a).2 = 0 → (cmpT (subT r a).1 ⟨#[49, 47, 50]⟩).1 ≤ 0 := fun h => by rw [cmpT_isV (V3.out h) isV_half]; exact cmpR_le.2 R1
    have U2 : (subT r a).2 = 0 → 0 ≤ (cmpT (subT r a).1 ⟨#[45, 49, 47, 50]⟩).1 := fun h => by rw [cmpT_isV (V3.out h) isV_mhalf]; exact cmpR_ge.2 R2
    have U3 : (subT r a).2 = 0 → (cmpT (subT r a).1 ⟨#[49, 47, 50]⟩).1 = 0 ∨ (cmpT (subT r a).1 ⟨#[45, 49, 47, 50]⟩).1 = 0 → ((multT r ⟨#[50]⟩).1 || (multT (mulT r ⟨#[45, 49]⟩).1 ⟨#[50]⟩).1) = true := fun h h2 => by
      rw [cmpT_isV (V3.out h) isV_half, cmpT_isV (V3.out h) isV_mhalf] at h2
      refine even_two RV (R3 ?_)
      rcases h2 with h2 | h2
      · exact Or.inl (cmpR_zero.1 h2)
      · exact Or.inr (cmpR_zero.1 h2)
    have KD : (subT r a).2 = 0 ∨ (subT r a).2 = 2 := two_code RV X.out
    have E1 := Lib.hid (fun w => MP.out w r ⟨#[50]⟩ sr (by decide))
    have E2 := Lib.hid (fun w => MU.out w r ⟨#[45, 49]⟩ sr (by decide))
    have E3 := Lib.hid (fun w => MP.out w (mulT r ⟨#[45, 49]⟩).1 ⟨#[50]⟩ (Nat.le_trans (mulT_size r _) (by omega)) (by decide))
    clear V1 V3 VF VR NV N1 N2 RV R1 R2 R3 X SU CM SB MP MU sf sr pf pr sd Z1 ZF ZR HA
    generalize cmpR (N : Rat) x = cx at *
    generalize cmpT more a = q_ at *; obtain ⟨cy, cyc⟩ := q_
    generalize cmpT (subT r a).1 ⟨#[49, 47, 50]⟩ = q_ at *; obtain ⟨cu, cuc⟩ := q_
    generalize cmpT (subT r a).1 ⟨#[45, 49, 47, 50]⟩ = q_ at *; obtain ⟨cv, cvc⟩ := q_
    generalize multT r ⟨#[50]⟩ = q_ at *; obtain ⟨ev, evc⟩ := q_
    generalize multT (mulT r ⟨#[45, 49]⟩).1 ⟨#[50]⟩ = q_ at *; obtain ⟨od, odc⟩ := q_
    generalize mulT r ⟨#[45, 49]⟩ = q_ at *; obtain ⟨mi, mic⟩ := q_
    generalize subT r a = q_ at *; obtain ⟨di, dc⟩ := q_
    replace V2 : k = true → 0 < cy := V2
    replace KD : dc = 0 ∨ dc = 2 := KD
    replace U1 : Hid (dc = 0 → cu ≤ 0) := U1
    replace U2 : Hid (dc = 0 → 0 ≤ cv) := U2
    replace U3 : Hid (dc = 0 → cu = 0 ∨ cv = 0 → (ev || od) = true) := U3
    replace D1 : Hid (∀ w, Calls Try.prog 25 #[.string r, .string a] w (OutS w (di, dc))) := D1
    replace C3 : Hid (∀ w, Calls Try.prog 31 #[.string di, .string ⟨#[49, 47, 50]⟩] w (OutI w (cu, cuc))) := C3
    replace C4 : Hid (∀ w, Calls Try.prog 31 #[.string di, .string ⟨#[45, 49, 47, 50]⟩] w (OutI w (cv, cvc))) := C4
    replace E3 : Hid (∀ w, Calls Try.prog 50 #[.string mi, .string ⟨#[50]⟩] w (OutB w (od, odc))) := E3
    have T12 : (decide (0 < cx) || (k && decide (cy ≤ 0))) = false := by
      rw [decide_eq_false (show ¬ 0 < cx by omega)]
      cases k
      · rfl
      · rw [decide_eq_false (show ¬ cy ≤ 0 by have := V2 rfl; omega)]; rfl
    clear V2 H1
    go_wp2_with fail
    refine (FL.out _).mono ?_; rintro e w1 ⟨rfl, hb1⟩
    have B1 := Lib.hid hb1; clear hb1
    go_wp2_with fail
    refine (RO.out _).mono ?_; rintro e w2 ⟨rfl, hb2⟩
    have B2 := Lib.hid (bstep B1.out hb2); clear hb2
    go_wp2_with fail
    refine (I1.out _).mono ?_; rintro e w3 ⟨rfl, hb3⟩
    have B3 := Lib.hid (bstep B2.out hb3); clear hb3
    go_wp2_with fail
    refine (PF.out _).mono ?_; rintro e w4 ⟨rfl, hb4⟩
    have B4 := Lib.hid (bstep B3.out hb4); clear hb4
    go_wp2_with fail
    refine (PR.out _).mono ?_; rintro e w5 ⟨rfl, hb5⟩
    have B5 := Lib.hid (bstep B4.out hb5); clear hb5
    go_wp2_with fail
    refine (C1.out _).mono ?_; rintro e w6 ⟨rfl, hb6⟩
    have B6 := Lib.hid (bstep B5.out hb6); clear hb6
    go_wp2_with fail
    refine (S1.out _).mono ?_; rintro e w7 ⟨rfl, hb7⟩
    have B7 := Lib.hid (bstep B6.out hb7); clear hb7
    go_wp2_with fail
    refine (C2.out _).mono ?_; rintro e w8 ⟨rfl, hb8⟩
    have B8 := Lib.hid (bstep B7.out hb8); clear hb8
    have H_T12 := Lib.hid T12; clear T12
    simp only []
    repeat (first | with_reducible apply stop_at (r := 12) | go_step)
    apply Lib.hid
    refine region_seq 17 179 [(105, Is (.string ⟨#[49]⟩)), (106, Is (.bool (false))), (107, Is (.bool (false))), (108, Is (.string ⟨#[49]⟩)), (109, Is (.bool (false))), (110, Is (.bool (false))), (111, Is (.bool (false))), (112, Is (.int .i64 (cx))), (113, Is (.bool (decide (0 < cx)))), (114, Is (.bool (decide (0 < cx)))), (115, Is (.bool (decide (0 < cx)))), (116, Is (wantV (!decide (0 < cx)) (.bool (k)))), (117, Is (wantV (!decide (0 < cx)) (.bool (k)))), (118, Is (wantV ((!decide (0 < cx) && k)) (.int .i64 (cy)))), (119, Is (wantV ((!decide (0 < cx) && k)) (.bool (decide (cy ≤ 0))))), (120, Is (wantV (!decide (0 < cx)) (.bool ((k && decide (cy ≤ 0)))))), (121, Is (.bool ((decide (0 < cx) || (k && decide (cy ≤ 0))))))] rfl (by kernel_rfl) ?_ ?_
    · refine steps_cons rfl (fun A_ W hb hr hg K hK => ?_) <| steps_cons rfl (fun A_ W hb hr hg K hK => ?_) <| steps_cons rfl (fun A_ W hb hr hg K hK => ?_) <| steps_guard (fun A_ W hb hr hg K hK => ?_) <| steps_guard (fun A_ W hb hr hg K hK => ?_) <| steps_cons rfl (fun A_ W hb hr hg K hK => ?_) <| steps_cons rfl (fun A_ W hb hr hg K hK => ?_) <| steps_guard (fun A_ W hb hr hg K hK => ?_) <| steps_guard (fun A_ W hb hr hg K hK => ?_) <| steps_cons rfl (fun A_ W hb hr hg K hK => ?_) <| steps_cons rfl (fun A_ W hb hr hg K hK => ?_) <| steps_guard (fun A_ W hb hr hg K hK => ?_) <| steps_guard (fun A_ W hb hr hg K hK => ?_) <| steps_guard (fun A_ W hb hr hg K hK => ?_) <| steps_guard (fun A_ W hb hr hg K hK => ?_) <| steps_guard (fun A_ W hb hr hg K hK => ?_) <| steps_cons rfl (fun A_ W hb hr hg K hK => ?_) trivial
      · have e0 : A_.tmps[8]?.getD undef = .string ⟨#[49]⟩ := hb 8 (by kernel_rfl)
        clear hb hr
        go_simp
        exact hK _ _ (Below.refl _ _) (rfl)
      · have e0 : A_.tmps[105]?.getD undef = .string ⟨#[49]⟩ := hr 105 (by kernel_rfl)
        clear hb hr
        go_simp
        exact hK _ _ (Below.refl _ _) (rfl)
      · have e0 : A_.tmps[106]?.getD undef = .bool (false) := hr 106 (by kernel_rfl)
        clear hb hr
        go_simp
        exact hK _ _ (Below.refl _ _) (rfl)
      · have eG : A_.tmps[107]?.getD undef = .bool (false) := hr 107 (by kernel_rfl)
        have e0 : A_.tmps[11]?.getD undef = .string ⟨#[49]⟩ := hb 11 (by kernel_rfl)
        clear hb hr
        refine guard_on rfl (by kernel_rfl) eG ?_
        clear eG
        go_simp
        exact hK _ _ (Below.refl _ _) (rfl)
      · have eG : A_.tmps[107]?.getD undef = .bool (false) := hr 107 (by kernel_rfl)
        have e0 : A_.tmps[108]?.getD undef = .string ⟨#[49]⟩ := hr 108 (by kernel_rfl)
        clear hb hr
        refine guard_on rfl (by kernel_rfl) eG ?_
        clear eG
        go_simp
        exact hK _ _ (Below.refl _ _) (rfl)
      · have e0 : A_.tmps[107]?.getD undef = .bool (false) := hr 107 (by kernel_rfl)
        have e1 : A_.tmps[109]?.getD undef = .bool (false) := hr 109 (by kernel_rfl)
        clear hb hr
        go_simp
        exact hK _ _ (Below.refl _ _) (rfl)
      · have e0 : A_.tmps[110]?.getD undef = .bool (false) := hr 110 (by kernel_rfl)
        clear hb hr
        go_simp
        exact hK _ _ (Below.refl _ _) (rfl)
      · have eG : A_.tmps[111]?.getD undef = .bool (false) := hr 111 (by kernel_rfl)
        have e0 : A_.tmps[13]?.getD undef = .int .i64 (cx) := hb 13 (by kernel_rfl)
        clear hb hr
        refine guard_on rfl (by kernel_rfl) eG ?_
        clear eG
        go_simp
        exact hK _ _ (Below.refl _ _) (rfl)
      · have eG : A_.tmps[111]?.getD undef = .bool (false) := hr 111 (by kernel_rfl)
        have e0 : A_.tmps[112]?.getD undef = .int .i64 (cx) := hr 112 (by kernel_rfl)
        clear hb hr
        refine guard_on rfl (by kernel_rfl) eG ?_
        clear eG
        go_simp
        exact hK _ _ (Below.refl _ _) (rfl)
      · have e0 : A_.tmps[111]?.getD undef = .bool (false) := hr 111 (by kernel_rfl)
        have e1 : A_.tmps[113]?.getD undef = .bool (decide (0 < cx)) := hr 113 (by kernel_rfl)
        clear hb hr
        go_simp
        exact hK _ _ (Below.refl _ _) (rfl)
      · have e0 : A_.tmps[114]?.getD undef = .bool (decide (0 < cx)) := hr 114 (by kernel_rfl)
        clear hb hr
        go_simp
        exact hK _ _ (Below.refl _ _) (rfl)
      · have eG : A_.tmps[115]?.getD undef = .bool (decide (0 < cx)) := hr 115 (by kernel_rfl)
        have e0 : A_.tmps[16]?.getD undef = .bool (k) := hb 16 (by kernel_rfl)
        clear hb hr
        refine guard_f rfl (by kernel_rfl) eG (fun hc => ?_) (fun hn => ?_)
        · clear eG
          have eo : (!decide (0 < cx)) = true := by simp only [hc, Bool.not_false, Bool.not_true, Bool.and_self, Bool.true_and, Bool.and_true, Bool.and_false, Bool.false_and]
          go_simp
          exact hK _ _ (Below.refl _ _) (wantV_eq eo (rfl))
        · exact hK _ _ (Below.refl _ _) (show undef = wantV (!decide (0 < cx)) (.bool (k)) from (wantV_neg hn).symm)
      · have eG : A_.tmps[115]?.getD undef = .bool (decide (0 < cx)) := hr 115 (by kernel_rfl)
        have e0 : A_.tmps[116]?.getD undef = wantV (!decide (0 < cx)) (.bool (k)) := hr 116 (by kernel_rfl)
        clear hb hr
        refine guard_f rfl (by kernel_rfl) eG (fun hc => ?_) (fun hn => ?_)
        · clear eG
          have eo : (!decide (0 < cx)) = true := by simp only [hc, Bool.not_false, Bool.not_true, Bool.and_self, Bool.true_and, Bool.and_true, Bool.and_false, Bool.false_and]
          replace e0 : A_.tmps[116]?.getD undef = .bool (k) := e0.trans (wantV_pos (by simp only [hc, Bool.not_false, Bool.not_true, Bool.and_self, Bool.true_and, Bool.and_true, Bool.and_false, Bool.false_and]))
          go_simp
          exact hK _ _ (Below.refl _ _) (wantV_eq eo (rfl))
        · exact hK _ _ (Below.refl _ _) (show undef = wantV (!decide (0 < cx)) (.bool (k)) from (wantV_neg hn).symm)
      · have eG : A_.tmps[117]?.getD undef = wantV (!decide (0 < cx)) (.bool (k)) := hr 117 (by kernel_rfl)
        have e0 : A_.tmps[17]?.getD undef = .int .i64 (cy) := hb 17 (by kernel_rfl)
        clear hb hr
        refine guard_tt rfl (by kernel_rfl) eG (fun hp hc => ?_) (fun hn => ?_)
        · clear eG
          have eo : ((!decide (0 < cx) && k)) = true := by simp only [hp, hc, Bool.not_false, Bool.not_true, Bool.and_self, Bool.true_and, Bool.and_true, Bool.and_false, Bool.false_and]
          go_simp
          exact hK _ _ (Below.refl _ _) (wantV_eq eo (rfl))
        · exact hK _ _ (Below.refl _ _) (show undef = wantV ((!decide (0 < cx) && k)) (.int .i64 (cy)) from (wantV_neg hn).symm)
      · have eG : A_.tmps[117]?.getD undef = wantV (!decide (0 < cx)) (.bool (k)) := hr 117 (by kernel_rfl)
        have e0 : A_.tmps[118]?.getD undef = wantV ((!decide (0 < cx) && k)) (.int .i64 (cy)) := hr 118 (by kernel_rfl)
        clear hb hr
        refine guard_tt rfl (by kernel_rfl) eG (fun hp hc => ?_) (fun hn => ?_)
        · clear eG
          have eo : ((!decide (0 < cx) && k)) = true := by simp only [hp, hc, Bool.not_false, Bool.not_true, Bool.and_self, Bool.true_and, Bool.and_true, Bool.and_false, Bool.false_and]
          replace e0 : A_.tmps[118]?.getD undef = .int .i64 (cy) := e0.trans (wantV_pos (by simp only [hp, hc, Bool.not_false, Bool.not_true, Bool.and_self, Bool.true_and, Bool.and_true, Bool.and_false, Bool.false_and]))
          go_simp
          exact hK _ _ (Below.refl _ _) (wantV_eq eo (rfl))
        · exact hK _ _ (Below.refl _ _) (show undef = wantV ((!decide (0 < cx) && k)) (.bool (decide (cy ≤ 0))) from (wantV_neg hn).symm)
      · have eG : A_.tmps[115]?.getD undef = .bool (decide (0 < cx)) := hr 115 (by kernel_rfl)
        have e0 : A_.tmps[117]?.getD undef = wantV (!decide (0 < cx)) (.bool (k)) := hr 117 (by kernel_rfl)
        have e1 : A_.tmps[119]?.getD undef = wantV ((!decide (0 < cx) && k)) (.bool (decide (cy ≤ 0))) := hr 119 (by kernel_rfl)
        clear hb hr
        refine guard_f rfl (by kernel_rfl) eG (fun hc => ?_) (fun hn => ?_)
        · clear eG
          have eo : (!decide (0 < cx)) = true := by simp only [hc, Bool.not_false, Bool.not_true, Bool.and_self, Bool.true_and, Bool.and_true, Bool.and_false, Bool.false_and]
          replace e0 : A_.tmps[117]?.getD undef = .bool (k) := e0.trans (wantV_pos (by simp only [hc, Bool.not_false, Bool.not_true, Bool.and_self, Bool.true_and, Bool.and_true, Bool.and_false, Bool.false_and]))
          rcases Bool.eq_false_or_eq_true (k) with hq | hq
          · replace e0 : A_.tmps[117]?.getD undef = .bool true := e0.trans (congrArg Value.bool hq)
            replace e1 : A_.tmps[119]?.getD undef = .bool (decide (cy ≤ 0)) := e1.trans (wantV_pos (by simp only [hc, hq, Bool.not_false, Bool.not_true, Bool.and_self, Bool.true_and, Bool.and_true, Bool.and_false, Bool.false_and]))
            go_simp
            exact hK _ _ (Below.refl _ _) (wantV_eq eo (congrArg Value.bool (and_t hq).symm))
          · replace e0 : A_.tmps[117]?.getD undef = .bool false := e0.trans (congrArg Value.bool hq)
            replace e1 : A_.tmps[119]?.getD undef = undef := e1.trans (wantV_neg (by simp only [hc, hq, Bool.not_false, Bool.not_true, Bool.and_self, Bool.true_and, Bool.and_true, Bool.and_false, Bool.false_and]))
            go_simp
            exact hK _ _ (Below.refl _ _) (wantV_eq eo (congrArg Value.bool (and_f hq).symm))
        · exact hK _ _ (Below.refl _ _) (show undef = wantV (!decide (0 < cx)) (.bool ((k && decide (cy ≤ 0)))) from (wantV_neg hn).symm)
      · have e0 : A_.tmps[115]?.getD undef = .bool (decide (0 < cx)) := hr 115 (by kernel_rfl)
        have e1 : A_.tmps[120]?.getD undef = wantV (!decide (0 < cx)) (.bool ((k && decide (cy ≤ 0)))) := hr 120 (by kernel_rfl)
        clear hb hr
        rcases Bool.eq_false_or_eq_true (decide (0 < cx)) with hq | hq
        · replace e0 : A_.tmps[115]?.getD undef = .bool true := e0.trans (congrArg Value.bool hq)
          replace e1 : A_.tmps[120]?.getD undef = undef := e1.trans (wantV_neg (by simp only [hq, Bool.not_false, Bool.not_true, Bool.and_self, Bool.true_and, Bool.and_true, Bool.and_false, Bool.false_and]))
          go_simp
          exact hK _ _ (Below.refl _ _) (congrArg Value.bool (or_t hq).symm)
        · replace e0 : A_.tmps[115]?.getD undef = .bool false := e0.trans (congrArg Value.bool hq)
          replace e1 : A_.tmps[120]?.getD undef = .bool ((k && decide (cy ≤ 0))) := e1.trans (wantV_pos (by simp only [hq, Bool.not_false, Bool.not_true, Bool.and_self, Bool.true_and, Bool.and_true, Bool.and_false, Bool.false_and]))
          go_simp
          exact hK _ _ (Below.refl _ _) (congrArg Value.bool (or_f hq).symm)
    rintro g9 w9 hb9 ⟨-, -, -, -, -, -, -, -, -, -, -, -, -, -, -, -, h121, -⟩
    simp only [List.drop_succ_cons, List.drop_zero, List.take_succ_cons, List.take_zero, putHead, Option.getD_some, Act.put, List.setIfInBounds_toArray, List.set_cons_zero, List.set_cons_succ]
    replace h121 : g9 121 = .bool ((decide (0 < cx) || (k && decide (cy ≤ 0)))) := h121
    rw [H_T12.out] at h121
    generalize g9 121 = v121 at *
    subst h121
    have B9 := Lib.hid (bstep B8.out hb9); clear hb9
    clear H_T12 FL RO I1 PF PR C1 S1 C2
    go_wp2_with fail
    rcases KD with rfl | rfl
    · have u1 := U1.out rfl
      have u2 := U2.out rfl
      have u3 := U3.out rfl
      have T22 : Hid (((decide (cu ≤ 0) && decide (0 ≤ cv)) && ((((cu != 0) && (cv != 0)) || ev) || od)) = true) := by
        show _ = true
        rw [decide_eq_true u1, decide_eq_true u2]
        by_cases h : cu = 0 ∨ cv = 0
        · have := u3 h
          rw [Bool.or_assoc, this]; simp
        · have h1 : (cu != 0) = true := by rw [bne_iff_ne]; omega
          have h2 : (cv != 0) = true := by rw [bne_iff_ne]; omega
          rw [h1, h2]; rfl
      clear u1 u2 u3 U1 U2 U3
      refine (D1.out _).mono ?_; rintro e w10 ⟨rfl, hb10⟩
      have B10 := Lib.hid (bstep B9.out hb10); clear hb10
      go_wp2_with fail
      refine (C3.out _).mono ?_; rintro e w11 ⟨rfl, hb11⟩
      have B11 := Lib.hid (bstep B10.out hb11); clear hb11
      go_wp2_with fail
      refine (C4.out _).mono ?_; rintro e w12 ⟨rfl, hb12⟩
      have B12 := Lib.hid (bstep B11.out hb12); clear hb12
      go_wp2_with fail
      refine (E1.out _).mono ?_; rintro e w13 ⟨rfl, hb13⟩
      have B13 := Lib.hid (bstep B12.out hb13); clear hb13
      go_wp2_with fail
      refine (E2.out _).mono ?_; rintro e w14 ⟨rfl, hb14⟩
      have B14 := Lib.hid (bstep B13.out hb14); clear hb14
      go_wp2_with fail
      have T22 := T22.out
      refine (E3.out _).mono ?_; rintro e w15 ⟨rfl, hb15⟩
      have B15 := Lib.hid (bstep B14.out hb15); clear hb15
      have H_T22 := Lib.hid T22; clear T22
      simp only []
      repeat (first | with_reducible apply stop_at (r := 22) | go_step)
      apply Lib.hid
      refine region_seq 24 179 [(156, Is (.int .i64 (cu))), (157, Is (.bool (decide (cu ≤ 0)))), (158, Is (.bool (decide (cu ≤ 0)))), (159, Is (wantV (decide (cu ≤ 0)) (.int .i64 (cv)))), (160, Is (wantV (decide (cu ≤ 0)) (.bool (decide (0 ≤ cv))))), (161, Is (.bool ((decide (cu ≤ 0) && decide (0 ≤ cv))))), (162, Is (.bool ((decide (cu ≤ 0) && decide (0 ≤ cv))))), (163, Is (wantV ((decide (cu ≤ 0) && decide (0 ≤ cv))) (.int .i64 (cu)))), (164, Is (wantV ((decide (cu ≤ 0) && decide (0 ≤ cv))) (.bool ((cu != 0))))), (165, Is (wantV ((decide (cu ≤ 0) && decide (0 ≤ cv))) (.bool ((cu != 0))))), (166, Is (wantV (((decide (cu ≤ 0) && decide (0 ≤ cv)) && (cu != 0))) (.int .i64 (cv)))), (167, Is (wantV (((decide (cu ≤ 0) && decide (0 ≤ cv)) && (cu != 0))) (.bool ((cv != 0))))), (168, Is (wantV ((decide (cu ≤ 0) && decide (0 ≤ cv))) (.bool (((cu != 0) && (cv != 0)))))), (169, Is (wantV ((decide (cu ≤ 0) && decide (0 ≤ cv))) (.bool (((cu != 0) && (cv != 0)))))), (170, Is (wantV (((decide (cu ≤ 0) && decide (0 ≤ cv)) && !((cu != 0) && (cv != 0)))) (.bool (ev)))), (171, Is (wantV ((decide (cu ≤ 0) && decide (0 ≤ cv))) (.bool ((((cu != 0) && (cv != 0)) || ev))))), (172, Is (wantV ((decide (cu ≤ 0) && decide (0 ≤ cv))) (.bool ((((cu != 0) && (cv != 0)) || ev))))), (173, Is (wantV (((decide (cu ≤ 0) && decide (0 ≤ cv)) && !(((cu != 0) && (cv != 0)) || ev))) (.bool (od)))), (174, Is (wantV ((decide (cu ≤ 0) && decide (0 ≤ cv))) (.bool (((((cu != 0) && (cv != 0)) || ev) || od))))), (175, Is (.bool (((decide (cu ≤ 0) && decide (0 ≤ cv)) && ((((cu != 0) && (cv != 0)) || ev) || od))))), (176, Is (.bool (true))), (177, Is (.bool (true))), (178, Is (.bool (true))), (2, Is (.bool (true)))] rfl (by kernel_rfl) ?_ ?_
      · refine steps_cons rfl (fun A_ W hb hr hg K hK => ?_) <| steps_cons rfl (fun A_ W hb hr hg K hK => ?_) <| steps_cons rfl (fun A_ W hb hr hg K hK => ?_) <| steps_guard (fun A_ W hb hr hg K hK => ?_) <| steps_guard (fun A_ W hb hr hg K hK => ?_) <| steps_cons rfl (fun A_ W hb hr hg K hK => ?_) <| steps_cons rfl (fun A_ W hb hr hg K hK => ?_) <| steps_guard (fun A_ W hb hr hg K hK => ?_) <| steps_guard (fun A_ W hb hr hg K hK => ?_) <| steps_guard (fun A_ W hb hr hg K hK => ?_) <| steps_guard (fun A_ W hb hr hg K hK => ?_) <| steps_guard (fun A_ W hb hr hg K hK => ?_) <| steps_guard (fun A_ W hb hr hg K hK => ?_) <| steps_guard (fun A_ W hb hr hg K hK => ?_) <| steps_guard (fun A_ W hb hr hg K hK => ?_) <| steps_guard (fun A_ W hb hr hg K hK => ?_) <| steps_guard (fun A_ W hb hr hg K hK => ?_) <| steps_guard (fun A_ W hb hr hg K hK => ?_) <| steps_guard (fun A_ W hb hr hg K hK => ?_) <| steps_cons rfl (fun A_ W hb hr hg K hK => ?_) <| steps_cons rfl (fun A_ W hb hr hg K hK => ?_) <| steps_guard (fun A_ W hb hr hg K hK => ?_) <| steps_cons rfl (fun A_ W hb hr hg K hK => ?_) <| steps_cons rfl (fun A_ W hb hr hg K hK => ?_) trivial
        · have e0 : A_.tmps[21]?.getD undef = .int .i64 (cu) := hb 21 (by kernel_rfl)
          clear hb hr
          go_simp
          exact hK _ _ (Below.refl _ _) (rfl)
        · have e0 : A_.tmps[156]?.getD undef = .int .i64 (cu) := hr 156 (by kernel_rfl)
          clear hb hr
          go_simp
          exact hK _ _ (Below.refl _ _) (rfl)
        · have e0 : A_.tmps[157]?.getD undef = .bool (decide (cu ≤ 0)) := hr 157 (by kernel_rfl)
          clear hb hr
          go_simp
          exact hK _ _ (Below.refl _ _) (rfl)
        · have eG : A_.tmps[158]?.getD undef = .bool (decide (cu ≤ 0)) := hr 158 (by kernel_rfl)
          have e0 : A_.tmps[23]?.getD undef = .int .i64 (cv) := hb 23 (by kernel_rfl)
          clear hb hr
          refine guard_t rfl (by kernel_rfl) eG (fun hc => ?_) (fun hn => ?_)
          · clear eG
            have eo : (decide (cu ≤ 0)) = true := by simp only [hc, Bool.not_false, Bool.not_true, Bool.and_self, Bool.true_and, Bool.and_true, Bool.and_false, Bool.false_and]
            go_simp
            exact hK _ _ (Below.refl _ _) (wantV_eq eo (rfl))
          · exact hK _ _ (Below.refl _ _) (show undef = wantV (decide (cu ≤ 0)) (.int .i64 (cv)) from (wantV_neg hn).symm)
        · have eG : A_.tmps[158]?.getD undef = .bool (decide (cu ≤ 0)) := hr 158 (by kernel_rfl)
          have e0 : A_.tmps[159]?.getD undef = wantV (decide (cu ≤ 0)) (.int .i64 (cv)) := hr 159 (by kernel_rfl)
          clear hb hr
          refine guard_t rfl (by kernel_rfl) eG (fun hc => ?_) (fun hn => ?_)
          · clear eG
            have eo : (decide (cu ≤ 0)) = true := by simp only [hc, Bool.not_false, Bool.not_true, Bool.and_self, Bool.true_and, Bool.and_true, Bool.and_false, Bool.false_and]
            replace e0 : A_.tmps[159]?.getD undef = .int .i64 (cv) := e0.trans (wantV_pos (by simp only [hc, Bool.not_false, Bool.not_true, Bool.and_self, Bool.true_and, Bool.and_true, Bool.and_false, Bool.false_and]))
            go_simp
            exact hK _ _ (Below.refl _ _) (wantV_eq eo (rfl))
          · exact hK _ _ (Below.refl _ _) (show undef = wantV (decide (cu ≤ 0)) (.bool (decide (0 ≤ cv))) from (wantV_neg hn).symm)
        · have e0 : A_.tmps[158]?.getD undef = .bool (decide (cu ≤ 0)) := hr 158 (by kernel_rfl)
          have e1 : A_.tmps[160]?.getD undef = wantV (decide (cu ≤ 0)) (.bool (decide (0 ≤ cv))) := hr 160 (by kernel_rfl)
          clear hb hr
          rcases Bool.eq_false_or_eq_true (decide (cu ≤ 0)) with hq | hq
          · replace e0 : A_.tmps[158]?.getD undef = .bool true := e0.trans (congrArg Value.bool hq)
            replace e1 : A_.tmps[160]?.getD undef = .bool (decide (0 ≤ cv)) := e1.trans (wantV_pos (by simp only [hq, Bool.not_false, Bool.not_true, Bool.and_self, Bool.true_and, Bool.and_true, Bool.and_false, Bool.false_and]))
            go_simp
            exact hK _ _ (Below.refl _ _) (congrArg Value.bool (and_t hq).symm)
          · replace e0 : A_.tmps[158]?.getD undef = .bool false := e0.trans (congrArg Value.bool hq)
            replace e1 : A_.tmps[160]?.getD undef = undef := e1.trans (wantV_neg (by simp only [hq, Bool.not_false, Bool.not_true, Bool.and_self, Bool.true_and, Bool.and_true, Bool.and_false, Bool.false_and]))
            go_simp
            exact hK _ _ (Below.refl _ _) (congrArg Value.bool (and_f hq).symm)
        · have e0 : A_.tmps[161]?.getD undef = .bool ((decide (cu ≤ 0) && decide (0 ≤ cv))) := hr 161 (by kernel_rfl)
          clear hb hr
          go_simp
          exact hK _ _ (Below.refl _ _) (rfl)
        · have eG : A_.tmps[162]?.getD undef = .bool ((decide (cu ≤ 0) && decide (0 ≤ cv))) := hr 162 (by kernel_rfl)
          have e0 : A_.tmps[21]?.getD undef = .int .i64 (cu) := hb 21 (by kernel_rfl)
          clear hb hr
          refine guard_t rfl (by kernel_rfl) eG (fun hc => ?_) (fun hn => ?_)
          · clear eG
            have eo : ((decide (cu ≤ 0) && decide (0 ≤ cv))) = true := by simp only [hc, Bool.not_false, Bool.not_true, Bool.and_self, Bool.true_and, Bool.and_true, Bool.and_false, Bool.false_and]
            go_simp
            exact hK _ _ (Below.refl _ _) (wantV_eq eo (rfl))
          · exact hK _ _ (Below.refl _ _) (show undef = wantV ((decide (cu ≤ 0) && decide (0 ≤ cv))) (.int .i64 (cu)) from (wantV_neg hn).symm)
        · have eG : A_.tmps[162]?.getD undef = .bool ((decide (cu ≤ 0) && decide (0 ≤ cv))) := hr 162 (by kernel_rfl)
          have e0 : A_.tmps[163]?.getD undef = wantV ((decide (cu ≤ 0) && decide (0 ≤ cv))) (.int .i64 (cu)) := hr 163 (by kernel_rfl)
          clear hb hr
          refine guard_t rfl (by kernel_rfl) eG (fun hc => ?_) (fun hn => ?_)
          · clear eG
            have eo : ((decide (cu ≤ 0) && decide (0 ≤ cv))) = true := by simp only [hc, Bool.not_false, Bool.not_true, Bool.and_self, Bool.true_and, Bool.and_true, Bool.and_false, Bool.false_and]
            replace e0 : A_.tmps[163]?.getD undef = .int .i64 (cu) := e0.trans (wantV_pos (by simp only [hc, Bool.not_false, Bool.not_true, Bool.and_self, Bool.true_and, Bool.and_true, Bool.and_false, Bool.false_and]))
            go_simp
            exact hK _ _ (Below.refl _ _) (wantV_eq eo (rfl))
          · exact hK _ _ (Below.refl _ _) (show undef = wantV ((decide (cu ≤ 0) && decide (0 ≤ cv))) (.bool ((cu != 0))) from (wantV_neg hn).symm)
        · have eG : A_.tmps[162]?.getD undef = .bool ((decide (cu ≤ 0) && decide (0 ≤ cv))) := hr 162 (by kernel_rfl)
          have e0 : A_.tmps[164]?.getD undef = wantV ((decide (cu ≤ 0) && decide (0 ≤ cv))) (.bool ((cu != 0))) := hr 164 (by kernel_rfl)
          clear hb hr
          refine guard_t rfl (by kernel_rfl) eG (fun hc => ?_) (fun hn => ?_)
          · clear eG
            have eo : ((decide (cu ≤ 0) && decide (0 ≤ cv))) = true := by simp only [hc, Bool.not_false, Bool.not_true, Bool.and_self, Bool.true_and, Bool.and_true, Bool.and_false, Bool.false_and]
            replace e0 : A_.tmps[164]?.getD undef = .bool ((cu != 0)) := e0.trans (wantV_pos (by simp only [hc, Bool.not_false, Bool.not_true, Bool.and_self, Bool.true_and, Bool.and_true, Bool.and_false, Bool.false_and]))
            go_simp
            exact hK _ _ (Below.refl _ _) (wantV_eq eo (rfl))
          · exact hK _ _ (Below.refl _ _) (show undef = wantV ((decide (cu ≤ 0) && decide (0 ≤ cv))) (.bool ((cu != 0))) from (wantV_neg hn).symm)
        · have eG : A_.tmps[165]?.getD undef = wantV ((decide (cu ≤ 0) && decide (0 ≤ cv))) (.bool ((cu != 0))) := hr 165 (by kernel_rfl)
          have e0 : A_.tmps[23]?.getD undef = .int .i64 (cv) := hb 23 (by kernel_rfl)
          clear hb hr
          refine guard_tt rfl (by kernel_rfl) eG (fun hp hc => ?_) (fun hn => ?_)
          · clear eG
            have eo : (((decide (cu ≤ 0) && decide (0 ≤ cv)) && (cu != 0))) = true := by simp only [hp, hc, Bool.not_false, Bool.not_true, Bool.and_self, Bool.true_and, Bool.and_true, Bool.and_false, Bool.false_and]
            go_simp
            exact hK _ _ (Below.refl _ _) (wantV_eq eo (rfl))
          · exact hK _ _ (Below.refl _ _) (show undef = wantV (((decide (cu ≤ 0) && decide (0 ≤ cv)) && (cu != 0))) (.int .i64 (cv)) from (wantV_neg hn).symm)
        · have eG : A_.tmps[165]?.getD undef = wantV ((decide (cu ≤ 0) && decide (0 ≤ cv))) (.bool ((cu != 0))) := hr 165 (by kernel_rfl)
          have e0 : A_.tmps[166]?.getD undef = wantV (((decide (cu ≤ 0) && decide (0 ≤ cv)) && (cu != 0))) (.int .i64 (cv)) := hr 166 (by kernel_rfl)
          clear hb hr
          refine guard_tt rfl (by kernel_rfl) eG (fun hp hc => ?_) (fun hn => ?_)
          · clear eG
            have eo : (((decide (cu ≤ 0) && decide (0 ≤ cv)) && (cu != 0))) = true := by simp only [hp, hc, Bool.not_false, Bool.not_true, Bool.and_self, Bool.true_and, Bool.and_true, Bool.and_false, Bool.false_and]
            replace e0 : A_.tmps[166]?.getD undef = .int .i64 (cv) := e0.trans (wantV_pos (by simp only [hp, hc, Bool.not_false, Bool.not_true, Bool.and_self, Bool.true_and, Bool.and_true, Bool.and_false, Bool.false_and]))
            go_simp
            exact hK _ _ (Below.refl _ _) (wantV_eq eo (rfl))
          · exact hK _ _ (Below.refl _ _) (show undef = wantV (((decide (cu ≤ 0) && decide (0 ≤ cv)) && (cu != 0))) (.bool ((cv != 0))) from (wantV_neg hn).symm)
        · have eG : A_.tmps[162]?.getD undef = .bool ((decide (cu ≤ 0) && decide (0 ≤ cv))) := hr 162 (by kernel_rfl)
          have e0 : A_.tmps[165]?.getD undef = wantV ((decide (cu ≤ 0) && decide (0 ≤ cv))) (.bool ((cu != 0))) := hr 165 (by kernel_rfl)
          have e1 : A_.tmps[167]?.getD undef = wantV (((decide (cu ≤ 0) && decide (0 ≤ cv)) && (cu != 0))) (.bool ((cv != 0))) := hr 167 (by kernel_rfl)
          clear hb hr
          refine guard_t rfl (by kernel_rfl) eG (fun hc => ?_) (fun hn => ?_)
          · clear eG
            have eo : ((decide (cu ≤ 0) && decide (0 ≤ cv))) = true := by simp only [hc, Bool.not_false, Bool.not_true, Bool.and_self, Bool.true_and, Bool.and_true, Bool.and_false, Bool.false_and]
            replace e0 : A_.tmps[165]?.getD undef = .bool ((cu != 0)) := e0.trans (wantV_pos (by simp only [hc, Bool.not_false, Bool.not_true, Bool.and_self, Bool.true_and, Bool.and_true, Bool.and_false, Bool.false_and]))
            rcases Bool.eq_false_or_eq_true ((cu != 0)) with hq | hq
            · replace e0 : A_.tmps[165]?.getD undef = .bool true := e0.trans (congrArg Value.bool hq)
              replace e1 : A_.tmps[167]?.getD undef = .bool ((cv != 0)) := e1.trans (wantV_pos (by simp only [hc, hq, Bool.not_false, Bool.not_true, Bool.and_self, Bool.true_and, Bool.and_true, Bool.and_false, Bool.false_and]))
              go_simp
              exact hK _ _ (Below.refl _ _) (wantV_eq eo (congrArg Value.bool (and_t hq).symm))
            · replace e0 : A_.tmps[165]?.getD undef = .bool false := e0.trans (congrArg Value.bool hq)
              replace e1 : A_.tmps[167]?.getD undef = undef := e1.trans (wantV_neg (by simp only [hc, hq, Bool.not_false, Bool.not_true, Bool.and_self, Bool.true_and, Bool.and_true, Bool.and_false, Bool.false_and]))
              go_simp
              exact hK _ _ (Below.refl _ _) (wantV_eq eo (congrArg Value.bool (and_f hq).symm))
          · exact hK _ _ (Below.refl _ _) (show undef = wantV ((decide (cu ≤ 0) && decide (0 ≤ cv))) (.bool (((cu != 0) && (cv != 0)))) from (wantV_neg hn).symm)
        · have eG : A_.tmps[162]?.getD undef = .bool ((decide (cu ≤ 0) && decide (0 ≤ cv))) := hr 162 (by kernel_rfl)
          have e0 : A_.tmps[168]?.getD undef = wantV ((decide (cu ≤ 0) && decide (0 ≤ cv))) (.bool (((cu != 0) && (cv != 0)))) := hr 168 (by kernel_rfl)
          clear hb hr
          refine guard_t rfl (by kernel_rfl) eG (fun hc => ?_) (fun hn => ?_)
          · clear eG
            have eo : ((decide (cu ≤ 0) && decide (0 ≤ cv))) = true := by simp only [hc, Bool.not_false, Bool.not_true, Bool.and_self, Bool.true_and, Bool.and_true, Bool.and_false, Bool.false_and]
            replace e0 : A_.tmps[168]?.getD undef = .bool (((cu != 0) && (cv != 0))) := e0.trans (wantV_pos (by simp only [hc, Bool.not_false, Bool.not_true, Bool.and_self, Bool.true_and, Bool.and_true, Bool.and_false, Bool.false_and]))
            go_simp
            exact hK _ _ (Below.refl _ _) (wantV_eq eo (rfl))
          · exact hK _ _ (Below.refl _ _) (show undef = wantV ((decide (cu ≤ 0) && decide (0 ≤ cv))) (.bool (((cu != 0) && (cv != 0)))) from (wantV_neg hn).symm)
        · have eG : A_.tmps[169]?.getD undef = wantV ((decide (cu ≤ 0) && decide (0 ≤ cv))) (.bool (((cu != 0) && (cv != 0)))) := hr 169 (by kernel_rfl)
          have e0 : A_.tmps[25]?.getD undef = .bool (ev) := hb 25 (by kernel_rfl)
          clear hb hr
          refine guard_ff rfl (by kernel_rfl) eG (fun hp hc => ?_) (fun hn => ?_)
          · clear eG
            have eo : (((decide (cu ≤ 0) && decide (0 ≤ cv)) && !((cu != 0) && (cv != 0)))) = true := by simp only [hp, hc, Bool.not_false, Bool.not_true, Bool.and_self, Bool.true_and, Bool.and_true, Bool.and_false, Bool.false_and]
            go_simp
            exact hK _ _ (Below.refl _ _) (wantV_eq eo (rfl))
          · exact hK _ _ (Below.refl _ _) (show undef = wantV (((decide (cu ≤ 0) && decide (0 ≤ cv)) && !((cu != 0) && (cv != 0)))) (.bool (ev)) from (wantV_neg hn).symm)
        · have eG : A_.tmps[162]?.getD undef = .bool ((decide (cu ≤ 0) && decide (0 ≤ cv))) := hr 162 (by kernel_rfl)
          have e0 : A_.tmps[169]?.getD undef = wantV ((decide (cu ≤ 0) && decide (0 ≤ cv))) (.bool (((cu != 0) && (cv != 0)))) := hr 169 (by kernel_rfl)
          have e1 : A_.tmps[170]?.getD undef = wantV (((decide (cu ≤ 0) && decide (0 ≤ cv)) && !((cu != 0) && (cv != 0)))) (.bool (ev)) := hr 170 (by kernel_rfl)
          clear hb hr
          refine guard_t rfl (by kernel_rfl) eG (fun hc => ?_) (fun hn => ?_)
          · clear eG
            have eo : ((decide (cu ≤ 0) && decide (0 ≤ cv))) = true := by simp only [hc, Bool.not_false, Bool.not_true, Bool.and_self, Bool.true_and, Bool.and_true, Bool.and_false, Bool.false_and]
            replace e0 : A_.tmps[169]?.getD undef = .bool (((cu != 0) && (cv != 0))) := e0.trans (wantV_pos (by simp only [hc, Bool.not_false, Bool.not_true, Bool.and_self, Bool.true_and, Bool.and_true, Bool.and_false, Bool.false_and]))
            rcases Bool.eq_false_or_eq_true (((cu != 0) && (cv != 0))) with hq | hq
            · replace e0 : A_.tmps[169]?.getD undef = .bool true := e0.trans (congrArg Value.bool hq)
              replace e1 : A_.tmps[170]?.getD undef = undef := e1.trans (wantV_neg (by simp only [hc, hq, Bool.not_false, Bool.not_true, Bool.and_self, Bool.true_and, Bool.and_true, Bool.and_false, Bool.false_and]))
              go_simp
              exact hK _ _ (Below.refl _ _) (wantV_eq eo (congrArg Value.bool (or_t hq).symm))
            · replace e0 : A_.tmps[169]?.getD undef = .bool false := e0.trans (congrArg Value.bool hq)
              replace e1 : A_.tmps[170]?.getD undef = .bool (ev) := e1.trans (wantV_pos (by simp only [hc, hq, Bool.not_false, Bool.not_true, Bool.and_self, Bool.true_and, Bool.and_true, Bool.and_false, Bool.false_and]))
              go_simp
              exact hK _ _ (Below.refl _ _) (wantV_eq eo (congrArg Value.bool (or_f hq).symm))
          · exact hK _ _ (Below.refl _ _) (show undef = wantV ((decide (cu ≤ 0) && decide (0 ≤ cv))) (.bool ((((cu != 0) && (cv != 0)) || ev))) from (wantV_neg hn).symm)
        · have eG : A_.tmps[162]?.getD undef = .bool ((decide (cu ≤ 0) && decide (0 ≤ cv))) := hr 162 (by kernel_rfl)
          have e0 : A_.tmps[171]?.getD undef = wantV ((decide (cu ≤ 0) && decide (0 ≤ cv))) (.bool ((((cu != 0) && (cv != 0)) || ev))) := hr 171 (by kernel_rfl)
          clear hb hr
          refine guard_t rfl (by kernel_rfl) eG (fun hc => ?_) (fun hn => ?_)
          · clear eG
            have eo : ((decide (cu ≤ 0) && decide (0 ≤ cv))) = true := by simp only [hc, Bool.not_false, Bool.not_true, Bool.and_self, Bool.true_and, Bool.and_true, Bool.and_false, Bool.false_and]
            replace e0 : A_.tmps[171]?.getD undef = .bool ((((cu != 0) && (cv != 0)) || ev)) := e0.trans (wantV_pos (by simp only [hc, Bool.not_false, Bool.not_true, Bool.and_self, Bool.true_and, Bool.and_true, Bool.and_false, Bool.false_and]))
            go_simp
            exact hK _ _ (Below.refl _ _) (wantV_eq eo (rfl))
          · exact hK _ _ (Below.refl _ _) (show undef = wantV ((decide (cu ≤ 0) && decide (0 ≤ cv))) (.bool ((((cu != 0) && (cv != 0)) || ev))) from (wantV_neg hn).symm)
        · have eG : A_.tmps[172]?.getD undef = wantV ((decide (cu ≤ 0) && decide (0 ≤ cv))) (.bool ((((cu != 0) && (cv != 0)) || ev))) := hr 172 (by kernel_rfl)
          have e0 : A_.tmps[29]?.getD undef = .bool (od) := hb 29 (by kernel_rfl)
          clear hb hr
          refine guard_ff rfl (by kernel_rfl) eG (fun hp hc => ?_) (fun hn => ?_)
          · clear eG
            have eo : (((decide (cu ≤ 0) && decide (0 ≤ cv)) && !(((cu != 0) && (cv != 0)) || ev))) = true := by simp only [hp, hc, Bool.not_false, Bool.not_true, Bool.and_self, Bool.true_and, Bool.and_true, Bool.and_false, Bool.false_and]
            go_simp
            exact hK _ _ (Below.refl _ _) (wantV_eq eo (rfl))
          · exact hK _ _ (Below.refl _ _) (show undef = wantV (((decide (cu ≤ 0) && decide (0 ≤ cv)) && !(((cu != 0) && (cv != 0)) || ev))) (.bool (od)) from (wantV_neg hn).symm)
        · have eG : A_.tmps[162]?.getD undef = .bool ((decide (cu ≤ 0) && decide (0 ≤ cv))) := hr 162 (by kernel_rfl)
          have e0 : A_.tmps[172]?.getD undef = wantV ((decide (cu ≤ 0) && decide (0 ≤ cv))) (.bool ((((cu != 0) && (cv != 0)) || ev))) := hr 172 (by kernel_rfl)
          have e1 : A_.tmps[173]?.getD undef = wantV (((decide (cu ≤ 0) && decide (0 ≤ cv)) && !(((cu != 0) && (cv != 0)) || ev))) (.bool (od)) := hr 173 (by kernel_rfl)
          clear hb hr
          refine guard_t rfl (by kernel_rfl) eG (fun hc => ?_) (fun hn => ?_)
          · clear eG
            have eo : ((decide (cu ≤ 0) && decide (0 ≤ cv))) = true := by simp only [hc, Bool.not_false, Bool.not_true, Bool.and_self, Bool.true_and, Bool.and_true, Bool.and_false, Bool.false_and]
            replace e0 : A_.tmps[172]?.getD undef = .bool ((((cu != 0) && (cv != 0)) || ev)) := e0.trans (wantV_pos (by simp only [hc, Bool.not_false, Bool.not_true, Bool.and_self, Bool.true_and, Bool.and_true, Bool.and_false, Bool.false_and]))
            rcases Bool.eq_false_or_eq_true ((((cu != 0) && (cv != 0)) || ev)) with hq | hq
            · replace e0 : A_.tmps[172]?.getD undef = .bool true := e0.trans (congrArg Value.bool hq)
              replace e1 : A_.tmps[173]?.getD undef = undef := e1.trans (wantV_neg (by simp only [hc, hq, Bool.not_false, Bool.not_true, Bool.and_self, Bool.true_and, Bool.and_true, Bool.and_false, Bool.false_and]))
              go_simp
              exact hK _ _ (Below.refl _ _) (wantV_eq eo (congrArg Value.bool (or_t hq).symm))
            · replace e0 : A_.tmps[172]?.getD undef = .bool false := e0.trans (congrArg Value.bool hq)
              replace e1 : A_.tmps[173]?.getD undef = .bool (od) := e1.trans (wantV_pos (by simp only [hc, hq, Bool.not_false, Bool.not_true, Bool.and_self, Bool.true_and, Bool.and_true, Bool.and_false, Bool.false_and]))
              go_simp
              exact hK _ _ (Below.refl _ _) (wantV_eq eo (congrArg Value.bool (or_f hq).symm))
          · exact hK _ _ (Below.refl _ _) (show undef = wantV ((decide (cu ≤ 0) && decide (0 ≤ cv))) (.bool (((((cu != 0) && (cv != 0)) || ev) || od))) from (wantV_neg hn).symm)
        · have e0 : A_.tmps[162]?.getD undef = .bool ((decide (cu ≤ 0) && decide (0 ≤ cv))) := hr 162 (by kernel_rfl)
          have e1 : A_.tmps[174]?.getD undef = wantV ((decide (cu ≤ 0) && decide (0 ≤ cv))) (.bool (((((cu != 0) && (cv != 0)) || ev) || od))) := hr 174 (by kernel_rfl)
          clear hb hr
          rcases Bool.eq_false_or_eq_true ((decide (cu ≤ 0) && decide (0 ≤ cv))) with hq | hq
          · replace e0 : A_.tmps[162]?.getD undef = .bool true := e0.trans (congrArg Value.bool hq)
            replace e1 : A_.tmps[174]?.getD undef = .bool (((((cu != 0) && (cv != 0)) || ev) || od)) := e1.trans (wantV_pos (by simp only [hq, Bool.not_false, Bool.not_true, Bool.and_self, Bool.true_and, Bool.and_true, Bool.and_false, Bool.false_and]))
            go_simp
            exact hK _ _ (Below.refl _ _) (congrArg Value.bool (and_t hq).symm)
          · replace e0 : A_.tmps[162]?.getD undef = .bool false := e0.trans (congrArg Value.bool hq)
            replace e1 : A_.tmps[174]?.getD undef = undef := e1.trans (wantV_neg (by simp only [hq, Bool.not_false, Bool.not_true, Bool.and_self, Bool.true_and, Bool.and_true, Bool.and_false, Bool.false_and]))
            go_simp
            exact hK _ _ (Below.refl _ _) (congrArg Value.bool (and_f hq).symm)
        · have e0 : A_.tmps[175]?.getD undef = .bool (((decide (cu ≤ 0) && decide (0 ≤ cv)) && ((((cu != 0) && (cv != 0)) || ev) || od))) := hr 175 (by kernel_rfl)
          clear hb hr
          go_simp
          exact hK _ _ (Below.refl _ _) (Eq.trans (show _ = Value.bool (((decide (cu ≤ 0) && decide (0 ≤ cv)) && ((((cu != 0) && (cv != 0)) || ev) || od))) from rfl) (congrArg Value.bool H_T22.out))
        · have eG : A_.tmps[176]?.getD undef = .bool (true) := hr 176 (by kernel_rfl)
          clear hb hr
          refine guard_on rfl (by kernel_rfl) eG ?_
          clear eG
          go_simp
          refine (AL.out _).mono ?_; rintro e w5 ⟨rfl, hb5⟩
          exact hK _ _ hb5 (rfl)
        · have e0 : A_.tmps[176]?.getD undef = .bool (true) := hr 176 (by kernel_rfl)
          have e1 : A_.tmps[177]?.getD undef = .bool (true) := hr 177 (by kernel_rfl)
          clear hb hr
          go_simp
          exact hK _ _ (Below.refl _ _) (rfl)
        · have e0 : A_.tmps[178]?.getD undef = .bool (true) := hr 178 (by kernel_rfl)
          clear hb hr
          go_simp
          exact hK _ _ (Below.refl _ _) (rfl)
      rintro g16 w16 hb16 ⟨-, -, -, -, -, -, -, -, -, -, -, -, -, -, -, -, -, -, -, -, -, -, -, h2, -⟩
      simp only [List.drop_succ_cons, List.drop_zero, List.take_succ_cons, List.take_zero, putHead, Option.getD_some, Act.put, List.setIfInBounds_toArray, List.set_cons_zero, List.set_cons_succ]
      replace h2 : g16 2 = .bool (true) := h2
      generalize g16 2 = v2 at *
      subst h2
      have B16 := Lib.hid (bstep B15.out hb16); clear hb16
      go_wp2_with fail
      go_ret
      exact ⟨rfl, B16.out⟩
    · refine (D1.out _).mono ?_; rintro e w10 ⟨rfl, hb10⟩
      have B10 := Lib.hid (bstep B9.out hb10); clear hb10
      go_wp2_with fail
      refine (C3.out _).mono ?_; rintro e w11 ⟨rfl, hb11⟩
      have B11 := Lib.hid (bstep B10.out hb11); clear hb11
      go_wp2_with fail
      refine (C4.out _).mono ?_; rintro e w12 ⟨rfl, hb12⟩
      have B12 := Lib.hid (bstep B11.out hb12); clear hb12
      go_wp2_with fail
      refine (AL.out _).mono ?_; rintro e w13 ⟨rfl, hb13⟩
      have B13 := Lib.hid (bstep B12.out hb13); clear hb13
      go_wp2_with fail
      go_ret
      exact ⟨rfl, B13.out⟩
  · clear VF VR ZF ZR X
    go_wp2_with fail
    refine (FL.out _).mono ?_; rintro e w1 ⟨rfl, hb1⟩
    have B1 := Lib.hid hb1; clear hb1
    go_wp2_with fail
    refine (RO.out _).mono ?_; rintro e w2 ⟨rfl, hb2⟩
    have B2 := Lib.hid (bstep B1.out hb2); clear hb2
    go_wp2_with fail
    refine (I1.out _).mono ?_; rintro e w3 ⟨rfl, hb3⟩
    have B3 := Lib.hid (bstep B2.out hb3); clear hb3
    go_wp2_with fail
    refine (AL.out _).mono ?_; rintro e w4 ⟨rfl, hb4⟩
    have B4 := Lib.hid (bstep B3.out hb4); clear hb4
    go_wp2_with fail
    go_ret
    exact ⟨rfl, B4.out⟩
  · clear VF VR ZF ZR X
    go_wp2_with fail
    refine (FL.out _).mono ?_; rintro e w1 ⟨rfl, hb1⟩
    have B1 := Lib.hid hb1; clear hb1
    go_wp2_with fail
    refine (RO.out _).mono ?_; rintro e w2 ⟨rfl, hb2⟩
    have B2 := Lib.hid (bstep B1.out hb2); clear hb2
    go_wp2_with fail
    refine (I1.out _).mono ?_; rintro e w3 ⟨rfl, hb3⟩
    have B3 := Lib.hid (bstep B2.out hb3); clear hb3
    go_wp2_with fail
    refine (AL.out _).mono ?_; rintro e w4 ⟨rfl, hb4⟩
    have B4 := Lib.hid (bstep B3.out hb4); clear hb4
    go_wp2_with fail
    go_ret
    exact ⟨rfl, B4.out⟩
  · clear VF VR ZF ZR X
    go_wp2_with fail
    refine (FL.out _).mono ?_; rintro e w1 ⟨rfl, hb1⟩
    have B1 := Lib.hid hb1; clear hb1
    go_wp2_with fail
    refine (RO.out _).mono ?_; rintro e w2 ⟨rfl, hb2⟩
    have B2 := Lib.hid (bstep B1.out hb2); clear hb2
    go_wp2_with fail
    refine (I1.out _).mono ?_; rintro e w3 ⟨rfl, hb3⟩
    have B3 := Lib.hid (bstep B2.out hb3); clear hb3
    go_wp2_with fail
    refine (AL.out _).mono ?_; rintro e w4 ⟨rfl, hb4⟩
    have B4 := Lib.hid (bstep B3.out hb4); clear hb4
    go_wp2_with fail
    go_ret
    exact ⟨rfl, B4.out⟩


set_option maxHeartbeats 8000000 in
set_option maxRecDepth 100000 in
theorem floor_law (w : World) (a : ByteArray) (ha : a.size ≤ 140737488355328) : Calls Try.prog 11 #[.string a] w (TrueB w) := by
  have AL : Hid (∀ w, Calls Try.prog 20 #[] w fun e w' => e = .returned (.bool true) ∧ Below w.heap.size w w') := alive_any
  cases i1 : isB a
  · have hq : readQ a.data.toList = none := by
      unfold isB at i1
      cases h : readQ a.data.toList with
      | none => rfl
      | some q => rw [h] at i1; cases i1
    have I1 : Hid (∀ w, Calls Try.prog 18 #[.string a] w fun e w' => e = .returned (.bool false) ∧ Below w.heap.size w w') := fun w => by have := is_any w a ha; rwa [show (readQ a.data.toList).isSome = false from i1] at this
    have FL : Hid (∀ w, Calls Try.prog 33 #[.string a] w (OutS w (⟨#[]⟩, 1))) := fun w => by have := floor_any w a ha; unfold oneT at this; rwa [hq] at this
    have RO : Hid (∀ w, Calls Try.prog 35 #[.string a] w (OutS w (⟨#[]⟩, 1))) := fun w => by have := round_any w a ha; unfold oneT at this; rwa [hq] at this
    clear i1 ha hq
    go_enter Try.func11, Try.ntmps11
    go_wp2_with fail
    refine (FL.out _).mono ?_; rintro e w1 ⟨rfl, hb1⟩
    have B1 := Lib.hid hb1; clear hb1
    go_wp2_with fail
    refine (RO.out _).mono ?_; rintro e w2 ⟨rfl, hb2⟩
    have B2 := Lib.hid (bstep B1.out hb2); clear hb2
    go_wp2_with fail
    refine (I1.out _).mono ?_; rintro e w3 ⟨rfl, hb3⟩
    have B3 := Lib.hid (bstep B2.out hb3); clear hb3
    simp only []
    repeat (first | with_reducible apply stop_at (r := 4) | go_step)
    apply Lib.hid
    refine region_seq 18 179 [(44, Is (.int .i64 (1))), (45, Is (.bool (true))), (46, Is (.bool (true))), (47, Is (.int .i64 (1))), (48, Is (.bool (true))), (49, Is (.bool (true))), (50, Is (.bool (true))), (51, Is (.string ⟨#[]⟩)), (52, Is (.bool (true))), (53, Is (.bool (true))), (54, Is (.bool (true))), (55, Is (.string ⟨#[]⟩)), (56, Is (.bool (true))), (57, Is (.bool (true))), (58, Is (.bool (true))), (59, Is (.bool (true))), (60, Is (.bool (true))), (2, Is (.bool (true)))] rfl (by kernel_rfl) ?_ ?_
    · refine steps_cons rfl (fun A_ W hb hr hg K hK => ?_) <| steps_cons rfl (fun A_ W hb hr hg K hK => ?_) <| steps_cons rfl (fun A_ W hb hr hg K hK => ?_) <| steps_guard (fun A_ W hb hr hg K hK => ?_) <| steps_guard (fun A_ W hb hr hg K hK => ?_) <| steps_cons rfl (fun A_ W hb hr hg K hK => ?_) <| steps_cons rfl (fun A_ W hb hr hg K hK => ?_) <| steps_guard (fun A_ W hb hr hg K hK => ?_) <| steps_guard (fun A_ W hb hr hg K hK => ?_) <| steps_cons rfl (fun A_ W hb hr hg K hK => ?_) <| steps_cons rfl (fun A_ W hb hr hg K hK => ?_) <| steps_guard (fun A_ W hb hr hg K hK => ?_) <| steps_guard (fun A_ W hb hr hg K hK => ?_) <| steps_cons rfl (fun A_ W hb hr hg K hK => ?_) <| steps_cons rfl (fun A_ W hb hr hg K hK => ?_) <| steps_guard (fun A_ W hb hr hg K hK => ?_) <| steps_cons rfl (fun A_ W hb hr hg K hK => ?_) <| steps_cons rfl (fun A_ W hb hr hg K hK => ?_) trivial
      · have e0 : A_.tmps[4]?.getD undef = .int .i64 (1) := hb 4 (by kernel_rfl)
        clear hb hr
        go_simp
        exact hK _ _ (Below.refl _ _) (rfl)
      · have e0 : A_.tmps[44]?.getD undef = .int .i64 (1) := hr 44 (by kernel_rfl)
        clear hb hr
        go_simp
        exact hK _ _ (Below.refl _ _) (rfl)
      · have e0 : A_.tmps[45]?.getD undef = .bool (true) := hr 45 (by kernel_rfl)
        clear hb hr
        go_simp
        exact hK _ _ (Below.refl _ _) (rfl)
      · have eG : A_.tmps[46]?.getD undef = .bool (true) := hr 46 (by kernel_rfl)
        have e0 : A_.tmps[6]?.getD undef = .int .i64 (1) := hb 6 (by kernel_rfl)
        clear hb hr
        refine guard_on rfl (by kernel_rfl) eG ?_
        clear eG
        go_simp
        exact hK _ _ (Below.refl _ _) (rfl)
      · have eG : A_.tmps[46]?.getD undef = .bool (true) := hr 46 (by kernel_rfl)
        have e0 : A_.tmps[47]?.getD undef = .int .i64 (1) := hr 47 (by kernel_rfl)
        clear hb hr
        refine guard_on rfl (by kernel_rfl) eG ?_
        clear eG
        go_simp
        exact hK _ _ (Below.refl _ _) (rfl)
      · have e0 : A_.tmps[46]?.getD undef = .bool (true) := hr 46 (by kernel_rfl)
        have e1 : A_.tmps[48]?.getD undef = .bool (true) := hr 48 (by kernel_rfl)
        clear hb hr
        go_simp
        exact hK _ _ (Below.refl _ _) (rfl)
      · have e0 : A_.tmps[49]?.getD undef = .bool (true) := hr 49 (by kernel_rfl)
        clear hb hr
        go_simp
        exact hK _ _ (Below.refl _ _) (rfl)
      · have eG : A_.tmps[50]?.getD undef = .bool (true) := hr 50 (by kernel_rfl)
        have e0 : A_.tmps[3]?.getD undef = .string ⟨#[]⟩ := hb 3 (by kernel_rfl)
        clear hb hr
        refine guard_on rfl (by kernel_rfl) eG ?_
        clear eG
        go_simp
        exact hK _ _ (Below.refl _ _) (rfl)
      · have eG : A_.tmps[50]?.getD undef = .bool (true) := hr 50 (by kernel_rfl)
        have e0 : A_.tmps[51]?.getD undef = .string ⟨#[]⟩ := hr 51 (by kernel_rfl)
        clear hb hr
        refine guard_on rfl (by kernel_rfl) eG ?_
        clear eG
        go_simp; exact hK _ _ (Below.refl _ _) (rfl)
      · have e0 : A_.tmps[50]?.getD undef = .bool (true) := hr 50 (by kernel_rfl)
        have e1 : A_.tmps[52]?.getD undef = .bool (true) := hr 52 (by kernel_rfl)
        clear hb hr
        go_simp
        exact hK _ _ (Below.refl _ _) (rfl)
      · have e0 : A_.tmps[53]?.getD undef = .bool (true) := hr 53 (by kernel_rfl)
        clear hb hr
        go_simp
        exact hK _ _ (Below.refl _ _) (rfl)
      · have eG : A_.tmps[54]?.getD undef = .bool (true) := hr 54 (by kernel_rfl)
        have e0 : A_.tmps[5]?.getD undef = .string ⟨#[]⟩ := hb 5 (by kernel_rfl)
        clear hb hr
        refine guard_on rfl (by kernel_rfl) eG ?_
        clear eG
        go_simp
        exact hK _ _ (Below.refl _ _) (rfl)
      · have eG : A_.tmps[54]?.getD undef = .bool (true) := hr 54 (by kernel_rfl)
        have e0 : A_.tmps[55]?.getD undef = .string ⟨#[]⟩ := hr 55 (by kernel_rfl)
        clear hb hr
        refine guard_on rfl (by kernel_rfl) eG ?_
        clear eG
        go_simp; exact hK _ _ (Below.refl _ _) (rfl)
      · have e0 : A_.tmps[54]?.getD undef = .bool (true) := hr 54 (by kernel_rfl)
        have e1 : A_.tmps[56]?.getD undef = .bool (true) := hr 56 (by kernel_rfl)
        clear hb hr
        go_simp
        exact hK _ _ (Below.refl _ _) (rfl)
      · have e0 : A_.tmps[57]?.getD undef = .bool (true) := hr 57 (by kernel_rfl)
        clear hb hr
        go_simp
        exact hK _ _ (Below.refl _ _) (rfl)
      · have eG : A_.tmps[58]?.getD undef = .bool (true) := hr 58 (by kernel_rfl)
        clear hb hr
        refine guard_on rfl (by kernel_rfl) eG ?_
        clear eG
        go_simp
        refine (AL.out _).mono ?_; rintro e w5 ⟨rfl, hb5⟩
        exact hK _ _ hb5 (rfl)
      · have e0 : A_.tmps[58]?.getD undef = .bool (true) := hr 58 (by kernel_rfl)
        have e1 : A_.tmps[59]?.getD undef = .bool (true) := hr 59 (by kernel_rfl)
        clear hb hr
        go_simp
        exact hK _ _ (Below.refl _ _) (rfl)
      · have e0 : A_.tmps[60]?.getD undef = .bool (true) := hr 60 (by kernel_rfl)
        clear hb hr
        go_simp
        exact hK _ _ (Below.refl _ _) (rfl)
    rintro g4 w4 hb4 ⟨-, -, -, -, -, -, -, -, -, -, -, -, -, -, -, -, -, h2, -⟩
    simp only [List.drop_succ_cons, List.drop_zero, List.take_succ_cons, List.take_zero, putHead, Option.getD_some, Act.put, List.setIfInBounds_toArray, List.set_cons_zero, List.set_cons_succ]
    replace h2 : g4 2 = .bool (true) := h2
    generalize g4 2 = v2 at *
    subst h2
    have B4 := Lib.hid (bstep B3.out hb4); clear hb4
    go_wp2_with fail
    go_ret
    exact ⟨rfl, B4.out⟩
  · exact floor_all w a ha i1

end Go.Proofs.Ytlkdahgfnfdakaa

namespace Go.Proofs.Ytlkdahgfnfdakaa
open Go.ChangeShapes Go.WideShapes Go.ChangeAt Go.RowKit
open Go.ChangeMaps (open_string shut_string)

set_option maxRecDepth 100000 in
theorem floor_lifted (os : Os) (started : os.Started) (H : Type) (enc : TypeId × Value → H) :
    ReturnsInHanded {} Try.checked os 11 .any (Rows.ratFloorSpec.pre6 enc Try.prog Try.f11 Rows.ratFloorRow.domain false) (Rows.ratFloorSpec.post enc Try.prog Try.f11 false true false false) := by
  refine returnsInHanded_of_change_sized (C := Try.checked) Try.own started (by kernel_rfl) Try.func11
    (ChangeSpec.witness6 (enc := enc) (C := Try.checked) false ⟨#[], #[.string ⟨#[]⟩], []⟩ 8 (by kernel_rfl) (by kernel_rfl) (by kernel_rfl) (by kernel_rfl)) ?_
  intro W base args ds gs before hval0 hW hcnd hsz0 _
  have hsz : (DataW.weightsEach Try.prog (Try.f11.params.toList ++ Rows.ratFloorSpec.plain.varTypes Try.prog) (ds ++ gs)).all (· ≤ reachBytes) = true := hsz0
  clear hsz0
  have hval : ∀ (j : Nat) t v, Try.f11.params[j]? = some t → args[j]? = some v → Value.okWide Try.prog W .any base t v := hval0
  have hW1 := hW
  obtain ⟨p, q, hA0, hV, rfl, hfz, hnd⟩ := hW
  have hA : DataW.TrodAll enc Try.prog W 0 (fun _ => true) true Try.f11.params.toList args.toList ds p := hA0
  rw [Try.params11] at hA hval hsz
  obtain ⟨v0, d0, rfl, rfl, h0⟩ := trodAll_one hA
  obtain ⟨rfl, rfl⟩ := trodVars_none hV
  obtain ⟨a, rfl, rfl, rfl, wa⟩ := open_string Try.underlying9 (hval 0 9 v0 rfl rfl) h0
  clear hA0 hval0
  simp only [List.append_nil] at hW1
  have sa : a.size ≤ 140737488355328 := size_of (sized_string hsz (j := 0) (t := 9) rfl rfl)
  refine (floor_law W a sa).mono fun e W1 ⟨he, hw⟩ => ?_
  subst he
  exact ⟨_, rfl, post_new hW1 hw (fun _ _ _ => trodAll_mk1 (shut_bool Try.underlying4 true)) (fun _ => trodAll_mk1 (shut_string Try.underlying9 wa)) (fun _ => rfl)
    (ok_one (by kernel_rfl) rfl (okWide_bool_mk Try.underlying4 true))⟩

theorem floor_holds : Rows.RatFloorSaid :=
  OpenClaim.holds_of_wide 11 Try.f11 rfl rfl rfl rfl rfl rfl rfl ⟨rfl, rfl, rfl, rfl, rfl⟩ rfl rfl rfl rfl rfl (by kernel_rfl) Try.func11 (by kernel_rfl)
    (of_decide_eq_true (by kernel_rfl)) (by unfold Func.isWrapper; first | (rw [if_pos (by decide +kernel)]; kernel_rfl) | (rw [if_neg (by decide +kernel)]; exact ⟨rfl, rfl⟩))
    (fun os started H enc _ => floor_lifted os started H enc)
end Go.Proofs.Ytlkdahgfnfdakaa
