/- RatOne: whatever text and number it is given, it returns true, and the text reads as it did. No condition. -/
import Derived.Test.YtlkdahgfnfdakaaRefZ2
import Derived.Test.YtlkdahgfnfdakaaRefZ3
import Derived.Test.YtlkdahgfnfdakaaMakes
namespace Go.Proofs.Ytlkdahgfnfdakaa
open Go Go.RowKit Go.Shelf WN LM

set_option maxHeartbeats 8000000 in
set_option maxRecDepth 100000 in
theorem one_law (w : World) (a : ByteArray) (n : Int) (ha : a.size ≤ 140737488355328) : Calls Try.prog 6 #[.string a, .int .i64 n] w (TrueB w) := by
  have AL : Hid (∀ w, Calls Try.prog 20 #[] w fun e w' => e = .returned (.bool true) ∧ Below w.heap.size w w') := alive_any
  have P0 : Hid (∀ w, Calls Try.prog 33 #[.string a] w (OutS w (floorT a))) := fun w => floor_any w a ha
  have R0 : Hid (∀ w, Calls Try.prog 34 #[.string a] w (OutS w (floorT a))) := fun w => rFloor_any w a ha
  have P1 : Hid (∀ w, Calls Try.prog 35 #[.string a] w (OutS w (roundT a))) := fun w => round_any w a ha
  have R1 : Hid (∀ w, Calls Try.prog 36 #[.string a] w (OutS w (roundT a))) := fun w => rRound_any w a ha
  have P2 : Hid (∀ w, Calls Try.prog 37 #[.string a, .int .i64 n] w (OutS w (powT a n))) := fun w => pow_any w a n ha
  have R2 : Hid (∀ w, Calls Try.prog 38 #[.string a, .int .i64 n] w (OutS w (powT a n))) := fun w => rPow_any w a n ha
  have P3 : Hid (∀ w, Calls Try.prog 39 #[.string a] w (OutI w (signT a))) := fun w => sign_any w a ha
  have R3 : Hid (∀ w, Calls Try.prog 40 #[.string a] w (OutI w (signT a))) := fun w => rSign_any w a ha
  clear ha
  generalize floorT a = r_ at *; obtain ⟨t0, c0⟩ := r_
  generalize roundT a = r_ at *; obtain ⟨t1, c1⟩ := r_
  generalize powT a n = r_ at *; obtain ⟨t2, c2⟩ := r_
  generalize signT a = r_ at *; obtain ⟨t3, c3⟩ := r_
  go_enter Try.func6, Try.ntmps6
  go_wp2_with fail
  refine (P0.out _).mono ?_; rintro e w1 ⟨rfl, hb1⟩
  have B1 := Lib.hid hb1; clear hb1
  go_wp2_with fail
  refine (R0.out _).mono ?_; rintro e w2 ⟨rfl, hb2⟩
  have B2 := Lib.hid (bstep B1.out hb2); clear hb2
  go_wp2_with fail
  refine (P1.out _).mono ?_; rintro e w3 ⟨rfl, hb3⟩
  have B3 := Lib.hid (bstep B2.out hb3); clear hb3
  go_wp2_with fail
  refine (R1.out _).mono ?_; rintro e w4 ⟨rfl, hb4⟩
  have B4 := Lib.hid (bstep B3.out hb4); clear hb4
  go_wp2_with fail
  refine (P2.out _).mono ?_; rintro e w5 ⟨rfl, hb5⟩
  have B5 := Lib.hid (bstep B4.out hb5); clear hb5
  go_wp2_with fail
  refine (R2.out _).mono ?_; rintro e w6 ⟨rfl, hb6⟩
  have B6 := Lib.hid (bstep B5.out hb6); clear hb6
  go_wp2_with fail
  refine (P3.out _).mono ?_; rintro e w7 ⟨rfl, hb7⟩
  have B7 := Lib.hid (bstep B6.out hb7); clear hb7
  go_wp2_with fail
  refine (R3.out _).mono ?_; rintro e w8 ⟨rfl, hb8⟩
  have B8 := Lib.hid (bstep B7.out hb8); clear hb8
  go_wp2_with fail
  refine (AL.out _).mono ?_; rintro e w9 ⟨rfl, hb9⟩
  have B9 := Lib.hid (bstep B8.out hb9); clear hb9
  go_wp2_with fail
  go_ret
  exact ⟨rfl, B9.out⟩
end Go.Proofs.Ytlkdahgfnfdakaa

namespace Go.Proofs.Ytlkdahgfnfdakaa
open Go.ChangeShapes Go.WideShapes Go.ChangeAt Go.RowKit
open Go.ChangeMaps (open_string shut_string)

set_option maxRecDepth 100000 in
theorem one_lifted (os : Os) (started : os.Started) (H : Type) (enc : TypeId × Value → H) :
    ReturnsInHanded {} Try.checked os 6 .any (Rows.ratOneSpec.pre6 enc Try.prog Try.f6 Rows.ratOneRow.domain false) (Rows.ratOneSpec.post enc Try.prog Try.f6 false true false false) := by
  refine returnsInHanded_of_change_sized (C := Try.checked) Try.own started (by kernel_rfl) Try.func6
    (ChangeSpec.witness6 (enc := enc) (C := Try.checked) false ⟨#[], #[.string ⟨#[]⟩, .int .i64 0], []⟩ 8 (by kernel_rfl) (by kernel_rfl) (by kernel_rfl) (by kernel_rfl)) ?_
  intro W base args ds gs before hval0 hW hcnd hsz0 _
  have hsz : (DataW.weightsEach Try.prog (Try.f6.params.toList ++ Rows.ratOneSpec.plain.varTypes Try.prog) (ds ++ gs)).all (· ≤ reachBytes) = true := hsz0
  clear hsz0
  have hval : ∀ (j : Nat) t v, Try.f6.params[j]? = some t → args[j]? = some v → Value.okWide Try.prog W .any base t v := hval0
  have hW1 := hW
  obtain ⟨p, q, hA0, hV, rfl, hfz, hnd⟩ := hW
  have hA : DataW.TrodAll enc Try.prog W 0 (fun _ => true) true Try.f6.params.toList args.toList ds p := hA0
  rw [Try.params6] at hA hval hsz
  obtain ⟨v0, v1, d0, d1, p0, p1, rfl, rfl, rfl, h0, h1⟩ := trodAll_two hA
  obtain ⟨rfl, rfl⟩ := trodVars_none hV
  obtain ⟨a, rfl, rfl, rfl, wa⟩ := open_string Try.underlying9 (hval 0 9 v0 rfl rfl) h0
  obtain ⟨n, rfl, rfl, rfl, wn⟩ := open_int Try.underlying3 (hval 1 3 v1 rfl rfl) h1
  clear hA0 hval0
  simp only [List.append_nil] at hW1
  have sa : a.size ≤ 140737488355328 := size_of (sized_string hsz (j := 0) (t := 9) rfl rfl)
  refine (one_law W a n sa).mono fun e W1 ⟨he, hw⟩ => ?_
  subst he
  exact ⟨_, rfl, post_new hW1 hw (fun _ _ _ => trodAll_mk1 (shut_bool Try.underlying4 true)) (fun _ => trodAll_mk2 (shut_string Try.underlying9 wa) (shut_int Try.underlying3 wn)) (fun _ => rfl)
    (ok_one (by kernel_rfl) rfl (okWide_bool_mk Try.underlying4 true))⟩

theorem one_holds : Rows.RatOneSaid :=
  OpenClaim.holds_of_wide 6 Try.f6 rfl rfl rfl rfl rfl rfl rfl ⟨rfl, rfl, rfl, rfl, rfl⟩ rfl rfl rfl rfl rfl (by kernel_rfl) Try.func6 (by kernel_rfl)
    (of_decide_eq_true (by kernel_rfl)) (by unfold Func.isWrapper; first | (rw [if_pos (by decide +kernel)]; kernel_rfl) | (rw [if_neg (by decide +kernel)]; exact ⟨rfl, rfl⟩))
    (fun os started H enc _ => one_lifted os started H enc)
end Go.Proofs.Ytlkdahgfnfdakaa
