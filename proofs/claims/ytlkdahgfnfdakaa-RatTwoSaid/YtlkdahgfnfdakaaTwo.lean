/- RatTwo: whatever two texts it is given, it returns true, and the texts read as they did. No condition. -/
import Derived.Test.YtlkdahgfnfdakaaRefX
import Derived.Test.YtlkdahgfnfdakaaBase
namespace Go.Proofs.Ytlkdahgfnfdakaa
open Go Go.RowKit Go.Shelf WN LM

set_option maxHeartbeats 8000000 in
set_option maxRecDepth 100000 in
theorem two_law (w : World) (a b : ByteArray) (ha : a.size ≤ 140737488355328) (hb : b.size ≤ 140737488355328) : Calls Try.prog 5 #[.string a, .string b] w (TrueB w) := by
  have AL : Hid (∀ w, Calls Try.prog 20 #[] w fun e w' => e = .returned (.bool true) ∧ Below w.heap.size w w') := alive_any
  have P0 : Hid (∀ w, Calls Try.prog 23 #[.string a, .string b] w (OutS w (addT a b))) := fun w => add_any w a b ha hb
  have R0 : Hid (∀ w, Calls Try.prog 24 #[.string a, .string b] w (OutS w (addT a b))) := fun w => rAdd_any w a b ha hb
  have P1 : Hid (∀ w, Calls Try.prog 25 #[.string a, .string b] w (OutS w (subT a b))) := fun w => sub_any w a b ha hb
  have R1 : Hid (∀ w, Calls Try.prog 26 #[.string a, .string b] w (OutS w (subT a b))) := fun w => rSub_any w a b ha hb
  have P2 : Hid (∀ w, Calls Try.prog 27 #[.string a, .string b] w (OutS w (mulT a b))) := fun w => mul_any w a b ha hb
  have R2 : Hid (∀ w, Calls Try.prog 28 #[.string a, .string b] w (OutS w (mulT a b))) := fun w => rMul_any w a b ha hb
  have P3 : Hid (∀ w, Calls Try.prog 29 #[.string a, .string b] w (OutS w (divT a b))) := fun w => div_any w a b ha hb
  have R3 : Hid (∀ w, Calls Try.prog 30 #[.string a, .string b] w (OutS w (divT a b))) := fun w => rDiv_any w a b ha hb
  have P4 : Hid (∀ w, Calls Try.prog 31 #[.string a, .string b] w (OutI w (cmpT a b))) := fun w => cmp_any w a b ha hb
  have R4 : Hid (∀ w, Calls Try.prog 32 #[.string a, .string b] w (OutI w (cmpT a b))) := fun w => rCmp_any w a b ha hb
  clear ha hb
  generalize addT a b = r_ at *; obtain ⟨t0, c0⟩ := r_
  generalize subT a b = r_ at *; obtain ⟨t1, c1⟩ := r_
  generalize mulT a b = r_ at *; obtain ⟨t2, c2⟩ := r_
  generalize divT a b = r_ at *; obtain ⟨t3, c3⟩ := r_
  generalize cmpT a b = r_ at *; obtain ⟨t4, c4⟩ := r_
  go_enter Try.func5, Try.ntmps5
  go_wp2_with fail
  refine (P0.out _).mono ?_; rintro e w1 ⟨rfl, hb1⟩
  have B1 := Lib.hid hb1; clear hb1
  go_wp2_with fail
  refine (R0.out _).mono ?_; rintro e w2 ⟨rfl, hb2⟩
  have B2 := Lib.hid (bstep B1.out hb2); clear hb2
  go_wp2_with fail
  refine (P1.out _).mono ?_; rintro e w3 ⟨rfl, hb3⟩
  have B3 := Lib.hid (bstep B2.out hb3); clear hb3
  go_wp2_with fail
  refine (R1.out _).mono ?_; rintro e w4 ⟨rfl, hb4⟩
  have B4 := Lib.hid (bstep B3.out hb4); clear hb4
  go_wp2_with fail
  refine (P2.out _).mono ?_; rintro e w5 ⟨rfl, hb5⟩
  have B5 := Lib.hid (bstep B4.out hb5); clear hb5
  go_wp2_with fail
  refine (R2.out _).mono ?_; rintro e w6 ⟨rfl, hb6⟩
  have B6 := Lib.hid (bstep B5.out hb6); clear hb6
  go_wp2_with fail
  refine (P3.out _).mono ?_; rintro e w7 ⟨rfl, hb7⟩
  have B7 := Lib.hid (bstep B6.out hb7); clear hb7
  go_wp2_with fail
  refine (R3.out _).mono ?_; rintro e w8 ⟨rfl, hb8⟩
  have B8 := Lib.hid (bstep B7.out hb8); clear hb8
  go_wp2_with fail
  refine (P4.out _).mono ?_; rintro e w9 ⟨rfl, hb9⟩
  have B9 := Lib.hid (bstep B8.out hb9); clear hb9
  go_wp2_with fail
  refine (R4.out _).mono ?_; rintro e w10 ⟨rfl, hb10⟩
  have B10 := Lib.hid (bstep B9.out hb10); clear hb10
  go_wp2_with fail
  refine (AL.out _).mono ?_; rintro e w11 ⟨rfl, hb11⟩
  have B11 := Lib.hid (bstep B10.out hb11); clear hb11
  go_wp2_with fail
  go_ret
  exact ⟨rfl, B11.out⟩
end Go.Proofs.Ytlkdahgfnfdakaa

namespace Go.Proofs.Ytlkdahgfnfdakaa
open Go.ChangeShapes Go.WideShapes Go.ChangeAt Go.RowKit
open Go.ChangeMaps (open_string shut_string)

set_option maxRecDepth 100000 in
theorem two_lifted (os : Os) (started : os.Started) (H : Type) (enc : TypeId × Value → H) :
    ReturnsInHanded {} Try.checked os 5 .any (Rows.ratTwoSpec.pre6 enc Try.prog Try.f5 Rows.ratTwoRow.domain false) (Rows.ratTwoSpec.post enc Try.prog Try.f5 false true false false) := by
  refine returnsInHanded_of_change_sized (C := Try.checked) Try.own started (by kernel_rfl) Try.func5
    (ChangeSpec.witness6 (enc := enc) (C := Try.checked) false ⟨#[], #[.string ⟨#[]⟩, .string ⟨#[]⟩], []⟩ 8 (by kernel_rfl) (by kernel_rfl) (by kernel_rfl) (by kernel_rfl)) ?_
  intro W base args ds gs before hval0 hW hcnd hsz0 _
  have hsz : (DataW.weightsEach Try.prog (Try.f5.params.toList ++ Rows.ratTwoSpec.plain.varTypes Try.prog) (ds ++ gs)).all (· ≤ reachBytes) = true := hsz0
  clear hsz0
  have hval : ∀ (j : Nat) t v, Try.f5.params[j]? = some t → args[j]? = some v → Value.okWide Try.prog W .any base t v := hval0
  have hW1 := hW
  obtain ⟨p, q, hA0, hV, rfl, hfz, hnd⟩ := hW
  have hA : DataW.TrodAll enc Try.prog W 0 (fun _ => true) true Try.f5.params.toList args.toList ds p := hA0
  rw [Try.params5] at hA hval hsz
  obtain ⟨v0, v1, d0, d1, p0, p1, rfl, rfl, rfl, h0, h1⟩ := trodAll_two hA
  obtain ⟨rfl, rfl⟩ := trodVars_none hV
  obtain ⟨a, rfl, rfl, rfl, wa⟩ := open_string Try.underlying9 (hval 0 9 v0 rfl rfl) h0
  obtain ⟨b, rfl, rfl, rfl, wb⟩ := open_string Try.underlying9 (hval 1 9 v1 rfl rfl) h1
  clear hA0 hval0
  simp only [List.append_nil] at hW1
  have sa : a.size ≤ 140737488355328 := size_of (sized_string hsz (j := 0) (t := 9) rfl rfl)
  have sb : b.size ≤ 140737488355328 := size_of (sized_string hsz (j := 1) (t := 9) rfl rfl)
  refine (two_law W a b sa sb).mono fun e W1 ⟨he, hw⟩ => ?_
  subst he
  exact ⟨_, rfl, post_new hW1 hw (fun _ _ _ => trodAll_mk1 (shut_bool Try.underlying4 true)) (fun _ => trodAll_mk2 (shut_string Try.underlying9 wa) (shut_string Try.underlying9 wb)) (fun _ => rfl)
    (ok_one (by kernel_rfl) rfl (okWide_bool_mk Try.underlying4 true))⟩

theorem two_holds : Rows.RatTwoSaid :=
  OpenClaim.holds_of_wide 5 Try.f5 rfl rfl rfl rfl rfl rfl rfl ⟨rfl, rfl, rfl, rfl, rfl⟩ rfl rfl rfl rfl rfl (by kernel_rfl) Try.func5 (by kernel_rfl)
    (of_decide_eq_true (by kernel_rfl)) (by unfold Func.isWrapper; first | (rw [if_pos (by decide +kernel)]; kernel_rfl) | (rw [if_neg (by decide +kernel)]; exact ⟨rfl, rfl⟩))
    (fun os started H enc _ => two_lifted os started H enc)
end Go.Proofs.Ytlkdahgfnfdakaa
