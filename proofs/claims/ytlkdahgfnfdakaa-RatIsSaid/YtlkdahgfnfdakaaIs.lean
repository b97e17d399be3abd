/- RatIs: whatever text it is given, it returns true, and the text reads as it did. No condition. -/
import Derived.Test.YtlkdahgfnfdakaaRefQ
import Derived.Test.YtlkdahgfnfdakaaBase
namespace Go.Proofs.Ytlkdahgfnfdakaa
open Go Go.RowKit Go.Shelf WN LM

set_option maxHeartbeats 4000000 in
set_option maxRecDepth 100000 in
theorem isis_law (w : World) (a : ByteArray) (ha : a.size ≤ 140737488355328) : Calls Try.prog 3 #[.string a] w (TrueB w) := by
  have AL : Hid (∀ w, Calls Try.prog 20 #[] w fun e w' => e = .returned (.bool true) ∧ Below w.heap.size w w') := alive_any
  have PA : Hid (∀ w, Calls Try.prog 16 #[.string a] w (OutT w (parT a))) := fun w => parts_any w a ha
  have RP : Hid (∀ w, Calls Try.prog 17 #[.string a] w (OutT w (parT a))) := fun w => rparts_any w a ha
  have IS : Hid (∀ w, Calls Try.prog 18 #[.string a] w fun e w' => e = .returned (.bool (readQ a.data.toList).isSome) ∧ Below w.heap.size w w') := fun w => is_any w a ha
  have RI : Hid (∀ w, Calls Try.prog 19 #[.string a] w fun e w' => e = .returned (.bool (readQ a.data.toList).isSome) ∧ Below w.heap.size w w') := fun w => ris_any w a ha
  clear ha
  generalize (readQ a.data.toList).isSome = b at *
  generalize parT a = r_ at *; obtain ⟨t1, t2, ec⟩ := r_
  go_enter Try.func3, Try.ntmps3
  go_wp2_with fail
  refine (PA.out _).mono ?_; rintro e w1 ⟨rfl, hb1⟩
  have B1 := Lib.hid hb1; clear hb1
  go_wp2_with fail
  refine (RP.out _).mono ?_; rintro e w2 ⟨rfl, hb2⟩
  have B2 := Lib.hid (bstep B1.out hb2); clear hb2
  go_wp2_with fail
  refine (IS.out _).mono ?_; rintro e w3 ⟨rfl, hb3⟩
  have B3 := Lib.hid (bstep B2.out hb3); clear hb3
  go_wp2_with fail
  refine (RI.out _).mono ?_; rintro e w4 ⟨rfl, hb4⟩
  have B4 := Lib.hid (bstep B3.out hb4); clear hb4
  go_wp2_with fail
  refine (AL.out _).mono ?_; rintro e w5 ⟨rfl, hb5⟩
  have B5 := Lib.hid (bstep B4.out hb5); clear hb5
  go_wp2_with fail
  go_ret
  exact ⟨rfl, B5.out⟩
end Go.Proofs.Ytlkdahgfnfdakaa

namespace Go.Proofs.Ytlkdahgfnfdakaa
open Go.ChangeShapes Go.WideShapes Go.ChangeAt Go.RowKit
open Go.ChangeMaps (open_string shut_string)

set_option maxRecDepth 100000 in
theorem isis_lifted (os : Os) (started : os.Started) (H : Type) (enc : TypeId × Value → H) :
    ReturnsInHanded {} Try.checked os 3 .any (Rows.ratIsSpec.pre6 enc Try.prog Try.f3 Rows.ratIsRow.domain false) (Rows.ratIsSpec.post enc Try.prog Try.f3 false true false false) := by
  refine returnsInHanded_of_change_sized (C := Try.checked) Try.own started (by kernel_rfl) Try.func3
    (ChangeSpec.witness6 (enc := enc) (C := Try.checked) false ⟨#[], #[.string ⟨#[]⟩], []⟩ 8 (by kernel_rfl) (by kernel_rfl) (by kernel_rfl) (by kernel_rfl)) ?_
  intro W base args ds gs before hval0 hW hcnd hsz0 _
  have hsz : (DataW.weightsEach Try.prog (Try.f3.params.toList ++ Rows.ratIsSpec.plain.varTypes Try.prog) (ds ++ gs)).all (· ≤ reachBytes) = true := hsz0
  clear hsz0
  have hval : ∀ (j : Nat) t v, Try.f3.params[j]? = some t → args[j]? = some v → Value.okWide Try.prog W .any base t v := hval0
  have hW1 := hW
  obtain ⟨p, q, hA0, hV, rfl, hfz, hnd⟩ := hW
  have hA : DataW.TrodAll enc Try.prog W 0 (fun _ => true) true Try.f3.params.toList args.toList ds p := hA0
  rw [Try.params3] at hA hval hsz
  obtain ⟨v0, d0, rfl, rfl, h0⟩ := trodAll_one hA
  obtain ⟨rfl, rfl⟩ := trodVars_none hV
  obtain ⟨a, rfl, rfl, rfl, wa⟩ := open_string Try.underlying9 (hval 0 9 v0 rfl rfl) h0
  clear hA0 hval0
  simp only [List.append_nil] at hW1
  have sa : a.size ≤ 140737488355328 := size_of (sized_string hsz (j := 0) (t := 9) rfl rfl)
  refine (isis_law W a sa).mono fun e W1 ⟨he, hw⟩ => ?_
  subst he
  exact ⟨_, rfl, post_new hW1 hw (fun _ _ _ => trodAll_mk1 (shut_bool Try.underlying4 true)) (fun _ => trodAll_mk1 (shut_string Try.underlying9 wa)) (fun _ => rfl)
    (ok_one (by kernel_rfl) rfl (okWide_bool_mk Try.underlying4 true))⟩

theorem isis_holds : Rows.RatIsSaid :=
  OpenClaim.holds_of_wide 3 Try.f3 rfl rfl rfl rfl rfl rfl rfl ⟨rfl, rfl, rfl, rfl, rfl⟩ rfl rfl rfl rfl rfl (by kernel_rfl) Try.func3 (by kernel_rfl)
    (of_decide_eq_true (by kernel_rfl)) (by unfold Func.isWrapper; first | (rw [if_pos (by decide +kernel)]; kernel_rfl) | (rw [if_neg (by decide +kernel)]; exact ⟨rfl, rfl⟩))
    (fun os started H enc _ => isis_lifted os started H enc)
end Go.Proofs.Ytlkdahgfnfdakaa
