/- strings.ContainsRune of the symbols' bytes; classOf. -/
import Derived.Test.YtegobakoflbnfaaDoorB
namespace Go.Proofs.YtegobakoflbnfaaDoor
open Go Go.RowKit

def sigB : ByteArray := ⟨#[40, 41, 91, 93, 123, 125, 44, 59, 58, 46, 61, 60, 62, 43, 45, 42, 47]⟩
def isSig (r : Nat) : Bool := sigB.data.toList.any fun b => b.toNat == r
theorem sig_index : ∀ r : Nat, r < 128 → decide (0 ≤ Lib.indexByte sigB.data.toList r.toUInt8) = isSig r := by decide +kernel
theorem sig_high (r : Nat) (h : 128 ≤ r) : isSig r = false := by
  unfold isSig
  rw [List.any_eq_false]
  intro b hb
  have : b.toNat < 128 := by
    have h1 : ∀ b ∈ sigB.data.toList, b.toNat < 128 := by decide
    exact h1 b hb
  simp; omega
def classN (r : Nat) : Int :=
  if r = 9 ∨ r = 10 then 1 else if r = 32 then 2 else if (97 ≤ r ∧ r ≤ 122) ∨ (65 ≤ r ∧ r ≤ 90) then 3 else if 48 ≤ r ∧ r ≤ 57 then 4 else if r = 95 then 5 else if r = 34 then 6
  else if isSig r then 7 else if 33 ≤ r ∧ r ≤ 126 then 8 else 0

set_option maxHeartbeats 2000000 in
set_option maxRecDepth 100000 in
theorem contains_rune (w : World) (r : Nat) : Calls Tryd.prog 53 #[.string sigB, .int .i32 (r : Int)] w fun e w' => e = .returned (.bool (isSig r)) ∧ Below w.heap.size w w' := by
  by_cases h : r < 128
  · refine (Tryd.strings_ContainsRune_ascii sigB r w (by omega) (by omega)).mono ?_
    rintro e w' ⟨rfl, rfl⟩
    refine ⟨?_, Below.refl _ _⟩
    rw [← sig_index r h]; rfl
  · rw [sig_high r (by omega)]
    have IX : Hid (Calls Tryd.prog 67 #[.string sigB, .int .i32 (r : Int)] w fun e w' => e = .returned (.int .i64 (-1)) ∧ Below w.heap.size w w') := by
      by_cases hr : r = 65533
      · subst hr
        exact index_rune_err (s := sigB) (by decide) w
      · exact index_rune_high (s := sigB) (by decide) (by decide) (by decide) w r (by omega) (by omega)
    obtain ⟨s, hs⟩ : ∃ s, s = sigB := ⟨_, rfl⟩
    rw [← hs] at IX ⊢
    clear hs h
    go_enter Tryd.func53, Tryd.ntmps53
    go_wp2_with fail
    refine IX.out.mono ?_; rintro e w1 ⟨rfl, hb⟩
    have HB := Lib.hid hb; clear hb
    go_wp2_with fail
    go_ret
    exact ⟨rfl, HB.out⟩
set_option maxHeartbeats 8000000 in
set_option maxRecDepth 100000 in
theorem class_any (w : World) (r : Nat) : Calls Tryd.prog 37 #[.int .i32 (r : Int)] w fun e w' => e = .returned (.int .i64 (classN r)) ∧ Below w.heap.size w w' := by
  have CR := Lib.hid (contains_rune w r)
  have hsg : (⟨#[40, 41, 91, 93, 123, 125, 44, 59, 58, 46, 61, 60, 62, 43, 45, 42, 47]⟩ : ByteArray) = sigB := rfl
  obtain ⟨x, hx⟩ : ∃ x, x = classN r := ⟨_, rfl⟩
  have HX := Lib.hid hx
  rw [← hx]
  clear hx
  have HBR : Hid (Below w.heap.size w w) := Below.refl _ _
  have HS : Hid (isSig r = isSig r) := rfl
  generalize hg : isSig r = sg at CR
  go_enter Tryd.func37, Tryd.ntmps37
  go_wp2_with fail
  all_goals first
    | (go_ret
       refine ⟨?_, HBR.out⟩
       rw [HX.out]
       simp only [beq_iff_eq, beq_eq_false_iff_ne, decide_eq_true_eq, decide_eq_false_iff_not] at *
       show Ending.returned (Value.int IntKind.i64 _) = Ending.returned (Value.int IntKind.i64 (classN r))
       unfold classN
       (repeat' split) <;> first | rfl | omega)
    | (refine CR.out.mono ?_
       rintro e w1 ⟨rfl, hb1⟩
       have HB1 := Lib.hid hb1
       clear hb1
       cases sg
       · go_wp2_with fail
         all_goals
           go_ret
           refine ⟨?_, HB1.out⟩
           rw [HX.out]
           simp only [beq_iff_eq, beq_eq_false_iff_ne, decide_eq_true_eq, decide_eq_false_iff_not] at *
           show Ending.returned (Value.int IntKind.i64 _) = Ending.returned (Value.int IntKind.i64 (classN r))
           unfold classN
           rw [hg]
           (repeat' split) <;> first | rfl | omega | (exfalso; simp_all; done)
       · go_wp2_with fail
         go_ret
         refine ⟨?_, HB1.out⟩
         rw [HX.out]
         simp only [beq_iff_eq, beq_eq_false_iff_ne, decide_eq_true_eq, decide_eq_false_iff_not] at *
         show Ending.returned (Value.int IntKind.i64 _) = Ending.returned (Value.int IntKind.i64 (classN r))
         unfold classN
         rw [hg]
         (repeat' split) <;> first | rfl | omega | (exfalso; simp_all; done))
end Go.Proofs.YtegobakoflbnfaaDoor
