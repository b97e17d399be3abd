/- IsWord: a word is what is read as one. -/
import Derived.Test.YtegobakoflbnfaaDoorX
namespace Go.Proofs.YtegobakoflbnfaaDoor
open Go Go.RowKit

set_option maxHeartbeats 4000000 in
set_option maxRecDepth 100000 in
theorem written_word (w : World) (s : ByteArray) : Calls Tryd.prog 25 #[.agg #[.int .i64 1, .string s, .int .i64 0]] w fun e w' => e = .returned (.string s) ∧ Below w.heap.size w w' := by
  have HB := Lib.hid (below_alloc w (.cells #[.int .i64 1, .string s, .int .i64 0] 36))
  go_enter Tryd.func25, Tryd.ntmps25
  go_wp2_with fail
  go_ret
  exact ⟨rfl, HB.out⟩
def isWordB (s : ByteArray) : Bool := decide (0 < (firstT s).2.2) && decide ((firstT s).2.2 = s.size) && ((firstT s).1 == 1) && ((firstT s).2.1.toList == s.toList)

set_option maxHeartbeats 4000000 in
set_option maxRecDepth 100000 in
theorem token_word (w : World) (s : ByteArray) (hs : s.size ≤ 140737488355328) (hm : MaxL w) (ht : Pow10 w) : Calls Tryd.prog 20 #[.agg #[.int .i64 1, .string s, .int .i64 0]] w fun e w' => e = .returned (.bool (isWordB s)) ∧ Below w.heap.size w w' := by
  have BX0 := BoxT.new w (.int .i64 1) (.string s) (.int .i64 0)
  have B0 := below_alloc w (.cells #[.int .i64 1, .string s, .int .i64 0] 36)
  have WR := Lib.hid (fun W => written_word W s)
  have FI : Hid (∀ W, Below w.heap.size w W → Calls Tryd.prog 28 #[.string s] W (RetTok W (firstT s))) := fun W hb => first_any W s hs (hm.go hb) (ht.go hb)
  obtain ⟨b, hb⟩ : ∃ b, b = isWordB s := ⟨_, rfl⟩
  rw [← hb]
  unfold isWordB at hb
  obtain ⟨x, hx⟩ : ∃ x, x = firstT s := ⟨_, rfl⟩
  rw [← hx] at hb FI
  obtain ⟨k, t, n⟩ := x
  simp only [] at hb
  have HB := Lib.hid B0; have BX := Lib.hid BX0; have HBB := Lib.hid hb
  clear hx hb BX0 B0 hm ht hs
  obtain ⟨x0, x1, x2, f0, f1, f2⟩ := BX.out.facts
  go_enter Tryd.func20, Tryd.ntmps20
  go_wp2_with fail
  refine (WR.out _).mono ?_; rintro e w2 ⟨rfl, hb2⟩
  have BX2 := Lib.hid (BX.out.go hb2); have HB2 := Lib.hid (bstep HB.out hb2); clear hb2 HB BX
  go_wp2_with fail
  refine (FI.out _ HB2.out).mono ?_; rintro e w3 ⟨rfl, hb3⟩
  have BX3 := Lib.hid (BX2.out.go hb3); have HB3 := Lib.hid (bstep HB2.out hb3); clear hb3 HB2 BX2
  have BX4 := Lib.hid (BX3.out.go (below_alloc w3 (.cells #[.int .i64 k, .string t, .int .i64 0] 36)))
  have HB4 := Lib.hid (bstep HB3.out (below_alloc w3 (.cells #[.int .i64 k, .string t, .int .i64 0] 36)))
  clear x0 x1 x2 f0 f1 f2
  obtain ⟨x0, x1, x2, f0, f1, f2⟩ := BX4.out.facts
  by_cases h0 : 0 < n
  · by_cases h1 : n = s.size
    · subst h1
      by_cases h2 : k = 1
      · subst h2
        have HR : Hid (b = (t.toList == s.toList)) := by show _ = _; rw [HBB.out]; simp [h0]
        go_wp2_with fail
        go_ret
        exact ⟨by rw [HR.out]; rfl, HB4.out⟩
      · have HR : Hid (b = false) := by show _ = _; rw [HBB.out, show (k == 1) = false from by rw [beq_eq_false_iff_ne]; exact h2]; simp
        have k0 : (k == 1) = false := by rw [beq_eq_false_iff_ne]; exact h2
        go_wp2_with fail
        go_ret
        exact ⟨by rw [HR.out]; rfl, HB4.out⟩
    · have HR : Hid (b = false) := by show _ = _; rw [HBB.out, decide_eq_false h1]; simp
      have k0 : ((n : Int) == (s.size : Int)) = false := by rw [beq_eq_false_iff_ne]; omega
      go_wp2_with fail
      go_ret
      exact ⟨by rw [HR.out]; rfl, HB4.out⟩
  · have HR : Hid (b = false) := by show _ = _; rw [HBB.out, decide_eq_false h0]; simp
    obtain rfl : n = 0 := by omega
    go_wp2_with fail
    go_ret
    exact ⟨by rw [HR.out]; rfl, HB4.out⟩

set_option maxHeartbeats 4000000 in
set_option maxRecDepth 100000 in
theorem isword_any (w : World) (s : ByteArray) (hs : s.size ≤ 140737488355328) (hm : MaxL w) (ht : Pow10 w) : Calls Tryd.prog 11 #[.string s] w fun e w' => e = .returned (.bool (isWordB s)) ∧ Below w.heap.size w w' := by
  have F := Lib.hid (token_word w s hs hm ht)
  clear hm ht hs
  go_enter Tryd.func11, Tryd.ntmps11
  go_wp2_with fail
  refine F.out.mono ?_; rintro e w2 ⟨rfl, hb⟩
  have HB := Lib.hid hb; clear hb
  go_wp2_with fail
  go_ret
  exact ⟨rfl, HB.out⟩
end Go.Proofs.YtegobakoflbnfaaDoor
