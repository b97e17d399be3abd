/- power, divisor. -/
import Derived.Test.YtegobakoflbnfaaDoorH
namespace Go.Proofs.YtegobakoflbnfaaDoor
open Go Go.RowKit

set_option maxHeartbeats 4000000 in
set_option maxRecDepth 100000 in
theorem power_any (w : World) (n : Nat) (hn : n ≤ 15) : Calls Tryd.prog 45 #[.int .i64 (n : Int)] w fun e w' => e = .returned (.int .u64 ((10 ^ n : Nat) : Int)) ∧ w' = w := by
  have HN := Lib.hid hn
  clear hn
  go_enter Tryd.func45, Tryd.ntmps45
  go_wp2_with fail
  go_loopw [3, 5] (fun v3 v5 wr => ∃ i : Nat, i ≤ n ∧ v5 = .int .i64 (i : Nat) ∧ wr = w ∧ v3 = .int .u64 ((10 ^ i : Nat) : Int)) (fun _ vi _ => n - (intOf vi).toNat)
  case atStart => exact ⟨0, Nat.zero_le _, rfl, rfl, rfl⟩
  case round =>
    obtain ⟨i, hi, rfl, rfl, rfl⟩ := hrel
    have HW := Lib.hid (wnat (n := i) (by have := HN.out; omega))
    by_cases hlt : i < n
    · have hp : 10 ^ (i + 1) ≤ 10 ^ 15 := Nat.pow_le_pow_right (by omega) (by have := HN.out; omega)
      have hm : IntKind.u64.wrap (((10 ^ i : Nat) : Int) * 10) = ((10 ^ (i + 1) : Nat) : Int) := by
        have e : ((10 ^ i : Nat) : Int) * 10 = ((10 ^ (i + 1) : Nat) : Int) := by rw [Nat.pow_succ, Int.natCast_mul]; rfl
        have h15 : (10 : Nat) ^ 15 = 1000000000000000 := by decide
        rw [e]
        generalize 10 ^ (i + 1) = x at *
        unfold IntKind.wrap
        simp [IntKind.bits, IntKind.signed]
        omega
      have HM := Lib.hid hm
      have HLT := Lib.hid hlt
      clear hm hp hi
      generalize ((10 ^ i : Nat) : Int) = x at *
      go_wp2_with fail
      go_roundw
      case rel => exact ⟨i + 1, HLT.out, by first | exact congrArg (Value.int .i64) HW.out | go_num, by first | trivial | rfl, by first | exact congrArg (Value.int .u64) HM.out | (rw [← HM.out]; first | rfl | go_num)⟩
      case measure => have := HLT.out; first | (rw [HW.out]; simp [intOf]; omega) | (simp [intOf]; omega)
    · obtain rfl : i = n := by omega
      go_wp2_with fail
      go_ret
      exact ⟨rfl, rfl⟩
set_option maxHeartbeats 4000000 in
set_option maxRecDepth 100000 in
theorem divisor_any (w : World) (a b : Nat) (hb : b < 18446744073709551616) : Calls Tryd.prog 68 #[.int .u64 (a : Int), .int .u64 (b : Int)] w fun e w' => e = .returned (.int .u64 ((Nat.gcd a b : Nat) : Int)) ∧ Below w.heap.size w w' := by
  go_enter Tryd.func68, Tryd.ntmps68
  go_wp2_with fail
  go_loopw [0, 1] (fun v0 v1 wr => ∃ x y : Nat, v0 = .int .u64 (x : Int) ∧ v1 = .int .u64 (y : Int) ∧ Below w.heap.size w wr ∧ Nat.gcd x y = Nat.gcd a b) (fun _ v1 _ => (intOf v1).toNat)
  case atStart => exact ⟨a, b, rfl, rfl, Below.refl _ _, rfl⟩
  case round =>
    obtain ⟨x, y, rfl, rfl, hbw, hg⟩ := hrel
    have HB := Lib.hid hbw
    by_cases hy : y = 0
    · subst hy
      have HR : Hid (x = Nat.gcd a b) := by show _ = _; rw [← hg, Nat.gcd_zero_right]
      clear hg hbw
      go_wp2_with fail
      go_ret
      exact ⟨by rw [← HR.out]; rfl, HB.out⟩
    · have HG : Hid (Nat.gcd y (x % y) = Nat.gcd a b) := by show _ = _; rw [← hg, Nat.gcd_comm x y, Nat.gcd_rec y x, Nat.gcd_comm]
      have HL := Lib.hid (Nat.mod_lt x (Nat.pos_of_ne_zero hy))
      have t1 : ((y : Int) != 0) = true := by rw [bne_iff_ne]; omega
      have t2 : ((y : Int) == 0) = false := by rw [beq_eq_false_iff_ne]; omega
      have t3 : ¬ (y : Int) = 0 := by omega
      clear hg hbw
      have HT : Hid ((Value.int .u64 (Int.tmod (x : Int) (y : Int))) = .int .u64 ((x % y : Nat) : Int)) := rfl
      go_wp2_with fail
      go_region
      have hz : (x : Int) % (y : Int) = ((x % y : Nat) : Int) := rfl
      rw [hz]
      obtain ⟨z, hz'⟩ : ∃ z, x % y = z := ⟨_, rfl⟩
      rw [hz'] at HG HL
      have HB2 : Hid (Below w.heap.size w wr.drew) := HB.out.drew
      go_roundw
      case rel => exact ⟨_, _, _, _, _, _, _, _, ⟨y, z, rfl, by rw [← hz'], HB2.out, HG.out⟩, rfl⟩
      case measure => have := HL.out; rw [hz']; simp [intOf]; omega
end Go.Proofs.YtegobakoflbnfaaDoor
