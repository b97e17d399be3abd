import Derived.Test.YtlkdahgfnfdakaaComb
namespace Go.Proofs.Ytlkdahgfnfdakaa
open Go.RowKit WN LM

def GcdOut (n : Nat) (w : World) (e : Ending) (w' : World) : Prop := e = .returned (.int .u64 (n : Nat)) ∧ ∃ q, w' = w.drewN q

set_option maxHeartbeats 1000000 in
theorem smallDivisor_any (a b : Nat) (ha : a < 18446744073709551616) (hb : b < 18446744073709551616) (w : World) :
    Calls Try.prog 125 #[.int .u64 (a : Nat), .int .u64 (b : Nat)] w (GcdOut (Nat.gcd a b) w) := by
  have ha' : Hid ((a : Int) ≤ 18446744073709551615) := by show _ ≤ _; omega
  have hb' : Hid ((b : Int) ≤ 18446744073709551615) := by show _ ≤ _; omega
  clear ha hb
  go_enter Try.func125, Try.ntmps125
  go_wp2
  go_loopw [0, 1] (fun v0 v1 wr => ∃ x y q : Nat, v0 = .int .u64 x ∧ v1 = .int .u64 y ∧ Hid ((x : Int) ≤ 18446744073709551615) ∧ Hid ((y : Int) ≤ 18446744073709551615) ∧ Hid (Nat.gcd x y = Nat.gcd a b) ∧ wr = w.drewN q) (fun _ v1 _ => (intOf v1).toNat)
  case atStart => exact ⟨a, b, 0, rfl, rfl, ha', hb', rfl, rfl⟩
  case round =>
    obtain ⟨x, y, q, rfl, rfl, hx, hy, hg, rfl⟩ := hrel
    by_cases h : 0 < y
    · have hrem : Hid ((x : Int) % (y : Int) = ((x % y : Nat) : Int)) := by show _ = _; rw [Int.natCast_emod]
      have hlt : x % y < y := Nat.mod_lt _ h
      have hgg : Hid (Nat.gcd y (x % y) = Nat.gcd a b) := by show _ = _; rw [← hg.out, Nat.gcd_comm x y, Nat.gcd_rec y x, Nat.gcd_comm]
      have Hlt := Lib.hid hlt; clear hlt
      have hyz : ((y : Int) == 0) = false := by rw [beq_eq_false_iff_ne]; omega
      have hyn : ¬ y = 0 := by omega
      go_wp2
      go_quiet (fail)
      go_wp2
      rw [hrem.out]
      go_roundw
      case rel => exact ⟨y, x % y, _, rfl, rfl, hy, by show _ ≤ _; have := hy.out; have := Hlt.out; omega, hgg, by rw [drewN_drewN]⟩
      case measure => have := Hlt.out; simp [intOf]; omega
    · obtain rfl : y = 0 := by omega
      go_wp2
      go_ret
      exact ⟨by have := hg.out; rw [Nat.gcd_zero_right] at this; rw [← this]; rfl, _, rfl⟩
end Go.Proofs.Ytlkdahgfnfdakaa
