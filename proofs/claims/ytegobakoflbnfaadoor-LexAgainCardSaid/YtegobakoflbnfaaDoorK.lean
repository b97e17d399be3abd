/- The mathematics of math/bits.Div64: two digits of the quotient, each guessed and put right. -/
import Derived.Test.YtegobakoflbnfaaDoorJ
import Derived.Laws.BitsLemmas
import Derived.Lib.EndianBits
namespace Go.Proofs.YtegobakoflbnfaaDoor
open Go Go.RowKit

/-- What one digit's guess is held against. -/
structure DG (Y Y1 Y0 u v q Q R : Nat) : Prop where
  yy : Y = Y1 * 4294967296 + Y0
  y1 : 2147483648 ≤ Y1
  y1' : Y1 < 4294967296
  y0 : Y0 < 4294967296
  uY : u < Y
  vB : v < 4294967296
  lo : q * Y ≤ u * 4294967296 + v
  hi : u * 4294967296 + v < (q + 1) * Y
  sum : Q * Y1 + R = u
  ge : q ≤ Q
  le : Q ≤ 4294967297
  rb : R < 4294967296
theorem DG.qB {Y Y1 Y0 u v q Q R : Nat} (h : DG Y Y1 Y0 u v q Q R) : q < 4294967296 := by
  have h1 := h.lo; have h2 := h.uY; have h3 := h.vB
  rcases Nat.lt_or_ge q 4294967296 with hq | hq
  · exact hq
  · exfalso
    have : 4294967296 * Y ≤ q * Y := Nat.mul_le_mul_right _ hq
    omega
theorem dg_start {Y Y1 Y0 u v : Nat} (yy : Y = Y1 * 4294967296 + Y0) (y1 : 2147483648 ≤ Y1) (y1' : Y1 < 4294967296) (y0 : Y0 < 4294967296) (uY : u < Y) (vB : v < 4294967296) : DG Y Y1 Y0 u v ((u * 4294967296 + v) / Y) (u / Y1) (u % Y1) := by
  have hY : 0 < Y := by omega
  have hs : u / Y1 * Y1 + u % Y1 = u := by rw [Nat.mul_comm]; exact Nat.div_add_mod u Y1
  have hr := Nat.mod_lt u (show 0 < Y1 by omega)
  refine ⟨yy, y1, y1', y0, uY, vB, Nat.div_mul_le_self _ _, ?_, hs, ?_, ?_, by omega⟩
  · have := Nat.lt_mul_div_succ (u * 4294967296 + v) hY
    rw [Nat.mul_comm Y] at this; exact this
  · apply Nat.le_of_lt_succ
    apply (Nat.div_lt_iff_lt_mul hY).2
    have e : u < (u / Y1 + 1) * Y1 := by rw [Nat.add_mul, Nat.one_mul]; omega
    have e2 : u + 1 ≤ (u / Y1 + 1) * Y1 := e
    generalize u / Y1 = Q at *
    have e3 : (u + 1) * 4294967296 ≤ (Q + 1) * Y1 * 4294967296 := Nat.mul_le_mul_right _ e2
    have e5 : (Q + 1) * Y = (Q + 1) * Y1 * 4294967296 + (Q + 1) * Y0 := by rw [yy, Nat.mul_add, Nat.mul_assoc]
    have e4 : (Q + 1) * Y1 * 4294967296 ≤ (Q + 1) * Y := by rw [e5]; exact Nat.le_add_right _ _
    show _ < (Q + 1) * Y
    omega
  · apply Nat.le_of_lt_succ
    apply (Nat.div_lt_iff_lt_mul (by omega)).2
    omega
theorem DG.down {Y Y1 Y0 u v q Q R : Nat} (h : DG Y Y1 Y0 u v q Q R) (ht : 4294967296 ≤ Q ∨ R * 4294967296 + v < Q * Y0) : q < Q := by
  have hq := h.qB
  rcases ht with ht | ht
  · omega
  · rcases Nat.lt_or_ge q Q with hlt | hge
    · exact hlt
    · exfalso
      obtain rfl : q = Q := Nat.le_antisymm h.ge hge
      have h1 := h.lo
      have h2 := h.sum
      have e : q * Y = q * Y1 * 4294967296 + q * Y0 := by rw [h.yy, Nat.mul_add, Nat.mul_assoc]
      omega
theorem DG.next {Y Y1 Y0 u v q Q R : Nat} (h : DG Y Y1 Y0 u v q Q R) (ht : 4294967296 ≤ Q ∨ R * 4294967296 + v < Q * Y0) (hr : R + Y1 < 4294967296) : DG Y Y1 Y0 u v q (Q - 1) (R + Y1) := by
  have hd := h.down ht
  obtain ⟨k, rfl⟩ : ∃ k, Q = k + 1 := ⟨Q - 1, by omega⟩
  have hs := h.sum
  have hle := h.le
  rw [Nat.add_mul, Nat.one_mul] at hs
  exact ⟨h.yy, h.y1, h.y1', h.y0, h.uY, h.vB, h.lo, h.hi, by rw [Nat.add_sub_cancel]; omega, by omega, by omega, hr⟩
theorem DG.broke {Y Y1 Y0 u v q Q R : Nat} (h : DG Y Y1 Y0 u v q Q R) (ht : 4294967296 ≤ Q ∨ R * 4294967296 + v < Q * Y0) (hr : 4294967296 ≤ R + Y1) : Q - 1 = q := by
  have hd := h.down ht
  obtain ⟨k, rfl⟩ : ∃ k, Q = k + 1 := ⟨Q - 1, by omega⟩
  have hs := h.sum
  have hle := h.le
  have h1 := h.hi
  have hy0 := h.y0
  have hY : 0 < Y := by have := h.yy; have := h.y1; omega
  rw [Nat.add_mul, Nat.one_mul] at hs
  have e : k * Y = k * Y1 * 4294967296 + k * Y0 := by rw [h.yy, Nat.mul_add, Nat.mul_assoc]
  have e2 : k * Y0 ≤ 4294967296 * 4294967296 := Nat.mul_le_mul (by omega) (by omega)
  have e3 : k * Y ≤ u * 4294967296 + v := by omega
  have e4 : k * Y < (q + 1) * Y := by omega
  have := Nat.lt_of_mul_lt_mul_right e4
  omega
theorem DG.stays {Y Y1 Y0 u v q Q R : Nat} (h : DG Y Y1 Y0 u v q Q R) (ht : ¬ (4294967296 ≤ Q ∨ R * 4294967296 + v < Q * Y0)) : Q = q := by
  have h1 := h.hi
  have h2 := h.sum
  have hY : 0 < Y := by have := h.yy; have := h.y1; omega
  have e : Q * Y = Q * Y1 * 4294967296 + Q * Y0 := by rw [h.yy, Nat.mul_add, Nat.mul_assoc]
  have e3 : Q * Y ≤ u * 4294967296 + v := by omega
  have e4 : Q * Y < (q + 1) * Y := by omega
  have := Nat.lt_of_mul_lt_mul_right e4
  have := h.ge
  omega
theorem wu64 {n : Nat} (h : n < 18446744073709551616) : IntKind.u64.wrap (n : Int) = (n : Int) := by rw [IntKind.wrap_u64]; omega
/-- a test's right side -/
theorem w_rhs {R v : Nat} (hr : R < 4294967296) (hv : v < 4294967296) : IntKind.u64.wrap (IntKind.u64.wrap (4294967296 * (R : Int)) + (v : Int)) = ((R * 4294967296 + v : Nat) : Int) := by
  rw [IntKind.wrap_u64, IntKind.wrap_u64]; omega
theorem w_lhs {Q Y0 : Nat} (hq : Q < 4294967296) (hy : Y0 < 4294967296) : IntKind.u64.wrap ((Q : Int) * (Y0 : Int)) = ((Q * Y0 : Nat) : Int) := by
  have h : Q * Y0 < 4294967296 * 4294967296 := Nat.mul_lt_mul_of_lt_of_le hq (Nat.le_of_lt hy) (by omega)
  rw [← Int.natCast_mul]
  exact wu64 (by omega)
/-- the rest behind a digit -/
theorem w_rest {u v q Y : Nat} (hlo : q * Y ≤ u * 4294967296 + v) (hY : Y < 18446744073709551616) (hhi : u * 4294967296 + v < (q + 1) * Y) : IntKind.u64.wrap (IntKind.u64.wrap (IntKind.u64.wrap ((u : Int) * 4294967296) + (v : Int)) - IntKind.u64.wrap ((q : Int) * (Y : Int))) = ((u * 4294967296 + v - q * Y : Nat) : Int) := by
  rw [Nat.add_mul, Nat.one_mul] at hhi
  rw [← Int.natCast_mul]
  obtain ⟨p, hp⟩ : ∃ p, p = q * Y := ⟨_, rfl⟩
  rw [← hp] at hlo hhi ⊢
  clear hp
  simp only [IntKind.wrap_u64]
  omega
theorem dg_rest {u v Y : Nat} : u * 4294967296 + v - (u * 4294967296 + v) / Y * Y = (u * 4294967296 + v) % Y := by
  have := Nat.div_add_mod (u * 4294967296 + v) Y
  rw [Nat.mul_comm Y] at this
  exact Nat.sub_eq_of_eq_add (by rw [Nat.add_comm (_ % _)]; exact this.symm)
theorem dg_two (n z B Y : Nat) : n * B + z = (n % Y * B + z) + Y * (n / Y * B) := by
  have this := Nat.div_add_mod n Y
  have e1 : n * B = (Y * (n / Y) + n % Y) * B := by rw [this]
  rw [Nat.add_mul, Nat.mul_assoc] at e1
  omega
theorem dg_quo {n z B Y : Nat} (hY : 0 < Y) : (n * B + z) / Y = n / Y * B + (n % Y * B + z) / Y := by
  rw [dg_two n z B Y, Nat.add_mul_div_left _ _ hY, Nat.add_comm]
theorem dg_rem {n z B Y : Nat} : (n * B + z) % Y = (n % Y * B + z) % Y := by
  rw [dg_two n z B Y, Nat.add_mul_mod_self_left]
/-- the shift that makes the divisor great -/
theorem lz_shift {y : Nat} (h0 : 0 < y) (h1 : y < 18446744073709551616) : ∃ s : Nat, s < 64 ∧ (64 - (Lib.bitLen y : Int)) = (s : Int) ∧ 9223372036854775808 ≤ y * 2 ^ s ∧ y * 2 ^ s < 18446744073709551616 := by
  obtain ⟨a, b, c⟩ := Lib.bitLenAux_bounds 64 y (by simpa using h1) (by omega)
  have d := Lib.bitLen_le y 64 (by decide) (by simpa using h1)
  change 1 ≤ Lib.bitLen y at a
  change 2 ^ (Lib.bitLen y - 1) ≤ y at b
  change y < 2 ^ Lib.bitLen y at c
  generalize Lib.bitLen y = L at *
  refine ⟨64 - L, by omega, by omega, ?_, ?_⟩
  · have e : 2 ^ (L - 1) * 2 ^ (64 - L) = 9223372036854775808 := by rw [← Nat.pow_add, show L - 1 + (64 - L) = 63 by omega]
    rw [← e]; exact Nat.mul_le_mul_right _ b
  · have e : 2 ^ L * 2 ^ (64 - L) = 18446744073709551616 := by rw [← Nat.pow_add, show L + (64 - L) = 64 by omega]
    rw [← e]; exact (Nat.mul_lt_mul_right (Nat.two_pow_pos _)).2 c
end Go.Proofs.YtegobakoflbnfaaDoor
