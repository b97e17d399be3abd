/- math/bits.Div64. padded, long. gap: how many bytes at a text's beginning are between tokens. fraction: the number that a decimal is. number. first: the longest token that a text begins with. -/
import Derived.Test.YtegobakoflbnfaaGreatDoorGb
import Derived.Laws.Externs
import Derived.Lib.SmallJoins
namespace Go.Proofs.YtegobakoflbnfaaGreatDoor
open Go Go.RowKit

theorem stop_rg {P : Program} {Q : Exit → Act → World → Prop} {r : Nat} {ops : Array Oper} {b : Bool} {a : Act} {w : World} (h : Hid ((Code.region r ops b).wp P Q a w)) : (Code.region r ops b).wp P Q a w := h.out

theorem and_low (n : Nat) (h : n < 18446744073709551616) : bits .and .u64 (n : Int) 4294967295 = ((n % 4294967296 : Nat) : Int) := by
  have := bits_mask .u64 64 (by decide) wraps_u64 32 (by decide) (n : Int) (by omega) (by omega)
  have e1 : ((2 : Int) ^ 32 - 1) = 4294967295 := by decide
  have e2 : ((2 : Int) ^ 32) = 4294967296 := by decide
  rw [e1, e2] at this
  rw [this]; omega
/-- what the shift by s makes of the dividend -/
theorem sh_facts {hi lo y s : Nat} (hs : s < 64) (hl : lo < 18446744073709551616) (hy : hi < y) (hY2 : y * 2 ^ s < 18446744073709551616) : ∃ u L : Nat, bits .or .u64 (IntKind.u64.wrap ((hi : Int) * 2 ^ s)) ((lo : Int) / 2 ^ (64 - s)) = (u : Int) ∧ IntKind.u64.wrap ((lo : Int) * 2 ^ s) = (L : Int) ∧ L < 18446744073709551616 ∧ u < y * 2 ^ s ∧ u * 18446744073709551616 + L = (hi * 18446744073709551616 + lo) * 2 ^ s := by
  have hp := Nat.two_pow_pos s
  have e64 : 2 ^ (64 - s) * 2 ^ s = 18446744073709551616 := by rw [← Nat.pow_add, show 64 - s + s = 64 by omega]
  have hH : hi * 2 ^ s < y * 2 ^ s := (Nat.mul_lt_mul_right hp).2 hy
  have hlow : lo / 2 ^ (64 - s) < 2 ^ s := by
    apply (Nat.div_lt_iff_lt_mul (Nat.two_pow_pos _)).2
    rw [Nat.mul_comm, e64]; exact hl
  have hps : 2 ^ s ≤ 2 ^ 64 := Nat.pow_le_pow_right (by decide) (by omega)
  have hp64 : (2 : Nat) ^ 64 = 18446744073709551616 := by decide
  have hsplit : lo * 2 ^ s = lo / 2 ^ (64 - s) * 18446744073709551616 + lo * 2 ^ s % 18446744073709551616 := by
    have h1 : lo * 2 ^ s / 18446744073709551616 = lo / 2 ^ (64 - s) := by rw [← e64, Nat.mul_div_mul_right _ _ hp]
    rw [← h1, Nat.mul_comm (_ / _)]
    exact (Nat.div_add_mod _ _).symm
  have hsum : (hi * 2 ^ s + lo / 2 ^ (64 - s)) * 18446744073709551616 + lo * 2 ^ s % 18446744073709551616 = (hi * 18446744073709551616 + lo) * 2 ^ s := by
    rw [Nat.add_mul, Nat.add_mul, hsplit, Nat.mul_right_comm]
    omega
  have hmod := Nat.mod_lt (lo * 2 ^ s) (show 0 < 18446744073709551616 by decide)
  refine ⟨hi * 2 ^ s + lo / 2 ^ (64 - s), lo * 2 ^ s % 18446744073709551616, ?_, ?_, hmod, ?_, hsum⟩
  · have c1 : ((hi : Int) * 2 ^ s) = ((hi * 2 ^ s : Nat) : Int) := by push_cast; rfl
    have c2 : ((lo : Int) / 2 ^ (64 - s)) = ((lo / 2 ^ (64 - s) : Nat) : Int) := by push_cast; rfl
    have c3 : ((hi * 2 ^ s : Nat) : Int) % 2 ^ s = 0 := by
      have : ((2 : Int) ^ s) = ((2 ^ s : Nat) : Int) := by push_cast; rfl
      rw [this, ← Int.natCast_emod, Nat.mul_mod_left]; rfl
    rw [c1, c2, wu64 (by omega)]
    rw [bits_join .u64 64 (by decide) wraps_u64 s _ _ (by omega) c3 (by omega) (by omega) (by exact_mod_cast hlow) (by omega)]
    omega
  · have c1 : ((lo : Int) * 2 ^ s) = ((lo * 2 ^ s : Nat) : Int) := by push_cast; rfl
    rw [c1, IntKind.wrap_u64]; omega
  · have h1 : (hi * 18446744073709551616 + lo) * 2 ^ s < y * 18446744073709551616 * 2 ^ s := (Nat.mul_lt_mul_right hp).2 (by omega)
    rw [Nat.mul_right_comm] at h1
    generalize lo / 2 ^ (64 - s) = l1 at *
    generalize hi * 2 ^ s = h2 at *
    generalize lo * 2 ^ s % 18446744073709551616 = l2 at *
    generalize y * 2 ^ s = Y at *
    generalize (hi * 18446744073709551616 + lo) * 2 ^ s = N at *
    omega
set_option maxHeartbeats 6400000 in
set_option maxRecDepth 100000 in
theorem div_high (w : World) (hi lo y : Nat) (hh : 0 < hi) (hl : lo < 18446744073709551616) (hy : hi < y) (hy2 : y < 18446744073709551616) : Calls Tryz.prog 56 #[.int .u64 (hi : Int), .int .u64 (lo : Int), .int .u64 (y : Int)] w fun e w' => e = .returned (.tuple #[.int .u64 (((hi * 18446744073709551616 + lo) / y : Nat) : Int), .int .u64 (((hi * 18446744073709551616 + lo) % y : Nat) : Int)]) ∧ Below w.heap.size w w' := by
  have t1 : ((y : Int) == 0) = false := by rw [beq_eq_false_iff_ne]; omega
  have t2 : decide ((y : Int) ≤ (hi : Int)) = false := decide_eq_false (by omega)
  have t3 : ((hi : Int) == 0) = false := by rw [beq_eq_false_iff_ne]; omega
  obtain ⟨s, hs, hse, hY1, hY2⟩ := lz_shift (y := y) (by omega) hy2
  have LZ : Hid (∀ W, Calls Tryz.prog 84 #[.int .u64 (y : Int)] W fun e w' => e = .returned (.int .i64 (s : Int)) ∧ w' = W) := fun W => by
    have := Tryz.bits_LeadingZeros64 (y : Int) W (by omega) (by omega)
    rw [Int.toNat_natCast, hse] at this
    exact this
  have hsw : IntKind.u64.wrap (s : Int) = (s : Int) := wu64 (by omega)
  have HS := Lib.hid hsw
  have HSL := Lib.hid hs
  clear hse hsw
  obtain ⟨u, L, hu, hL, hLb, huY, hsum⟩ := sh_facts hs hl hy hY2
  obtain ⟨Y, hYe⟩ : ∃ Y, Y = y * 2 ^ s := ⟨_, rfl⟩
  rw [← hYe] at hY1 hY2 huY
  have hyw : IntKind.u64.wrap ((y : Int) * 2 ^ s) = (Y : Int) := by
    have c1 : ((y : Int) * 2 ^ s) = ((y * 2 ^ s : Nat) : Int) := by push_cast; rfl
    rw [c1, ← hYe]; exact wu64 hY2
  obtain ⟨Y1, hY1e⟩ : ∃ Y1, Y1 = Y / 4294967296 := ⟨_, rfl⟩
  obtain ⟨Y0, hY0e⟩ : ∃ Y0, Y0 = Y % 4294967296 := ⟨_, rfl⟩
  obtain ⟨v, hve⟩ : ∃ v, v = L / 4294967296 := ⟨_, rfl⟩
  obtain ⟨z, hze⟩ : ∃ z, z = L % 4294967296 := ⟨_, rfl⟩
  have hy1 : (Y : Int) / 4294967296 = (Y1 : Int) := by omega
  have hy0 : bits .and .u64 (Y : Int) 4294967295 = (Y0 : Int) := by rw [and_low _ hY2, hY0e]
  have hv1 : (L : Int) / 4294967296 = (v : Int) := by omega
  have hz0 : bits .and .u64 (L : Int) 4294967295 = (z : Int) := by rw [and_low _ hLb, hze]
  have hDG : DG Y Y1 Y0 u v ((u * 4294967296 + v) / Y) (u / Y1) (u % Y1) := dg_start (by omega) (by omega) (by omega) (by omega) huY (by omega)
  have hQ : IntKind.u64.wrap ((u : Int).tdiv (Y1 : Int)) = ((u / Y1 : Nat) : Int) := by
    rw [show (u : Int).tdiv (Y1 : Int) = ((u / Y1 : Nat) : Int) from rfl]
    have := Nat.div_le_self u Y1
    exact wu64 (by omega)
  have hR : IntKind.u64.wrap ((u : Int) - IntKind.u64.wrap (((u / Y1 : Nat) : Int) * (Y1 : Int))) = ((u % Y1 : Nat) : Int) := by
    have this := hDG.sum
    rw [← Int.natCast_mul]
    obtain ⟨p, hp⟩ : ∃ p, p = u / Y1 * Y1 := ⟨_, rfl⟩
    obtain ⟨r, hr⟩ : ∃ r, r = u % Y1 := ⟨_, rfl⟩
    rw [← hp, ← hr] at this
    rw [← hp, ← hr, IntKind.wrap_u64, IntKind.wrap_u64]; omega
  have hq1 : ¬ (IntKind.u64.wrap ((y : Int) * 2 ^ s) / 4294967296 = 0) := by rw [hyw]; omega
  have EY := Lib.hid hyw
  have E1 := Lib.hid hy1
  have E0 := Lib.hid hy0
  have EU := Lib.hid hu
  have EL := Lib.hid hL
  have EV := Lib.hid hv1
  have EZ := Lib.hid hz0
  have EQ := Lib.hid hQ
  have ER := Lib.hid hR
  have HDG := Lib.hid hDG
  have HSUM := Lib.hid hsum
  have HYE := Lib.hid hYe
  have HVE := Lib.hid hve
  have HZE := Lib.hid hze
  have HB : Hid (2147483648 ≤ Y1 ∧ Y < 18446744073709551616 ∧ z < 4294967296 ∧ 0 < y) := ⟨by omega, hY2, by omega, by omega⟩
  have HY1 : Y1 ≠ 0 := by omega
  clear hyw hy1 hy0 hu hL hv1 hz0 hQ hR hDG hsum hYe hve hze hY1e hY0e hY1 hY2 huY hLb hl
  go_enter Tryz.func56, Tryz.ntmps56
  go_wp2_with fail
  refine (LZ.out _).mono ?_; rintro e w1 ⟨rfl, rfl⟩
  go_wp2_with fail
  rename_i K hK
  simp only [EY.out, E1.out, E0.out, EU.out, EL.out, EV.out, EZ.out, EQ.out, ER.out]
  obtain ⟨q, hq⟩ : ∃ q, q = (u * 4294967296 + v) / Y := ⟨_, rfl⟩
  obtain ⟨Q, hQ⟩ : ∃ Q, Q = u / Y1 := ⟨_, rfl⟩
  obtain ⟨R, hR⟩ : ∃ R, R = u % Y1 := ⟨_, rfl⟩
  have HDG2 : Hid (DG Y Y1 Y0 u v q Q R) := by rw [hq, hQ, hR]; exact HDG
  rw [← hQ, ← hR]
  have HQ := Lib.hid hq
  clear hq hQ hR EQ ER EY E1 E0 EU EL EV EZ HDG
  have hYp : 0 < Y := Nat.lt_of_le_of_lt (Nat.zero_le u) HDG2.out.uY
  obtain ⟨u2, hu2⟩ : ∃ u2, u2 = (u * 4294967296 + v) % Y := ⟨_, rfl⟩
  have hu2Y : u2 < Y := by rw [hu2]; exact Nat.mod_lt _ hYp
  have EREST : Hid (IntKind.u64.wrap (IntKind.u64.wrap (IntKind.u64.wrap ((u : Int) * 4294967296) + (v : Int)) - IntKind.u64.wrap ((q : Int) * (Y : Int))) = (u2 : Int)) := by
    show _ = _
    rw [w_rest HDG2.out.lo HB.out.2.1 HDG2.out.hi, hu2, HQ.out, dg_rest]
  obtain ⟨q0, hq0⟩ : ∃ q0, q0 = (u2 * 4294967296 + z) / Y := ⟨_, rfl⟩
  have hDG3 : DG Y Y1 Y0 u2 z q0 (u2 / Y1) (u2 % Y1) := by
    rw [hq0]; exact dg_start HDG2.out.yy HDG2.out.y1 HDG2.out.y1' HDG2.out.y0 hu2Y HB.out.2.2.1
  have hu2b : u2 < 18446744073709551616 := by have := HB.out; omega
  have EQ2 : Hid (IntKind.u64.wrap ((u2 : Int).tdiv (Y1 : Int)) = ((u2 / Y1 : Nat) : Int)) := by
    show _ = _
    rw [show (u2 : Int).tdiv (Y1 : Int) = ((u2 / Y1 : Nat) : Int) from rfl]
    have := Nat.div_le_self u2 Y1
    exact wu64 (by omega)
  have ER2 : Hid (IntKind.u64.wrap ((u2 : Int) - IntKind.u64.wrap (((u2 / Y1 : Nat) : Int) * (Y1 : Int))) = ((u2 % Y1 : Nat) : Int)) := by
    show _ = _
    have this := hDG3.sum
    rw [← Int.natCast_mul]
    obtain ⟨p, hp⟩ : ∃ p, p = u2 / Y1 * Y1 := ⟨_, rfl⟩
    obtain ⟨r, hr⟩ : ∃ r, r = u2 % Y1 := ⟨_, rfl⟩
    rw [← hp, ← hr] at this
    rw [← hp, ← hr, IntKind.wrap_u64, IntKind.wrap_u64]; omega
  have hN : (hi * 18446744073709551616 + lo) * 2 ^ s = (u * 4294967296 + v) * 4294967296 + z := by
    rw [← HSUM.out, HVE.out, HZE.out]; omega
  have hquo : (hi * 18446744073709551616 + lo) / y = q * 4294967296 + q0 := by
    rw [← Nat.mul_div_mul_right _ _ (Nat.two_pow_pos s), hN, ← HYE.out, dg_quo hYp, ← HQ.out, ← hu2, ← hq0]
  have hrem : ((hi * 18446744073709551616 + lo) % y) * 2 ^ s = u2 * 4294967296 + z - q0 * Y := by
    rw [← Nat.mul_mod_mul_right, hN, ← HYE.out, dg_rem, ← hu2, hq0, dg_rest]
  have hqB := HDG2.out.qB
  have hq0B := hDG3.qB
  have FIN1 : Hid (IntKind.u64.wrap (IntKind.u64.wrap ((q : Int) * 4294967296) + (q0 : Int)) = (((hi * 18446744073709551616 + lo) / y : Nat) : Int)) := by
    show _ = _
    rw [hquo, IntKind.wrap_u64, IntKind.wrap_u64]; omega
  have FIN2 : Hid (IntKind.u64.wrap (IntKind.u64.wrap (IntKind.u64.wrap ((u2 : Int) * 4294967296) + (z : Int)) - IntKind.u64.wrap ((q0 : Int) * (Y : Int))) / 2 ^ s = (((hi * 18446744073709551616 + lo) % y : Nat) : Int)) := by
    show _ = _
    rw [w_rest hDG3.lo HB.out.2.1 hDG3.hi, ← hrem]
    have : ((2 : Int) ^ s) = ((2 ^ s : Nat) : Int) := by push_cast; rfl
    rw [this, ← Int.natCast_ediv, Nat.mul_div_cancel _ (Nat.two_pow_pos s)]
  have HDG3 := Lib.hid hDG3
  clear hDG3 hYp hu2 hu2Y hq0 hu2b hN hquo hrem hqB hq0B
  go_loopw [15, 16] (fun a b wr => ∃ Q R : Nat, a = .int .u64 (Q : Int) ∧ b = .int .u64 (R : Int) ∧ wr = w1 ∧ Hid (DG Y Y1 Y0 u v q Q R)) (fun a _ _ => (intOf a).toNat)
  case atStart => exact ⟨Q, R, rfl, rfl, rfl, HDG2⟩
  case round =>
    clear HDG2
    obtain ⟨Q2, R2, rfl, rfl, rfl, HD⟩ := hrel
    by_cases hq : Q2 < 4294967296
    · have hlhs : IntKind.u64.wrap ((Q2 : Int) * (Y0 : Int)) = ((Q2 * Y0 : Nat) : Int) := w_lhs hq HD.out.y0
      have hrhs := w_rhs HD.out.rb HD.out.vB
      obtain ⟨m, hm⟩ : ∃ m, m = Q2 * Y0 := ⟨_, rfl⟩
      obtain ⟨k, hk⟩ : ∃ k, k = R2 * 4294967296 + v := ⟨_, rfl⟩
      rw [← hm] at hlhs
      rw [← hk] at hrhs
      have hqi : (Q2 : Int) < 4294967296 := by omega
      by_cases ht : k < m
      · have hti : (k : Int) < (m : Int) := by omega
        have ht2 : 4294967296 ≤ Q2 ∨ R2 * 4294967296 + v < Q2 * Y0 := Or.inr (by rw [← hm, ← hk]; exact ht)
        clear hm hk hq ht
        have HT2 := Lib.hid ht2
        have e1 : IntKind.u64.wrap ((Q2 : Int) - 1) = ((Q2 - 1 : Nat) : Int) := by
          have := HD.out.down ht2
          have := HD.out.le
          rw [IntKind.wrap_u64]; omega
        have e2 : IntKind.u64.wrap ((R2 : Int) + (Y1 : Int)) = ((R2 + Y1 : Nat) : Int) := by
          have := HD.out.rb
          have := HD.out.y1'
          rw [IntKind.wrap_u64]; omega
        have HE1 := Lib.hid e1
        have HE2 := Lib.hid e2
        have HQP : Hid (0 < Q2) := by show 0 < Q2; have := HD.out.down ht2; omega
        obtain ⟨r, hr⟩ : ∃ r, r = R2 + Y1 := ⟨_, rfl⟩
        have HR := Lib.hid hr
        rw [← hr] at e2
        clear e1 ht2
        by_cases hrr : r < 4294967296
        · have hri : decide (4294967296 ≤ IntKind.u64.wrap ((R2 : Int) + (Y1 : Int))) = false := decide_eq_false (by rw [e2]; omega)
          have HRR := Lib.hid hrr
          clear hrr hr e2
          go_wp2_with fail
          go_roundw
          case rel => exact ⟨Q2 - 1, R2 + Y1, congrArg (Value.int .u64) HE1.out, congrArg (Value.int .u64) HE2.out, trivial, HD.out.next HT2.out (by have h1 := HR.out; have h2 := HRR.out; omega)⟩
          case measure => have h1 := HE1.out; have h2 := HQP.out; first | (rw [h1]; simp [intOf]; omega) | (simp [intOf, h1]; omega)
        · have hri : decide (4294967296 ≤ IntKind.u64.wrap ((R2 : Int) + (Y1 : Int))) = true := decide_eq_true (by rw [e2]; omega)
          have hqq : Q2 - 1 = q := HD.out.broke HT2.out (by rw [← hr]; omega)
          have HE3 : Hid (IntKind.u64.wrap ((Q2 : Int) - 1) = (q : Int)) := by show _ = _; rw [HE1.out, hqq]
          clear hrr hr hqq e2
          go_wp2_with fail
          rw [HE3.out]
          simp only [EREST.out, EQ2.out, ER2.out]
          obtain ⟨A, hA⟩ : ∃ A, A = u2 / Y1 := ⟨_, rfl⟩
          obtain ⟨C, hC⟩ : ∃ C, C = u2 % Y1 := ⟨_, rfl⟩
          have HDG4 : Hid (DG Y Y1 Y0 u2 z q0 A C) := by rw [hA, hC]; exact HDG3
          rw [← hA, ← hC]
          clear hA hC EREST EQ2 ER2 HDG3 HD hqi
          try clear hti hlhs hrhs
          try clear hri
          try clear HT2 HE1 HE2 HQP HR HE3
          try clear hqd
          go_loopw [16, 18] (fun b a wr2 => ∃ Q R : Nat, b = .int .u64 (R : Int) ∧ a = .int .u64 (Q : Int) ∧ wr2 = wr ∧ Hid (DG Y Y1 Y0 u2 z q0 Q R)) (fun _ a _ => (intOf a).toNat)
          case atStart => exact ⟨A, C, rfl, rfl, rfl, HDG4⟩
          case round =>
            clear HDG4
            obtain ⟨Q4, R4, rfl, rfl, rfl, HD⟩ := hrel
            by_cases hq : Q4 < 4294967296
            · have hlhs : IntKind.u64.wrap ((Q4 : Int) * (Y0 : Int)) = ((Q4 * Y0 : Nat) : Int) := w_lhs hq HD.out.y0
              have hrhs := w_rhs HD.out.rb HD.out.vB
              obtain ⟨m, hm⟩ : ∃ m, m = Q4 * Y0 := ⟨_, rfl⟩
              obtain ⟨k, hk⟩ : ∃ k, k = R4 * 4294967296 + z := ⟨_, rfl⟩
              rw [← hm] at hlhs
              rw [← hk] at hrhs
              have hqi : (Q4 : Int) < 4294967296 := by omega
              by_cases ht : k < m
              · have hti : (k : Int) < (m : Int) := by omega
                have ht2 : 4294967296 ≤ Q4 ∨ R4 * 4294967296 + z < Q4 * Y0 := Or.inr (by rw [← hm, ← hk]; exact ht)
                clear hm hk hq ht
                have HT2 := Lib.hid ht2
                have e1 : IntKind.u64.wrap ((Q4 : Int) - 1) = ((Q4 - 1 : Nat) : Int) := by
                  have := HD.out.down ht2
                  have := HD.out.le
                  rw [IntKind.wrap_u64]; omega
                have e2 : IntKind.u64.wrap ((R4 : Int) + (Y1 : Int)) = ((R4 + Y1 : Nat) : Int) := by
                  have := HD.out.rb
                  have := HD.out.y1'
                  rw [IntKind.wrap_u64]; omega
                have HE1 := Lib.hid e1
                have HE2 := Lib.hid e2
                have HQP : Hid (0 < Q4) := by show 0 < Q4; have := HD.out.down ht2; omega
                obtain ⟨r, hr⟩ : ∃ r, r = R4 + Y1 := ⟨_, rfl⟩
                have HR := Lib.hid hr
                rw [← hr] at e2
                clear e1 ht2
                by_cases hrr : r < 4294967296
                · have hri : decide (4294967296 ≤ IntKind.u64.wrap ((R4 : Int) + (Y1 : Int))) = false := decide_eq_false (by rw [e2]; omega)
                  have HRR := Lib.hid hrr
                  clear hrr hr e2
                  go_wp2_with fail
                  go_roundw
                  case rel => exact ⟨Q4 - 1, R4 + Y1, congrArg (Value.int .u64) HE2.out, congrArg (Value.int .u64) HE1.out, trivial, HD.out.next HT2.out (by have h1 := HR.out; have h2 := HRR.out; omega)⟩
                  case measure => have h1 := HE1.out; have h2 := HQP.out; first | (rw [h1]; simp [intOf]; omega) | (simp [intOf, h1]; omega)
                · have hri : decide (4294967296 ≤ IntKind.u64.wrap ((R4 : Int) + (Y1 : Int))) = true := decide_eq_true (by rw [e2]; omega)
                  have hqq : Q4 - 1 = q0 := HD.out.broke HT2.out (by rw [← hr]; omega)
                  have HE3 : Hid (IntKind.u64.wrap ((Q4 : Int) - 1) = (q0 : Int)) := by show _ = _; rw [HE1.out, hqq]
                  clear hrr hr hqq e2
                  go_wp2_with fail
                  rw [HE3.out]
                  go_ret2
                  exact ⟨by rw [FIN1.out, FIN2.out]; rfl, Below.refl _ _⟩
              · have hti : decide (k < m) = false := decide_eq_false ht
                have hqd : decide (4294967296 ≤ (Q4 : Int)) = false := decide_eq_false (by omega)
                have hqq : q0 = Q4 := (HD.out.stays (by rw [← hm, ← hk]; omega)).symm
                clear hm hk hq ht
                go_wp2_with fail
                subst hqq
                skip
                go_ret2
                exact ⟨by rw [FIN1.out, FIN2.out]; rfl, Below.refl _ _⟩
            · have hqi : ¬ (Q4 : Int) < 4294967296 := by omega
              have ht2 : 4294967296 ≤ Q4 ∨ R4 * 4294967296 + z < Q4 * Y0 := Or.inl (by omega)
              clear hq
              have HT2 := Lib.hid ht2
              have e1 : IntKind.u64.wrap ((Q4 : Int) - 1) = ((Q4 - 1 : Nat) : Int) := by
                have := HD.out.down ht2
                have := HD.out.le
                rw [IntKind.wrap_u64]; omega
              have e2 : IntKind.u64.wrap ((R4 : Int) + (Y1 : Int)) = ((R4 + Y1 : Nat) : Int) := by
                have := HD.out.rb
                have := HD.out.y1'
                rw [IntKind.wrap_u64]; omega
              have HE1 := Lib.hid e1
              have HE2 := Lib.hid e2
              have HQP : Hid (0 < Q4) := by show 0 < Q4; have := HD.out.down ht2; omega
              obtain ⟨r, hr⟩ : ∃ r, r = R4 + Y1 := ⟨_, rfl⟩
              have HR := Lib.hid hr
              rw [← hr] at e2
              clear e1 ht2
              by_cases hrr : r < 4294967296
              · have hri : decide (4294967296 ≤ IntKind.u64.wrap ((R4 : Int) + (Y1 : Int))) = false := decide_eq_false (by rw [e2]; omega)
                have HRR := Lib.hid hrr
                clear hrr hr e2
                go_wp2_with fail
                go_roundw
                case rel => exact ⟨Q4 - 1, R4 + Y1, congrArg (Value.int .u64) HE2.out, congrArg (Value.int .u64) HE1.out, trivial, HD.out.next HT2.out (by have h1 := HR.out; have h2 := HRR.out; omega)⟩
                case measure => have h1 := HE1.out; have h2 := HQP.out; first | (rw [h1]; simp [intOf]; omega) | (simp [intOf, h1]; omega)
              · have hri : decide (4294967296 ≤ IntKind.u64.wrap ((R4 : Int) + (Y1 : Int))) = true := decide_eq_true (by rw [e2]; omega)
                have hqq : Q4 - 1 = q0 := HD.out.broke HT2.out (by rw [← hr]; omega)
                have HE3 : Hid (IntKind.u64.wrap ((Q4 : Int) - 1) = (q0 : Int)) := by show _ = _; rw [HE1.out, hqq]
                clear hrr hr hqq e2
                go_wp2_with fail
                rw [HE3.out]
                go_ret2
                exact ⟨by rw [FIN1.out, FIN2.out]; rfl, Below.refl _ _⟩
      · have hti : decide (k < m) = false := decide_eq_false ht
        have hqd : decide (4294967296 ≤ (Q2 : Int)) = false := decide_eq_false (by omega)
        have hqq : q = Q2 := (HD.out.stays (by rw [← hm, ← hk]; omega)).symm
        clear hm hk hq ht
        go_wp2_with fail
        subst hqq
        skip
        simp only [EREST.out, EQ2.out, ER2.out]
        obtain ⟨A, hA⟩ : ∃ A, A = u2 / Y1 := ⟨_, rfl⟩
        obtain ⟨C, hC⟩ : ∃ C, C = u2 % Y1 := ⟨_, rfl⟩
        have HDG4 : Hid (DG Y Y1 Y0 u2 z q0 A C) := by rw [hA, hC]; exact HDG3
        rw [← hA, ← hC]
        clear hA hC EREST EQ2 ER2 HDG3 HD hqi
        try clear hti hlhs hrhs
        try clear hri
        try clear HT2 HE1 HE2 HQP HR HE3
        try clear hqd
        go_loopw [16, 18] (fun b a wr2 => ∃ Q R : Nat, b = .int .u64 (R : Int) ∧ a = .int .u64 (Q : Int) ∧ wr2 = wr ∧ Hid (DG Y Y1 Y0 u2 z q0 Q R)) (fun _ a _ => (intOf a).toNat)
        case atStart => exact ⟨A, C, rfl, rfl, rfl, HDG4⟩
        case round =>
          clear HDG4
          obtain ⟨Q4, R4, rfl, rfl, rfl, HD⟩ := hrel
          by_cases hq : Q4 < 4294967296
          · have hlhs : IntKind.u64.wrap ((Q4 : Int) * (Y0 : Int)) = ((Q4 * Y0 : Nat) : Int) := w_lhs hq HD.out.y0
            have hrhs := w_rhs HD.out.rb HD.out.vB
            obtain ⟨m, hm⟩ : ∃ m, m = Q4 * Y0 := ⟨_, rfl⟩
            obtain ⟨k, hk⟩ : ∃ k, k = R4 * 4294967296 + z := ⟨_, rfl⟩
            rw [← hm] at hlhs
            rw [← hk] at hrhs
            have hqi : (Q4 : Int) < 4294967296 := by omega
            by_cases ht : k < m
            · have hti : (k : Int) < (m : Int) := by omega
              have ht2 : 4294967296 ≤ Q4 ∨ R4 * 4294967296 + z < Q4 * Y0 := Or.inr (by rw [← hm, ← hk]; exact ht)
              clear hm hk hq ht
              have HT2 := Lib.hid ht2
              have e1 : IntKind.u64.wrap ((Q4 : Int) - 1) = ((Q4 - 1 : Nat) : Int) := by
                have := HD.out.down ht2
                have := HD.out.le
                rw [IntKind.wrap_u64]; omega
              have e2 : IntKind.u64.wrap ((R4 : Int) + (Y1 : Int)) = ((R4 + Y1 : Nat) : Int) := by
                have := HD.out.rb
                have := HD.out.y1'
                rw [IntKind.wrap_u64]; omega
              have HE1 := Lib.hid e1
              have HE2 := Lib.hid e2
              have HQP : Hid (0 < Q4) := by show 0 < Q4; have := HD.out.down ht2; omega
              obtain ⟨r, hr⟩ : ∃ r, r = R4 + Y1 := ⟨_, rfl⟩
              have HR := Lib.hid hr
              rw [← hr] at e2
              clear e1 ht2
              by_cases hrr : r < 4294967296
              · have hri : decide (4294967296 ≤ IntKind.u64.wrap ((R4 : Int) + (Y1 : Int))) = false := decide_eq_false (by rw [e2]; omega)
                have HRR := Lib.hid hrr
                clear hrr hr e2
                go_wp2_with fail
                go_roundw
                case rel => exact ⟨Q4 - 1, R4 + Y1, congrArg (Value.int .u64) HE2.out, congrArg (Value.int .u64) HE1.out, trivial, HD.out.next HT2.out (by have h1 := HR.out; have h2 := HRR.out; omega)⟩
                case measure => have h1 := HE1.out; have h2 := HQP.out; first | (rw [h1]; simp [intOf]; omega) | (simp [intOf, h1]; omega)
              · have hri : decide (4294967296 ≤ IntKind.u64.wrap ((R4 : Int) + (Y1 : Int))) = true := decide_eq_true (by rw [e2]; omega)
                have hqq : Q4 - 1 = q0 := HD.out.broke HT2.out (by rw [← hr]; omega)
                have HE3 : Hid (IntKind.u64.wrap ((Q4 : Int) - 1) = (q0 : Int)) := by show _ = _; rw [HE1.out, hqq]
                clear hrr hr hqq e2
                go_wp2_with fail
                rw [HE3.out]
                go_ret2
                exact ⟨by rw [FIN1.out, FIN2.out]; rfl, Below.refl _ _⟩
            · have hti : decide (k < m) = false := decide_eq_false ht
              have hqd : decide (4294967296 ≤ (Q4 : Int)) = false := decide_eq_false (by omega)
              have hqq : q0 = Q4 := (HD.out.stays (by rw [← hm, ← hk]; omega)).symm
              clear hm hk hq ht
              go_wp2_with fail
              subst hqq
              skip
              go_ret2
              exact ⟨by rw [FIN1.out, FIN2.out]; rfl, Below.refl _ _⟩
          · have hqi : ¬ (Q4 : Int) < 4294967296 := by omega
            have ht2 : 4294967296 ≤ Q4 ∨ R4 * 4294967296 + z < Q4 * Y0 := Or.inl (by omega)
            clear hq
            have HT2 := Lib.hid ht2
            have e1 : IntKind.u64.wrap ((Q4 : Int) - 1) = ((Q4 - 1 : Nat) : Int) := by
              have := HD.out.down ht2
              have := HD.out.le
              rw [IntKind.wrap_u64]; omega
            have e2 : IntKind.u64.wrap ((R4 : Int) + (Y1 : Int)) = ((R4 + Y1 : Nat) : Int) := by
              have := HD.out.rb
              have := HD.out.y1'
              rw [IntKind.wrap_u64]; omega
            have HE1 := Lib.hid e1
            have HE2 := Lib.hid e2
            have HQP : Hid (0 < Q4) := by show 0 < Q4; have := HD.out.down ht2; omega
            obtain ⟨r, hr⟩ : ∃ r, r = R4 + Y1 := ⟨_, rfl⟩
            have HR := Lib.hid hr
            rw [← hr] at e2
            clear e1 ht2
            by_cases hrr : r < 4294967296
            · have hri : decide (4294967296 ≤ IntKind.u64.wrap ((R4 : Int) + (Y1 : Int))) = false := decide_eq_false (by rw [e2]; omega)
              have HRR := Lib.hid hrr
              clear hrr hr e2
              go_wp2_with fail
              go_roundw
              case rel => exact ⟨Q4 - 1, R4 + Y1, congrArg (Value.int .u64) HE2.out, congrArg (Value.int .u64) HE1.out, trivial, HD.out.next HT2.out (by have h1 := HR.out; have h2 := HRR.out; omega)⟩
              case measure => have h1 := HE1.out; have h2 := HQP.out; first | (rw [h1]; simp [intOf]; omega) | (simp [intOf, h1]; omega)
            · have hri : decide (4294967296 ≤ IntKind.u64.wrap ((R4 : Int) + (Y1 : Int))) = true := decide_eq_true (by rw [e2]; omega)
              have hqq : Q4 - 1 = q0 := HD.out.broke HT2.out (by rw [← hr]; omega)
              have HE3 : Hid (IntKind.u64.wrap ((Q4 : Int) - 1) = (q0 : Int)) := by show _ = _; rw [HE1.out, hqq]
              clear hrr hr hqq e2
              go_wp2_with fail
              rw [HE3.out]
              go_ret2
              exact ⟨by rw [FIN1.out, FIN2.out]; rfl, Below.refl _ _⟩
    · have hqi : ¬ (Q2 : Int) < 4294967296 := by omega
      have ht2 : 4294967296 ≤ Q2 ∨ R2 * 4294967296 + v < Q2 * Y0 := Or.inl (by omega)
      clear hq
      have HT2 := Lib.hid ht2
      have e1 : IntKind.u64.wrap ((Q2 : Int) - 1) = ((Q2 - 1 : Nat) : Int) := by
        have := HD.out.down ht2
        have := HD.out.le
        rw [IntKind.wrap_u64]; omega
      have e2 : IntKind.u64.wrap ((R2 : Int) + (Y1 : Int)) = ((R2 + Y1 : Nat) : Int) := by
        have := HD.out.rb
        have := HD.out.y1'
        rw [IntKind.wrap_u64]; omega
      have HE1 := Lib.hid e1
      have HE2 := Lib.hid e2
      have HQP : Hid (0 < Q2) := by show 0 < Q2; have := HD.out.down ht2; omega
      obtain ⟨r, hr⟩ : ∃ r, r = R2 + Y1 := ⟨_, rfl⟩
      have HR := Lib.hid hr
      rw [← hr] at e2
      clear e1 ht2
      by_cases hrr : r < 4294967296
      · have hri : decide (4294967296 ≤ IntKind.u64.wrap ((R2 : Int) + (Y1 : Int))) = false := decide_eq_false (by rw [e2]; omega)
        have HRR := Lib.hid hrr
        clear hrr hr e2
        go_wp2_with fail
        go_roundw
        case rel => exact ⟨Q2 - 1, R2 + Y1, congrArg (Value.int .u64) HE1.out, congrArg (Value.int .u64) HE2.out, trivial, HD.out.next HT2.out (by have h1 := HR.out; have h2 := HRR.out; omega)⟩
        case measure => have h1 := HE1.out; have h2 := HQP.out; first | (rw [h1]; simp [intOf]; omega) | (simp [intOf, h1]; omega)
      · have hri : decide (4294967296 ≤ IntKind.u64.wrap ((R2 : Int) + (Y1 : Int))) = true := decide_eq_true (by rw [e2]; omega)
        have hqq : Q2 - 1 = q := HD.out.broke HT2.out (by rw [← hr]; omega)
        have HE3 : Hid (IntKind.u64.wrap ((Q2 : Int) - 1) = (q : Int)) := by show _ = _; rw [HE1.out, hqq]
        clear hrr hr hqq e2
        go_wp2_with fail
        rw [HE3.out]
        simp only [EREST.out, EQ2.out, ER2.out]
        obtain ⟨A, hA⟩ : ∃ A, A = u2 / Y1 := ⟨_, rfl⟩
        obtain ⟨C, hC⟩ : ∃ C, C = u2 % Y1 := ⟨_, rfl⟩
        have HDG4 : Hid (DG Y Y1 Y0 u2 z q0 A C) := by rw [hA, hC]; exact HDG3
        rw [← hA, ← hC]
        clear hA hC EREST EQ2 ER2 HDG3 HD hqi
        try clear hti hlhs hrhs
        try clear hri
        try clear HT2 HE1 HE2 HQP HR HE3
        try clear hqd
        go_loopw [16, 18] (fun b a wr2 => ∃ Q R : Nat, b = .int .u64 (R : Int) ∧ a = .int .u64 (Q : Int) ∧ wr2 = wr ∧ Hid (DG Y Y1 Y0 u2 z q0 Q R)) (fun _ a _ => (intOf a).toNat)
        case atStart => exact ⟨A, C, rfl, rfl, rfl, HDG4⟩
        case round =>
          clear HDG4
          obtain ⟨Q4, R4, rfl, rfl, rfl, HD⟩ := hrel
          by_cases hq : Q4 < 4294967296
          · have hlhs : IntKind.u64.wrap ((Q4 : Int) * (Y0 : Int)) = ((Q4 * Y0 : Nat) : Int) := w_lhs hq HD.out.y0
            have hrhs := w_rhs HD.out.rb HD.out.vB
            obtain ⟨m, hm⟩ : ∃ m, m = Q4 * Y0 := ⟨_, rfl⟩
            obtain ⟨k, hk⟩ : ∃ k, k = R4 * 4294967296 + z := ⟨_, rfl⟩
            rw [← hm] at hlhs
            rw [← hk] at hrhs
            have hqi : (Q4 : Int) < 4294967296 := by omega
            by_cases ht : k < m
            · have hti : (k : Int) < (m : Int) := by omega
              have ht2 : 4294967296 ≤ Q4 ∨ R4 * 4294967296 + z < Q4 * Y0 := Or.inr (by rw [← hm, ← hk]; exact ht)
              clear hm hk hq ht
              have HT2 := Lib.hid ht2
              have e1 : IntKind.u64.wrap ((Q4 : Int) - 1) = ((Q4 - 1 : Nat) : Int) := by
                have := HD.out.down ht2
                have := HD.out.le
                rw [IntKind.wrap_u64]; omega
              have e2 : IntKind.u64.wrap ((R4 : Int) + (Y1 : Int)) = ((R4 + Y1 : Nat) : Int) := by
                have := HD.out.rb
                have := HD.out.y1'
                rw [IntKind.wrap_u64]; omega
              have HE1 := Lib.hid e1
              have HE2 := Lib.hid e2
              have HQP : Hid (0 < Q4) := by show 0 < Q4; have := HD.out.down ht2; omega
              obtain ⟨r, hr⟩ : ∃ r, r = R4 + Y1 := ⟨_, rfl⟩
              have HR := Lib.hid hr
              rw [← hr] at e2
              clear e1 ht2
              by_cases hrr : r < 4294967296
              · have hri : decide (4294967296 ≤ IntKind.u64.wrap ((R4 : Int) + (Y1 : Int))) = false := decide_eq_false (by rw [e2]; omega)
                have HRR := Lib.hid hrr
                clear hrr hr e2
                go_wp2_with fail
                go_roundw
                case rel => exact ⟨Q4 - 1, R4 + Y1, congrArg (Value.int .u64) HE2.out, congrArg (Value.int .u64) HE1.out, trivial, HD.out.next HT2.out (by have h1 := HR.out; have h2 := HRR.out; omega)⟩
                case measure => have h1 := HE1.out; have h2 := HQP.out; first | (rw [h1]; simp [intOf]; omega) | (simp [intOf, h1]; omega)
              · have hri : decide (4294967296 ≤ IntKind.u64.wrap ((R4 : Int) + (Y1 : Int))) = true := decide_eq_true (by rw [e2]; omega)
                have hqq : Q4 - 1 = q0 := HD.out.broke HT2.out (by rw [← hr]; omega)
                have HE3 : Hid (IntKind.u64.wrap ((Q4 : Int) - 1) = (q0 : Int)) := by show _ = _; rw [HE1.out, hqq]
                clear hrr hr hqq e2
                go_wp2_with fail
                rw [HE3.out]
                go_ret2
                exact ⟨by rw [FIN1.out, FIN2.out]; rfl, Below.refl _ _⟩
            · have hti : decide (k < m) = false := decide_eq_false ht
              have hqd : decide (4294967296 ≤ (Q4 : Int)) = false := decide_eq_false (by omega)
              have hqq : q0 = Q4 := (HD.out.stays (by rw [← hm, ← hk]; omega)).symm
              clear hm hk hq ht
              go_wp2_with fail
              subst hqq
              skip
              go_ret2
              exact ⟨by rw [FIN1.out, FIN2.out]; rfl, Below.refl _ _⟩
          · have hqi : ¬ (Q4 : Int) < 4294967296 := by omega
            have ht2 : 4294967296 ≤ Q4 ∨ R4 * 4294967296 + z < Q4 * Y0 := Or.inl (by omega)
            clear hq
            have HT2 := Lib.hid ht2
            have e1 : IntKind.u64.wrap ((Q4 : Int) - 1) = ((Q4 - 1 : Nat) : Int) := by
              have := HD.out.down ht2
              have := HD.out.le
              rw [IntKind.wrap_u64]; omega
            have e2 : IntKind.u64.wrap ((R4 : Int) + (Y1 : Int)) = ((R4 + Y1 : Nat) : Int) := by
              have := HD.out.rb
              have := HD.out.y1'
              rw [IntKind.wrap_u64]; omega
            have HE1 := Lib.hid e1
            have HE2 := Lib.hid e2
            have HQP : Hid (0 < Q4) := by show 0 < Q4; have := HD.out.down ht2; omega
            obtain ⟨r, hr⟩ : ∃ r, r = R4 + Y1 := ⟨_, rfl⟩
            have HR := Lib.hid hr
            rw [← hr] at e2
            clear e1 ht2
            by_cases hrr : r < 4294967296
            · have hri : decide (4294967296 ≤ IntKind.u64.wrap ((R4 : Int) + (Y1 : Int))) = false := decide_eq_false (by rw [e2]; omega)
              have HRR := Lib.hid hrr
              clear hrr hr e2
              go_wp2_with fail
              go_roundw
              case rel => exact ⟨Q4 - 1, R4 + Y1, congrArg (Value.int .u64) HE2.out, congrArg (Value.int .u64) HE1.out, trivial, HD.out.next HT2.out (by have h1 := HR.out; have h2 := HRR.out; omega)⟩
              case measure => have h1 := HE1.out; have h2 := HQP.out; first | (rw [h1]; simp [intOf]; omega) | (simp [intOf, h1]; omega)
            · have hri : decide (4294967296 ≤ IntKind.u64.wrap ((R4 : Int) + (Y1 : Int))) = true := decide_eq_true (by rw [e2]; omega)
              have hqq : Q4 - 1 = q0 := HD.out.broke HT2.out (by rw [← hr]; omega)
              have HE3 : Hid (IntKind.u64.wrap ((Q4 : Int) - 1) = (q0 : Int)) := by show _ = _; rw [HE1.out, hqq]
              clear hrr hr hqq e2
              go_wp2_with fail
              rw [HE3.out]
              go_ret2
              exact ⟨by rw [FIN1.out, FIN2.out]; rfl, Below.refl _ _⟩
set_option maxHeartbeats 6400000 in
set_option maxRecDepth 100000 in
theorem div_low (w : World) (lo y : Nat) (hl : lo < 18446744073709551616) (hy : 0 < y) (hy2 : y < 18446744073709551616) : Calls Tryz.prog 56 #[.int .u64 0, .int .u64 (lo : Int), .int .u64 (y : Int)] w fun e w' => e = .returned (.tuple #[.int .u64 ((lo / y : Nat) : Int), .int .u64 ((lo % y : Nat) : Int)]) ∧ Below w.heap.size w w' := by
  have t1 : ((y : Int) == 0) = false := by rw [beq_eq_false_iff_ne]; omega
  have t2 : decide ((y : Int) ≤ 0) = false := decide_eq_false (by omega)
  have t3 : ¬ (y : Int) = 0 := by omega
  have HW : Hid (IntKind.u64.wrap ((lo : Int) / (y : Int)) = ((lo / y : Nat) : Int)) := by
    show _ = _
    rw [show (lo : Int) / (y : Int) = ((lo / y : Nat) : Int) from rfl]
    have := Nat.div_le_self lo y
    exact wu64 (by omega)
  go_enter Tryz.func56, Tryz.ntmps56
  go_wp2_with fail
  go_region
  go_wp2_with fail
  go_ret2
  exact ⟨by rw [HW.out]; rfl, (Below.refl _ _).drew⟩
/-- math/bits.Div64 -/
theorem div_any (w : World) (hi lo y : Nat) (hl : lo < 18446744073709551616) (hy : hi < y) (hy2 : y < 18446744073709551616) : Calls Tryz.prog 56 #[.int .u64 (hi : Int), .int .u64 (lo : Int), .int .u64 (y : Int)] w fun e w' => e = .returned (.tuple #[.int .u64 (((hi * 18446744073709551616 + lo) / y : Nat) : Int), .int .u64 (((hi * 18446744073709551616 + lo) % y : Nat) : Int)]) ∧ Below w.heap.size w w' := by
  rcases Nat.eq_zero_or_pos hi with h0 | h0
  · subst h0
    rw [Nat.zero_mul, Nat.zero_add]
    exact div_low w lo y hl (by omega) hy2
  · exact div_high w hi lo y h0 hl hy hy2
end Go.Proofs.YtegobakoflbnfaaGreatDoor

namespace Go.Proofs.YtegobakoflbnfaaGreatDoor
open Go Go.RowKit

theorem ba_app (a b : List UInt8) : (⟨a.toArray⟩ : ByteArray) ++ ⟨b.toArray⟩ = ⟨(a ++ b).toArray⟩ := by
  apply ByteArray.ext
  simp
theorem Pow10.go {w w' : World} (h : Pow10 w) (hb : Below w.heap.size w w') : Pow10 w' := by
  unfold Pow10 Lib.TabIs World.var? at *
  cases hg : Tryz.prog.globalNamed "internal/strconv.uint64pow10" with
  | none => simp [hg] at h
  | some g =>
    simp only [hg, Option.bind_some] at h ⊢
    have hlt : g < w.heap.size := by
      rcases Nat.lt_or_ge g w.heap.size with h' | h'
      · exact h'
      · rw [Array.getElem?_eq_none h'] at h; simp at h
    rw [hb.block g hlt]
    exact h
theorem add64_run (x y : Nat) (w : World) : (callFunc 81 #[.int .u64 (x : Int), .int .u64 (y : Int), .int .u64 0]).run Tryz.prog w = .ok (.value (.tuple #[.int .u64 (((x + y) % 18446744073709551616 : Nat) : Int), .int .u64 (((x + y) / 18446744073709551616 : Nat) : Int)])) w := by
  rw [run_callFunc_extern Tryz.func81 (by kernel_rfl) (by kernel_rfl) (by kernel_rfl) (e := add64Entry) (by kernel_rfl), run_add64 (x : Int) (y : Int) 0 (by omega) (by omega) (by omega) (by omega)]
  simp only [Result.andThen]
  congr 5 <;> omega
theorem dec_le20 {n : Nat} (hn : n < 18446744073709551616) : (Lib.decDigits n).length ≤ 20 := by
  rcases Nat.eq_zero_or_pos n with h0 | h0
  · subst h0; rw [Lib.decDigits_one (by omega)]; decide
  · rw [Lib.decDigits_length]
    have := Lib.numDigits_eq n h0 hn; split at this <;> omega
theorem wsub {a b : Nat} (ha : a ≤ 15) (hb : b ≤ 20) : wrap64 ((a : Int) - (b : Int)) = (a : Int) - (b : Int) := by unfold wrap64; omega
def padL (n d : Nat) : List UInt8 := Lib.repeatL [48] (d - (Lib.decDigits n).length) ++ Lib.decDigits n

set_option maxHeartbeats 4000000 in
set_option maxRecDepth 100000 in
theorem padded_any (w : World) (n d : Nat) (hn : n < 18446744073709551616) (hd : d ≤ 15) (ht : Pow10 w) : Calls Tryz.prog 59 #[.int .u64 (n : Int), .int .i64 (d : Int)] w fun e w' => e = .returned (.string ⟨(padL n d).toArray⟩) ∧ Below w.heap.size w w' := by
  have F := Lib.hid (fmt_any w n hn ht)
  have hlen := dec_le20 hn
  obtain ⟨s, hs⟩ : ∃ s, s = (⟨(Lib.decDigits n).toArray⟩ : ByteArray) := ⟨_, rfl⟩
  have hss : s.size = (Lib.decDigits n).length := by rw [hs]; simp [ByteArray.size]
  rw [← hs] at F
  have HS := Lib.hid hs; have HSS := Lib.hid hss
  have hs20 : s.size ≤ 20 := by omega
  obtain ⟨r, hr⟩ : ∃ r, r = d - s.size := ⟨_, rfl⟩
  have RP := Lib.hid (fun W => Tryz.strings_Repeat ⟨#[48]⟩ r W (by omega) (by simp [ByteArray.size]; omega))
  have HR := Lib.hid hr
  have w1 : wrap64 ((d : Int) - (s.size : Int)) = (d : Int) - (s.size : Int) := wsub hd hs20
  have HM : Hid (max 0 ((d : Int) - (s.size : Int)) = (r : Int)) := by show _ = _; omega
  clear hs hss hlen ht hn
  obtain ⟨p, hp⟩ : ∃ p, p = (⟨(Lib.repeatL [48] r).toArray⟩ : ByteArray) := ⟨_, rfl⟩
  rw [← hp] at RP
  have hps : p.size ≤ 15 := by
    rw [hp]
    have := Lib.repeatL_length [48] r
    simp only [ByteArray.size, List.size_toArray]
    simp at this; omega
  have HPP := Lib.hid hp
  clear hr hp hd
  go_enter Tryz.func59, Tryz.ntmps59
  go_wp2_with fail
  refine (F.out).mono ?_; rintro e w2 ⟨rfl, hb⟩
  have HB := Lib.hid hb; clear hb
  go_wp2_with fail
  rw [HM.out]
  refine (RP.out _).mono ?_; rintro e w3 ⟨rfl, hb⟩
  have HB2 := Lib.hid (bstep HB.out hb); clear hb HB
  go_wp2_with fail
  go_ret
  exact ⟨by unfold padL; rw [← ba_app, ← HS.out, ← HSS.out, ← HR.out, ← HPP.out]; rfl, HB2.out⟩

def longL (N : Nat) : List UInt8 := if N / 1000000000000000 = 0 then Lib.decDigits (N % 1000000000000000) else Lib.decDigits (N / 1000000000000000) ++ padL (N % 1000000000000000) 15
theorem padL_len {n d : Nat} (hn : n < 18446744073709551616) (hd : d ≤ 15) : (padL n d).length ≤ 35 := by
  unfold padL
  rw [List.length_append, Lib.repeatL_length]
  have := dec_le20 hn
  simp; omega

set_option maxHeartbeats 4000000 in
set_option maxRecDepth 100000 in
theorem long_any (w : World) (a b c : Nat) (ha : a < 18446744073709551616) (hb : b < 18446744073709551616) (hc : c < 18446744073709551616) (hN : a * b + c < 18446744073709551616000000000000000) (ht : Pow10 w) : Calls Tryz.prog 71 #[.int .u64 (a : Int), .int .u64 (b : Int), .int .u64 (c : Int)] w fun e w' => e = .returned (.string ⟨(longL (a * b + c)).toArray⟩) ∧ Below w.heap.size w w' := by
  have MU := Lib.hid (fun W => Tryz.bits_Mul64 a b ha hb W)
  obtain ⟨H, hH⟩ : ∃ H, H = a * b / 18446744073709551616 := ⟨_, rfl⟩
  obtain ⟨L, hL⟩ : ∃ L, L = a * b % 18446744073709551616 := ⟨_, rfl⟩
  rw [← hH, ← hL] at MU
  obtain ⟨N, hNe⟩ : ∃ N, N = a * b + c := ⟨_, rfl⟩
  have hab : a * b = H * 18446744073709551616 + L := by omega
  rw [← hNe] at hN ⊢
  have hL2 : L < 18446744073709551616 := by omega
  have hNN : N = H * 18446744073709551616 + L + c := by rw [hNe, hab]
  clear hH hL hNe hab ha hb
  obtain ⟨L2, hL2e⟩ : ∃ x, x = (L + c) % 18446744073709551616 := ⟨_, rfl⟩
  obtain ⟨C2, hC2e⟩ : ∃ x, x = (L + c) / 18446744073709551616 := ⟨_, rfl⟩
  have hAD : ∀ W, (callFunc 81 #[.int .u64 (L : Int), .int .u64 (c : Int), .int .u64 0]).run Tryz.prog W = .ok (.value (.tuple #[.int .u64 (L2 : Int), .int .u64 (C2 : Int)])) W := fun W => by rw [add64_run, hL2e, hC2e]
  have hN2 : N = (H + C2) * 18446744073709551616 + L2 := by rw [Nat.add_mul]; omega
  have hHC : H + C2 < 1000000000000000 := by omega
  have hL2b : L2 < 18446744073709551616 := by omega
  have hw : IntKind.u64.wrap ((H : Int) + (C2 : Int)) = ((H + C2 : Nat) : Int) := by rw [← Int.natCast_add]; exact wu64 (by omega)
  have DV := Lib.hid (fun W => div_any W (H + C2) L2 1000000000000000 hL2b hHC (by omega))
  rw [← hN2] at DV
  obtain ⟨l, hl⟩ : ∃ l, l = N / 1000000000000000 := ⟨_, rfl⟩
  obtain ⟨r, hr⟩ : ∃ r, r = N % 1000000000000000 := ⟨_, rfl⟩
  have hlb : l < 18446744073709551616 := by omega
  have hrb : r < 18446744073709551616 := by omega
  rw [← hl, ← hr] at DV
  have FL : Hid (∀ W, Below w.heap.size w W → Calls Tryz.prog 58 #[.int .u64 (l : Int), .int .i64 10] W fun e w' => e = .returned (.string ⟨(Lib.decDigits l).toArray⟩) ∧ Below W.heap.size W w') := fun W hb => fmt_any W l hlb (ht.go hb)
  have FR : Hid (∀ W, Below w.heap.size w W → Calls Tryz.prog 58 #[.int .u64 (r : Int), .int .i64 10] W fun e w' => e = .returned (.string ⟨(Lib.decDigits r).toArray⟩) ∧ Below W.heap.size W w') := fun W hb => fmt_any W r hrb (ht.go hb)
  have PR : Hid (∀ W, Below w.heap.size w W → Calls Tryz.prog 59 #[.int .u64 (r : Int), .int .i64 15] W fun e w' => e = .returned (.string ⟨(padL r 15).toArray⟩) ∧ Below W.heap.size W w') := fun W hb => padded_any W r 15 hrb (Nat.le_refl _) (ht.go hb)
  have HW := Lib.hid hw
  have HLL : Hid (longL N = if l = 0 then Lib.decDigits r else Lib.decDigits l ++ padL r 15) := by show _ = _; unfold longL; rw [hl, hr]
  have hs1 := dec_le20 hlb
  have hs2 := padL_len hrb (Nat.le_refl 15)
  obtain ⟨sl, hsl⟩ : ∃ s, s = (⟨(Lib.decDigits l).toArray⟩ : ByteArray) := ⟨_, rfl⟩
  obtain ⟨sp, hsp⟩ : ∃ s, s = (⟨(padL r 15).toArray⟩ : ByteArray) := ⟨_, rfl⟩
  have hsls : sl.size ≤ 20 := by rw [hsl]; exact hs1
  have hsps : sp.size ≤ 35 := by rw [hsp]; exact hs2
  rw [← hsl] at FL
  rw [← hsp] at PR
  have HSL := Lib.hid hsl; have HSP := Lib.hid hsp
  clear hs1 hs2 hsl hsp hw hL2b hHC hN2 hL2e hC2e hl hr hlb hrb hN hNN hL2 hc ht
  by_cases h0 : l = 0
  · subst h0
    have HR : Hid (longL N = Lib.decDigits r) := by show _ = _; rw [HLL.out]; rfl
    go_enter Tryz.func71, Tryz.ntmps71
    go_wp2_with fail
    refine (MU.out _).mono ?_; rintro e w2 ⟨rfl, rfl⟩
    go_wp2_with fail
    rw [HW.out]
    refine (DV.out _).mono ?_; rintro e w3 ⟨rfl, hb⟩
    have HB := Lib.hid hb; clear hb
    go_wp2_with fail
    refine (FR.out _ HB.out).mono ?_; rintro e w4 ⟨rfl, hb⟩
    have HB2 := Lib.hid (bstep HB.out hb); clear hb HB
    go_wp2_with fail
    go_ret
    exact ⟨by rw [HR.out]; rfl, HB2.out⟩
  · have HR : Hid (longL N = Lib.decDigits l ++ padL r 15) := by show _ = _; rw [HLL.out, if_neg h0]
    have h0' : ((l : Int) == 0) = false := by rw [beq_eq_false_iff_ne]; omega
    go_enter Tryz.func71, Tryz.ntmps71
    go_wp2_with fail
    refine (MU.out _).mono ?_; rintro e w2 ⟨rfl, rfl⟩
    go_wp2_with fail
    rw [HW.out]
    refine (DV.out _).mono ?_; rintro e w3 ⟨rfl, hb⟩
    have HB := Lib.hid hb; clear hb
    go_wp2_with fail
    refine (FL.out _ HB.out).mono ?_; rintro e w4 ⟨rfl, hb⟩
    have HB2 := Lib.hid (bstep HB.out hb); clear hb HB
    go_wp2_with fail
    refine (PR.out _ HB2.out).mono ?_; rintro e w5 ⟨rfl, hb⟩
    have HB3 := Lib.hid (bstep HB2.out hb); clear hb HB2
    go_wp2_with fail
    go_ret
    exact ⟨by rw [HR.out, ← ba_app, ← HSL.out, ← HSP.out]; rfl, HB3.out⟩
end Go.Proofs.YtegobakoflbnfaaGreatDoor

namespace Go.Proofs.YtegobakoflbnfaaGreatDoor
open Go Go.RowKit

def wsC : List Int := [2, 1]
def lineLen (t : List UInt8) : Nat := (Lib.cut t [10]).1.length
def tailG : Nat → List UInt8 → Nat
  | 0, _ => 0
  | f + 1, t => if Lib.hasPrefix t [47, 47] then lineLen t + pre (inC wsC) (t.drop (lineLen t)) + tailG f (t.drop (lineLen t + pre (inC wsC) (t.drop (lineLen t)))) else 0
def gapT (s : List UInt8) : Nat := pre (inC wsC) s + tailG (s.length + 1) (s.drop (pre (inC wsC) s))
/-- the library's variable that a search reads -/
def MaxL (w : World) : Prop := ∃ m, w.cell? ⟨2, 0, none⟩ = some (.int .i64 m)
theorem MaxL.go {w w' : World} (h : MaxL w) (hb : Below w.heap.size w w') : MaxL w' := by
  obtain ⟨m, h⟩ := h
  exact ⟨m, (hb.cell (World.block_lt_of_cell? w _ h)).trans h⟩
theorem below_drewN (B : Nat) (w : World) (n : Nat) : Below B w (w.drewN n) := ⟨rfl, rfl, rfl, Nat.le_refl _, fun _ _ => rfl⟩
theorem wadd {a b : Nat} (h : a + b ≤ 140737488355328) : wrap64 ((a : Int) + (b : Int)) = ((a + b : Nat) : Int) := by unfold wrap64; omega
theorem line_le (t : List UInt8) : lineLen t ≤ t.length := by
  unfold lineLen Lib.cut
  split
  · simp; omega
  · exact Nat.le_refl _
theorem line_two {t : List UInt8} (h : Lib.hasPrefix t [47, 47] = true) : 2 ≤ lineLen t := by
  unfold Lib.hasPrefix at h
  obtain ⟨u, hu⟩ := List.isPrefixOf_iff_prefix.1 h
  subst hu
  unfold lineLen Lib.cut
  split
  · rename_i hi
    have hroom := Lib.index_room ([47, 47] ++ u) [10] hi
    rw [Lib.index_one] at hi ⊢
    rw [Lib.index_one] at hroom
    obtain ⟨o, ho⟩ : ∃ o : Nat, Lib.indexByte ([47, 47] ++ u) 10 = o := ⟨(Lib.indexByte ([47, 47] ++ u) 10).toNat, by omega⟩
    obtain ⟨h1, -⟩ := Lib.indexByte_some ho
    rw [ho, List.length_take]
    have : o ≠ 0 := by rintro rfl; simp at h1
    have : o ≠ 1 := by rintro rfl; simp at h1
    rw [ho] at hroom
    simp only [List.length_append, List.length_cons, List.length_nil] at hroom ⊢
    simp
    omega
  · simp
theorem tail_step {f : Nat} {t : List UInt8} (h : Lib.hasPrefix t [47, 47] = true) : tailG (f + 1) t = lineLen t + pre (inC wsC) (t.drop (lineLen t)) + tailG f (t.drop (lineLen t + pre (inC wsC) (t.drop (lineLen t)))) := by
  rw [tailG, if_pos h]
theorem tail_end {f : Nat} {t : List UInt8} (h : Lib.hasPrefix t [47, 47] = false) : tailG f t = 0 := by
  cases f with
  | zero => rfl
  | succ f => rw [tailG, h]; rfl

set_option maxHeartbeats 4000000 in
set_option maxRecDepth 100000 in
theorem gap_any (w : World) (s : ByteArray) (hs : s.size ≤ 140737488355328) (hs2 : s.size < 4294967281) (hm : MaxL w) : Calls Tryz.prog 12 #[.string s] w fun e w' => e = .returned (.int .i64 (gapT s.data.toList : Nat)) ∧ Below w.heap.size w w' := by
  have CW : ∀ W : World, Cls (W.alloc (.cells #[.int .i64 2, .int .i64 1] 49)) (.slice (some ⟨W.heap.size, 0, none⟩) 2 2) wsC := fun W => cls_new W wsC 49
  have RN : Hid (∀ (W : World) (t : ByteArray), Calls Tryz.prog 20 #[.string t, .slice (some ⟨W.heap.size, 0, none⟩) 2 2] (W.alloc (.cells #[.int .i64 2, .int .i64 1] 49)) fun e w' => e = .returned (.int .i64 (pre (inC wsC) t.data.toList : Nat)) ∧ Below W.heap.size W w') := fun W t => by
    refine (run_any (CW W) (by decide) (by decide) t).mono ?_
    rintro e w' ⟨rfl, hb⟩
    exact ⟨rfl, bstep (below_alloc W _) hb⟩
  have HP := Lib.hid (fun W t => Tryz.strings_HasPrefix t ⟨#[47, 47]⟩ W)
  have CT : Hid (∀ (W : World) (t : ByteArray), Below w.heap.size w W → t.size < 4294967281 → Calls Tryz.prog 22 #[.string t, .string ⟨#[10]⟩] W fun e w' => e = .returned (.tuple #[.string ⟨(Lib.cut t.data.toList [10]).1.toArray⟩, .string ⟨(Lib.cut t.data.toList [10]).2.1.toArray⟩, .bool (Lib.cut t.data.toList [10]).2.2]) ∧ Below W.heap.size W w') := fun W t hb ht => by
    obtain ⟨m, hm'⟩ := hm.go hb
    refine (Tryz.strings_Cut t ⟨#[10]⟩ m W ht hm').mono ?_
    rintro e w' ⟨rfl, n, rfl⟩
    exact ⟨rfl, below_drewN _ _ n⟩
  obtain ⟨G, hG⟩ : ∃ G, G = gapT s.data.toList := ⟨_, rfl⟩
  rw [← hG]
  unfold gapT at hG
  obtain ⟨n0, hn0⟩ : ∃ n0, n0 = pre (inC wsC) s.data.toList := ⟨_, rfl⟩
  have hle := pre_le (inC wsC) s.data.toList
  rw [Array.length_toList] at hle
  rw [← hn0] at hG hle
  have HG := Lib.hid hG
  have HN0 := Lib.hid hn0
  have HLE : Hid (n0 ≤ s.size) := hle
  have HS2 := Lib.hid hs2
  clear CW hG hn0 hle hs2 hm
  go_enter Tryz.func12, Tryz.ntmps12
  go_wp2_with fail
  refine (RN.out _ s).mono ?_; rintro e w2 ⟨rfl, hb⟩
  rw [← HN0.out]
  have HB := Lib.hid hb; clear hb
  go_wp2_with fail
  go_loopw [3] (fun v3 wr => ∃ n f : Nat, v3 = .int .i64 (n : Int) ∧ n ≤ s.size ∧ s.size - n < f ∧ Hid (G = n + tailG f (s.data.toList.drop n)) ∧ Hid (Below w.heap.size w wr)) (fun v3 _ => s.size - (intOf v3).toNat)
  case atStart => exact ⟨n0, s.data.toList.length + 1, rfl, HLE.out, by have : s.data.toList.length = s.size := Array.length_toList; omega, HG.out, HB⟩
  case round =>
    clear HB HG HN0 HLE
    obtain ⟨n, f, rfl, hn, hf, HGn, HBn⟩ := hrel
    obtain ⟨t, ht⟩ : ∃ t, t = s.extract n s.size := ⟨_, rfl⟩
    have htl : t.data.toList = s.data.toList.drop n := by rw [ht]; exact toList_from _ _
    have hts : t.size = s.size - n := by rw [ht]; simp [ByteArray.size_extract]
    have HT := Lib.hid ht; have HTL := Lib.hid htl
    cases hp : Lib.hasPrefix t.data.toList [47, 47]
    · have HGE : Hid (G = n) := by show _ = _; rw [HGn.out, ← htl, tail_end hp, Nat.add_zero]
      have HPI := Lib.hid (HP.out wr t)
      rw [hp] at HPI
      clear hp htl hts hf
      rw [ht] at HPI
      clear ht
      go_wp2_with fail
      refine HPI.out.mono ?_; rintro e w3 ⟨rfl, rfl⟩
      go_wp2_with fail
      go_ret
      exact ⟨by rw [HGE.out]; rfl, HBn.out⟩
    · obtain ⟨g, rfl⟩ : ∃ g, f = g + 1 := ⟨f - 1, by omega⟩
      have HPI := Lib.hid (HP.out wr t)
      rw [hp] at HPI
      have h2 := line_two hp
      have hl := line_le t.data.toList
      have htn : t.data.toList.length = t.size := Array.length_toList
      obtain ⟨a, ha⟩ : ∃ a, a = lineLen t.data.toList := ⟨_, rfl⟩
      obtain ⟨b, hb⟩ : ∃ b, b = pre (inC wsC) (t.data.toList.drop a) := ⟨_, rfl⟩
      have hbl := pre_le (inC wsC) (t.data.toList.drop a)
      rw [List.length_drop] at hbl
      have hst := tail_step (f := g) hp
      rw [← ha, ← hb] at hst
      have hdd : t.data.toList.drop a = s.data.toList.drop (n + a) := by rw [htl, List.drop_drop]
      have hdd2 : t.data.toList.drop (a + b) = s.data.toList.drop (n + a + b) := by rw [htl, List.drop_drop, Nat.add_assoc]
      have HGN : Hid (G = n + a + b + tailG g (s.data.toList.drop (n + a + b))) := by
        show _ = _
        rw [HGn.out, ← htl, hst, hdd2]; omega
      rw [← ha] at h2 hl
      rw [← hb] at hbl
      have hnab : n + a + b ≤ s.size := by omega
      have hna : n + a ≤ s.size := by omega
      have HF : Hid (s.size - (n + a + b) < g ∧ s.size - (n + a + b) < s.size - n) := ⟨by omega, by omega⟩
      have CT2 := Lib.hid (CT.out wr t HBn.out (by have := HS2.out; omega))
      obtain ⟨c1, hc1⟩ : ∃ c : ByteArray, c = ⟨(Lib.cut t.data.toList [10]).1.toArray⟩ := ⟨_, rfl⟩
      have hcs : c1.size = a := by rw [hc1, ha]; unfold lineLen; simp [ByteArray.size]
      rw [← hc1] at CT2
      have HCS := Lib.hid hcs
      have hw1 : wrap64 ((n : Int) + (c1.size : Int)) = ((n + a : Nat) : Int) := by rw [hcs]; exact wadd (Nat.le_trans hna hs)
      have hw2 : wrap64 (((n + a : Nat) : Int) + (b : Int)) = ((n + a + b : Nat) : Int) := wadd (Nat.le_trans hnab hs)
      have HW2 := Lib.hid hw2; clear hw2
      have RB : Hid (∀ W, Calls Tryz.prog 20 #[.string (s.extract (n + a) s.size), .slice (some ⟨W.heap.size, 0, none⟩) 2 2] (W.alloc (.cells #[.int .i64 2, .int .i64 1] 49)) fun e w' => e = .returned (.int .i64 (b : Int)) ∧ Below W.heap.size W w') := fun W => by
        have := RN.out W (s.extract (n + a) s.size)
        rw [toList_from, ← hdd, ← hb] at this
        exact this
      rw [ht] at HPI CT2
      clear hp htl hts hf ht h2 hl htn ha hb hbl hst hdd hdd2 hc1 hcs
      go_wp2_with fail
      refine HPI.out.mono ?_; rintro e w3 ⟨rfl, rfl⟩
      go_wp2_with fail
      refine CT2.out.mono ?_; rintro e w4 ⟨rfl, hb4⟩
      have HB4 := Lib.hid hb4; clear hb4
      go_wp2_with fail
      refine (RB.out _).mono ?_; rintro e w5 ⟨rfl, hb5⟩
      have HB5 : Hid (Below w.heap.size w w5) := bstep (bstep HBn.out HB4.out) hb5
      clear hb5 HB4
      go_wp2_with fail
      go_roundw
      case rel => exact ⟨n + a + b, g, congrArg (Value.int .i64) (by omega), hnab, HF.out.1, HGN, HB5⟩
      case measure => have := HF.out.2; simp [intOf]; omega
end Go.Proofs.YtegobakoflbnfaaGreatDoor

namespace Go.Proofs.YtegobakoflbnfaaGreatDoor
open Go Go.RowKit

def Dig (l : List UInt8) : Prop := ∀ b ∈ l, 48 ≤ b.toNat ∧ b.toNat ≤ 57
def dvA (a : Nat) (l : List UInt8) : Nat := l.foldl (fun a c => a * 10 + (c.toNat - 48)) a
theorem dvA_nil (a : Nat) : dvA a [] = a := by unfold dvA; exact List.foldl_nil
theorem dvA_cons (a : Nat) (c : UInt8) (r : List UInt8) : dvA a (c :: r) = dvA (a * 10 + (c.toNat - 48)) r := by unfold dvA; exact List.foldl_cons ..
def dv (l : List UInt8) : Nat := dvA 0 l
theorem dvA_lt (l : List UInt8) : ∀ (a : Nat), Dig l → dvA a l < (a + 1) * 10 ^ l.length := by
  induction l with
  | nil => intro a _; rw [dvA_nil]; simp
  | cons c r ih =>
    intro a h
    have hc := h c (List.mem_cons_self ..)
    have := ih (a * 10 + (c.toNat - 48)) (fun b hb => h b (List.mem_cons_of_mem _ hb))
    rw [dvA_cons]
    refine Nat.lt_of_lt_of_le this ?_
    rw [List.length_cons, Nat.pow_succ, Nat.mul_comm (10 ^ r.length) 10, ← Nat.mul_assoc]
    exact Nat.mul_le_mul_right _ (by omega)
theorem dv_lt {l : List UInt8} (h : Dig l) : dv l < 10 ^ l.length := by
  have := dvA_lt l 0 h
  rw [Nat.zero_add, Nat.one_mul] at this
  exact this
theorem parseM_ok (l : List UInt8) : ∀ (a : Nat), Dig l → (a + 1) * 10 ^ l.length ≤ 1000000000000000000 → Lib.parseUintM 18446744073709551615 a l = .ok (dvA a l) := by
  induction l with
  | nil => intro a _ _; rfl
  | cons c r ih =>
    intro a h hb
    have hc := h c (List.mem_cons_self ..)
    have hp : 0 < 10 ^ r.length := Nat.pow_pos (by decide)
    rw [List.length_cons, Nat.pow_succ, Nat.mul_comm (10 ^ r.length) 10, ← Nat.mul_assoc] at hb
    have h1 : (a + 1) * 10 ≤ (a + 1) * 10 * 10 ^ r.length := Nat.le_mul_of_pos_right _ hp
    have h2 : (a * 10 + (c.toNat - 48) + 1) * 10 ^ r.length ≤ (a + 1) * 10 * 10 ^ r.length := Nat.mul_le_mul_right _ (by omega)
    rw [Lib.parseUintM, if_pos hc, if_neg (by omega), if_neg (by omega), dvA_cons]
    exact ih _ (fun b hb => h b (List.mem_cons_of_mem _ hb)) (by omega)
theorem parse_dig {l : List UInt8} (h : Dig l) (hne : l ≠ []) (hl : l.length ≤ 18) : Lib.parseUintB 64 l = .ok (dv l) := by
  have hp : 10 ^ l.length ≤ 10 ^ 18 := Nat.pow_le_pow_right (by decide) hl
  have h18 : (10 : Nat) ^ 18 = 1000000000000000000 := by decide
  rw [Lib.parseUintB, if_neg hne, show 2 ^ 64 - 1 = 18446744073709551615 by decide, parseM_ok l 0 h (by omega)]
  rfl
theorem ib_none : ∀ {l : List UInt8} {c : UInt8}, (∀ b ∈ l, b ≠ c) → Lib.indexByte l c = -1
  | [], c, _ => rfl
  | b :: l, c, h => by
    have hb := h b (List.mem_cons_self ..)
    have := ib_none (l := l) (c := c) (fun x hx => h x (List.mem_cons_of_mem _ hx))
    rw [Lib.indexByte, if_neg (by simpa using hb), this]; rfl
theorem ib_at : ∀ {l r : List UInt8} {c : UInt8}, (∀ b ∈ l, b ≠ c) → Lib.indexByte (l ++ c :: r) c = l.length
  | [], r, c, _ => by simp [Lib.indexByte]
  | b :: l, r, c, h => by
    have hb := h b (List.mem_cons_self ..)
    have := ib_at (l := l) (r := r) (c := c) (fun x hx => h x (List.mem_cons_of_mem _ hx))
    rw [List.cons_append, Lib.indexByte, if_neg (by simpa using hb), this, if_neg (by rw [beq_iff_eq]; omega), List.length_cons]
    omega
theorem cut_no {l : List UInt8} {c : UInt8} (h : ∀ b ∈ l, b ≠ c) : Lib.cut l [c] = (l, [], false) := by
  unfold Lib.cut
  rw [Lib.index_one, ib_none h, if_neg (by decide)]
theorem cut_at {l r : List UInt8} {c : UInt8} (h : ∀ b ∈ l, b ≠ c) : Lib.cut (l ++ c :: r) [c] = (l, r, true) := by
  unfold Lib.cut
  rw [Lib.index_one, ib_at h, if_pos (by omega)]
  simp
theorem dig_ne {l : List UInt8} (h : Dig l) {c : UInt8} (hc : c.toNat < 48 ∨ 57 < c.toNat) : ∀ b ∈ l, b ≠ c := by
  rintro b hb rfl
  have := h b hb
  omega
/-- a decimal's text -/
def decL (l r : List UInt8) : List UInt8 := if r = [] then l else l ++ 46 :: r
theorem cut_dec {l r : List UInt8} (h : Dig l) : (Lib.cut (decL l r) [46]).1 = l ∧ (Lib.cut (decL l r) [46]).2.1 = r := by
  unfold decL
  split
  · rename_i hr; subst hr
    rw [cut_no (dig_ne h (.inl (by decide)))]; exact ⟨rfl, rfl⟩
  · rw [cut_at (dig_ne h (.inl (by decide)))]; exact ⟨rfl, rfl⟩
def fracL (l r : List UInt8) : List UInt8 :=
  if 10 ^ r.length / Nat.gcd (10 ^ r.length) (dv r) = 1 then Lib.decDigits (dv l)
  else longL (dv l * (10 ^ r.length / Nat.gcd (10 ^ r.length) (dv r)) + dv r / Nat.gcd (10 ^ r.length) (dv r)) ++ [47] ++ Lib.decDigits (10 ^ r.length / Nat.gcd (10 ^ r.length) (dv r))
theorem longL_len {n : Nat} (hn : n < 18446744073709551616000000000000000) : (longL n).length ≤ 60 := by
  have h1 := dec_le20 (n := n % 1000000000000000) (by omega)
  have h2 := dec_le20 (n := n / 1000000000000000) (by omega)
  have h3 := padL_len (n := n % 1000000000000000) (d := 15) (by omega) (Nat.le_refl _)
  unfold longL
  split
  · omega
  · rw [List.length_append]; omega
theorem pu_any {w : World} {l : List UInt8} (h : Dig l) (hne : l ≠ []) (hl : l.length ≤ 18) (W : World) : Calls Tryz.prog 55 #[.string ⟨l.toArray⟩, .int .i64 10, .int .i64 64] W fun e w' => e = .returned (.tuple #[.int .u64 ((dv l : Nat) : Int), .nilIface]) ∧ Below W.heap.size W w' := by
  refine (Tryz.strconv_ParseUint_10_at64_ok ⟨l.toArray⟩ (by simp [ByteArray.size]; omega) (dv l) (parse_dig h hne hl) W).mono ?_
  rintro e w' ⟨rfl, rfl | rfl⟩
  · exact ⟨rfl, Below.refl _ _⟩
  · exact ⟨rfl, Joins.below_bytesWorld _ _ _ _ (Nat.le_refl _)⟩
theorem quo_u64 {a b : Nat} (ha : a < 18446744073709551616) : IntKind.u64.wrap ((a : Int) / (b : Int)) = ((a / b : Nat) : Int) := by
  rw [show (a : Int) / (b : Int) = ((a / b : Nat) : Int) from rfl]
  have := Nat.div_le_self a b
  exact wu64 (by omega)

set_option maxHeartbeats 4000000 in
set_option maxRecDepth 100000 in
theorem fraction_any (w : World) (d : ByteArray) (l r : List UInt8) (hd : d.data.toList = decL l r) (hl : Dig l) (hr : Dig r) (hln : l ≠ []) (hll : l.length ≤ 15) (hrl : r.length ≤ 15) (hm : MaxL w) (ht : Pow10 w) : Calls Tryz.prog 47 #[.string d] w fun e w' => e = .returned (.string ⟨(fracL l r).toArray⟩) ∧ Below w.heap.size w w' := by
  have hds : d.size ≤ 31 := by
    have : d.data.toList.length = d.size := Array.length_toList
    rw [hd] at this
    unfold decL at this
    split at this
    · omega
    · simp at this; omega
  have CT : Hid (Calls Tryz.prog 22 #[.string d, .string ⟨#[46]⟩] w fun e w' => e = .returned (.tuple #[.string ⟨l.toArray⟩, .string ⟨r.toArray⟩, .bool (Lib.cut (decL l r) [46]).2.2]) ∧ Below w.heap.size w w') := by
    obtain ⟨m, hm'⟩ := hm
    refine (Tryz.strings_Cut d ⟨#[46]⟩ m w (by omega) hm').mono ?_
    rintro e w' ⟨rfl, n, rfl⟩
    refine ⟨?_, below_drewN _ _ n⟩
    rw [hd, show (⟨#[46]⟩ : ByteArray).data.toList = [46] from rfl, (cut_dec hl).1, (cut_dec hl).2]
  obtain ⟨found, hfound⟩ : ∃ f, f = (Lib.cut (decL l r) [46]).2.2 := ⟨_, rfl⟩
  rw [← hfound] at CT
  have PL := Lib.hid (fun W => pu_any (w := w) hl hln (by omega) W)
  have hr0 : Dig (48 :: r) := by
    intro b hb
    rcases List.mem_cons.1 hb with rfl | hb
    · decide
    · exact hr b hb
  have PR0 := Lib.hid (fun W => pu_any (w := w) hr0 (by simp) (by simp; omega) W)
  have e0 : dv (48 :: r) = dv r := rfl
  rw [e0] at PR0
  have hbl : (⟨#[48]⟩ : ByteArray) ++ ⟨r.toArray⟩ = ⟨(48 :: r).toArray⟩ := ba_app [48] r
  have PR : Hid (∀ W, Calls Tryz.prog 55 #[.string ((⟨#[48]⟩ : ByteArray) ++ ⟨r.toArray⟩), .int .i64 10, .int .i64 64] W fun e w' => e = .returned (.tuple #[.int .u64 ((dv r : Nat) : Int), .nilIface]) ∧ Below W.heap.size W w') := by rw [hbl]; exact PR0
  have hP := dv_lt hr
  have hW := dv_lt hl
  have hp15 : 10 ^ r.length ≤ 10 ^ 15 := Nat.pow_le_pow_right (by decide) hrl
  have hq15 : 10 ^ l.length ≤ 10 ^ 15 := Nat.pow_le_pow_right (by decide) hll
  have h15 : (10 : Nat) ^ 15 = 1000000000000000 := by decide
  have PW := Lib.hid (fun W => power_any W r.length hrl)
  have hFE : fracL l r = if 10 ^ r.length / Nat.gcd (10 ^ r.length) (dv r) = 1 then Lib.decDigits (dv l)
      else longL (dv l * (10 ^ r.length / Nat.gcd (10 ^ r.length) (dv r)) + dv r / Nat.gcd (10 ^ r.length) (dv r)) ++ [47] ++ Lib.decDigits (10 ^ r.length / Nat.gcd (10 ^ r.length) (dv r)) := rfl
  have hBp : 0 < 10 ^ r.length := Nat.pow_pos (by decide)
  obtain ⟨A, hA⟩ : ∃ A, A = dv l := ⟨_, rfl⟩
  obtain ⟨P, hPe⟩ : ∃ P, P = dv r := ⟨_, rfl⟩
  obtain ⟨B, hB⟩ : ∃ B, B = 10 ^ r.length := ⟨_, rfl⟩
  rw [← hA] at PL hFE hW
  rw [← hPe] at PR hFE hP
  rw [← hB] at PW hFE hP hBp hp15
  obtain ⟨F, hF⟩ : ∃ F, F = fracL l r := ⟨_, rfl⟩
  rw [← hF] at hFE ⊢
  have hPb : P < 18446744073709551616 := by omega
  have hBb : B < 18446744073709551616 := by omega
  have hAb : A < 1000000000000000 := by omega
  have DV := Lib.hid (fun W => divisor_any W B P hPb)
  have hgp : 0 < Nat.gcd B P := Nat.gcd_pos_of_pos_left _ hBp
  obtain ⟨g, hg⟩ : ∃ g, g = Nat.gcd B P := ⟨_, rfl⟩
  rw [← hg] at DV hFE hgp
  have hg0 : ¬ (g : Int) = 0 := by omega
  have Q1 : Hid (IntKind.u64.wrap ((P : Int) / (g : Int)) = ((P / g : Nat) : Int)) := quo_u64 hPb
  have Q2 : Hid (IntKind.u64.wrap ((B : Int) / (g : Int)) = ((B / g : Nat) : Int)) := quo_u64 hBb
  have hP2 : P / g ≤ P := Nat.div_le_self _ _
  have hB2 : B / g ≤ B := Nat.div_le_self _ _
  obtain ⟨P2, hP2e⟩ : ∃ x, x = P / g := ⟨_, rfl⟩
  obtain ⟨B2, hB2e⟩ : ∃ x, x = B / g := ⟨_, rfl⟩
  rw [← hP2e] at Q1 hFE hP2
  rw [← hB2e] at Q2 hFE hB2
  have hN : A * B2 + P2 < 18446744073709551616000000000000000 := by
    have : A * B2 ≤ 1000000000000000 * 1000000000000000 := Nat.mul_le_mul (by omega) (by omega)
    have h30 : 1000000000000000 * 1000000000000000 = 1000000000000000000000000000000 := by decide
    omega
  have hB2b : B2 < 18446744073709551616 := by omega
  have FA : Hid (∀ W, Below w.heap.size w W → Calls Tryz.prog 58 #[.int .u64 (A : Int), .int .i64 10] W fun e w' => e = .returned (.string ⟨(Lib.decDigits A).toArray⟩) ∧ Below W.heap.size W w') := fun W hb => fmt_any W A (by omega) (ht.go hb)
  have FB : Hid (∀ W, Below w.heap.size w W → Calls Tryz.prog 58 #[.int .u64 (B2 : Int), .int .i64 10] W fun e w' => e = .returned (.string ⟨(Lib.decDigits B2).toArray⟩) ∧ Below W.heap.size W w') := fun W hb => fmt_any W B2 hB2b (ht.go hb)
  have LO : Hid (∀ W, Below w.heap.size w W → Calls Tryz.prog 71 #[.int .u64 (A : Int), .int .u64 (B2 : Int), .int .u64 (P2 : Int)] W fun e w' => e = .returned (.string ⟨(longL (A * B2 + P2)).toArray⟩) ∧ Below W.heap.size W w') := fun W hb => long_any W A B2 P2 (by omega) hB2b (by omega) hN (ht.go hb)
  have hs1 := longL_len hN
  have hs2 := dec_le20 hB2b
  obtain ⟨sl, hsl⟩ : ∃ s, s = (⟨(longL (A * B2 + P2)).toArray⟩ : ByteArray) := ⟨_, rfl⟩
  obtain ⟨sb, hsb⟩ : ∃ s, s = (⟨(Lib.decDigits B2).toArray⟩ : ByteArray) := ⟨_, rfl⟩
  have hsls : sl.size ≤ 60 := by rw [hsl]; exact hs1
  have hsbs : sb.size ≤ 20 := by rw [hsb]; exact hs2
  rw [← hsl] at LO
  rw [← hsb] at FB
  have HSL := Lib.hid hsl; have HSB := Lib.hid hsb
  obtain ⟨rb, hrb⟩ : ∃ s, s = (⟨r.toArray⟩ : ByteArray) := ⟨_, rfl⟩
  have hrbs : rb.size = r.length := by rw [hrb]; simp [ByteArray.size]
  have hrb15 : rb.size ≤ 15 := by omega
  rw [← hrb] at CT PR
  rw [← hrbs] at PW
  have HFE := Lib.hid hFE
  clear hbl e0 PR0 hr0 hd hl hr hln hll hrl hm ht hds hP hW hp15 hq15 h15 hFE hBp hA hPe hB hF hPb hBb hAb hgp hg hP2 hB2 hP2e hB2e hN hB2b hs1 hs2 hsl hsb hrb hrbs hfound
  by_cases h1 : B2 = 1
  · have HR : Hid (F = Lib.decDigits A) := by show _ = _; rw [HFE.out, if_pos h1]
    have h1' : (IntKind.u64.wrap ((B : Int) / (g : Int)) == 1) = true := by rw [Q2.out, beq_iff_eq]; omega
    clear h1
    go_enter Tryz.func47, Tryz.ntmps47
    go_wp2_with fail
    refine CT.out.mono ?_; rintro e w2 ⟨rfl, hb⟩
    have HB := Lib.hid hb; clear hb
    go_wp2_with fail
    refine (PL.out _).mono ?_; rintro e w3 ⟨rfl, hb⟩
    have HB2 := Lib.hid (bstep HB.out hb); clear hb HB
    go_wp2_with fail
    refine (PR.out _).mono ?_; rintro e w4 ⟨rfl, hb⟩
    have HB := Lib.hid (bstep HB2.out hb); clear hb HB2
    go_wp2_with fail
    refine (PW.out _).mono ?_; rintro e w5 ⟨rfl, rfl⟩
    go_wp2_with fail
    refine (DV.out _).mono ?_; rintro e w6 ⟨rfl, hb⟩
    have HB2 := Lib.hid (bstep HB.out hb); clear hb HB
    go_wp2_with fail
    refine (FA.out _ HB2.out).mono ?_; rintro e w7 ⟨rfl, hb⟩
    have HB := Lib.hid (bstep HB2.out hb); clear hb HB2
    go_wp2_with fail
    go_ret
    exact ⟨by rw [HR.out]; rfl, HB.out⟩
  · have HR : Hid (F = longL (A * B2 + P2) ++ [47] ++ Lib.decDigits B2) := by show _ = _; rw [HFE.out, if_neg h1]
    have h1' : (IntKind.u64.wrap ((B : Int) / (g : Int)) == 1) = false := by rw [Q2.out, beq_eq_false_iff_ne]; omega
    clear h1
    go_enter Tryz.func47, Tryz.ntmps47
    go_wp2_with fail
    refine CT.out.mono ?_; rintro e w2 ⟨rfl, hb⟩
    have HB := Lib.hid hb; clear hb
    go_wp2_with fail
    refine (PL.out _).mono ?_; rintro e w3 ⟨rfl, hb⟩
    have HB2 := Lib.hid (bstep HB.out hb); clear hb HB
    go_wp2_with fail
    refine (PR.out _).mono ?_; rintro e w4 ⟨rfl, hb⟩
    have HB := Lib.hid (bstep HB2.out hb); clear hb HB2
    go_wp2_with fail
    refine (PW.out _).mono ?_; rintro e w5 ⟨rfl, rfl⟩
    go_wp2_with fail
    refine (DV.out _).mono ?_; rintro e w6 ⟨rfl, hb⟩
    have HB2 := Lib.hid (bstep HB.out hb); clear hb HB
    go_wp2_with fail
    rw [Q1.out, Q2.out]
    refine (LO.out _ HB2.out).mono ?_; rintro e w7 ⟨rfl, hb⟩
    have HB := Lib.hid (bstep HB2.out hb); clear hb HB2
    go_wp2_with fail
    refine (FB.out _ HB.out).mono ?_; rintro e w8 ⟨rfl, hb⟩
    have HB2 := Lib.hid (bstep HB.out hb); clear hb HB
    go_wp2_with fail
    go_ret
    exact ⟨by rw [HR.out, ← ba_app, ← ba_app, ← HSL.out, ← HSB.out]; rfl, HB2.out⟩
end Go.Proofs.YtegobakoflbnfaaGreatDoor

namespace Go.Proofs.YtegobakoflbnfaaGreatDoor
open Go Go.RowKit

def digC : List Int := [4]
theorem inC_dig {b : UInt8} (h : inC digC b = true) : 48 ≤ b.toNat ∧ b.toNat ≤ 57 := by
  have h4 : classN b.toNat = 4 := by
    unfold inC digC at h
    simpa using h
  unfold classN at h4
  repeat' split at h4
  all_goals first | assumption | (exfalso; revert h4; decide)
theorem dig_pre (l : List UInt8) : Dig (l.take (pre (inC digC) l)) := by
  have := pre_all (inC digC) l
  rw [List.all_eq_true] at this
  exact fun b hb => inC_dig (this b hb)
/-- the places behind the point -/
def placesT (s : List UInt8) (w : Nat) : Nat := if Lib.hasPrefix (s.drop w) [46] then pre (inC digC) (s.drop (w + 1)) else 0
def numLen (w p : Nat) : Nat := if 0 < p then w + (1 + p) else w
def numberT (s : ByteArray) : T3 :=
  if 15 < pre (inC digC) s.data.toList ∨ 15 < placesT s.data.toList (pre (inC digC) s.data.toList) then noT
  else (3, ⟨(fracL (s.data.toList.take (pre (inC digC) s.data.toList)) ((s.data.toList.drop (pre (inC digC) s.data.toList + 1)).take (placesT s.data.toList (pre (inC digC) s.data.toList)))).toArray⟩,
    numLen (pre (inC digC) s.data.toList) (placesT s.data.toList (pre (inC digC) s.data.toList)))
theorem has_one {t : List UInt8} {c : UInt8} (h : Lib.hasPrefix t [c] = true) : ∃ u, t = c :: u := by
  unfold Lib.hasPrefix at h
  obtain ⟨u, hu⟩ := List.isPrefixOf_iff_prefix.1 h
  exact ⟨u, by rw [← hu]; rfl⟩
theorem places_le (s : List UInt8) (w : Nat) (hw : w ≤ s.length) : numLen w (placesT s w) ≤ s.length := by
  unfold numLen placesT
  by_cases h : Lib.hasPrefix (s.drop w) [46] = true
  · rw [if_pos h]
    obtain ⟨u, hu⟩ := has_one h
    have h1 := pre_le (inC digC) (s.drop (w + 1))
    have h2 : (s.drop w).length = u.length + 1 := by rw [hu]; rfl
    rw [List.length_drop] at h1 h2
    split <;> omega
  · rw [if_neg h, if_neg (Nat.lt_irrefl 0)]; exact hw
/-- what is read is a decimal -/
theorem num_dec (s : List UInt8) (w : Nat) (hw : w ≤ s.length) : s.take (numLen w (placesT s w)) = decL (s.take w) ((s.drop (w + 1)).take (placesT s w)) := by
  unfold decL
  by_cases hp : 0 < placesT s w
  · have hh : Lib.hasPrefix (s.drop w) [46] = true := by
      unfold placesT at hp
      split at hp
      · assumption
      · exact absurd hp (Nat.lt_irrefl 0)
    obtain ⟨u, hu⟩ := has_one hh
    have hu2 : s.drop (w + 1) = u := by rw [← List.drop_drop, hu]; rfl
    have hne : (s.drop (w + 1)).take (placesT s w) ≠ [] := by
      have hle := places_le s w hw
      unfold numLen at hle
      rw [if_pos hp] at hle
      intro h0
      have : ((s.drop (w + 1)).take (placesT s w)).length = 0 := by rw [h0]; rfl
      rw [List.length_take, List.length_drop] at this
      omega
    rw [if_neg hne, hu2]
    unfold numLen
    rw [if_pos hp, List.take_add, hu, show 1 + placesT s w = placesT s w + 1 by omega, List.take_succ_cons]
  · have h0 : placesT s w = 0 := by omega
    unfold numLen
    rw [h0, if_neg (Nat.lt_irrefl 0), List.take_zero, if_pos rfl]
theorem dig_places (s : List UInt8) (w : Nat) : Dig ((s.drop (w + 1)).take (placesT s w)) := by
  unfold placesT
  split
  · exact dig_pre _
  · intro b hb; simp at hb

set_option maxHeartbeats 4000000 in
set_option maxRecDepth 100000 in
theorem number_any (w : World) (s : ByteArray) (h0 : 0 < pre (inC digC) s.data.toList) (hs2 : s.size ≤ 140737488355328) (hm : MaxL w) (ht : Pow10 w) : Calls Tryz.prog 25 #[.string s] w (RetTok w (numberT s)) := by
  have BX0 := BoxT.new w (.int .i64 0) (.string ⟨#[]⟩) (.int .i64 0)
  have B0 := below_alloc w (.cells #[.int .i64 0, .string ⟨#[]⟩, .int .i64 0] 37)
  have s1 : (w.alloc (.cells #[.int .i64 0, .string ⟨#[]⟩, .int .i64 0] 37)).heap.size = w.heap.size + 1 := by simp
  have CW : ∀ W : World, Cls (W.alloc (.cells #[.int .i64 4] 49)) (.slice (some ⟨W.heap.size, 0, none⟩) 1 1) digC := fun W => cls_new W digC 49
  have RN : Hid (∀ (W : World) (t : ByteArray), Calls Tryz.prog 20 #[.string t, .slice (some ⟨W.heap.size, 0, none⟩) 1 1] (W.alloc (.cells #[.int .i64 4] 49)) fun e w' => e = .returned (.int .i64 (pre (inC digC) t.data.toList : Nat)) ∧ Below W.heap.size W w') := fun W t => by
    refine (run_any (CW W) (by decide) (by decide) t).mono ?_
    rintro e w' ⟨rfl, hb⟩
    exact ⟨rfl, bstep (below_alloc W _) hb⟩
  have HP0 := Lib.hid (fun W t => Tryz.strings_HasPrefix t ⟨#[46]⟩ W)
  obtain ⟨a, ha⟩ : ∃ a, a = pre (inC digC) s.data.toList := ⟨_, rfl⟩
  obtain ⟨p, hp⟩ : ∃ p, p = placesT s.data.toList a := ⟨_, rfl⟩
  have hal := pre_le (inC digC) s.data.toList
  have hnl := places_le s.data.toList a (by rw [ha]; exact hal)
  have hnd := num_dec s.data.toList a (by rw [ha]; exact hal)
  have hdp := dig_places s.data.toList a
  have hda := dig_pre s.data.toList
  rw [← hp] at hnl hnd hdp
  rw [← ha] at hal hda h0
  have hsz : s.data.toList.length = s.size := Array.length_toList
  rw [hsz] at hal hnl
  have hX : numberT s = if 15 < a ∨ 15 < p then noT else (3, ⟨(fracL (s.data.toList.take a) ((s.data.toList.drop (a + 1)).take p)).toArray⟩, numLen a p) := by
    unfold numberT; rw [← ha, ← hp]
  obtain ⟨x, hx⟩ : ∃ x, x = numberT s := ⟨_, rfl⟩
  rw [← hx] at hX ⊢
  have HX := Lib.hid hX
  have R1 : Hid (∀ (W : World), Calls Tryz.prog 20 #[.string s, .slice (some ⟨W.heap.size, 0, none⟩) 1 1] (W.alloc (.cells #[.int .i64 4] 49)) fun e w' => e = .returned (.int .i64 (a : Int)) ∧ Below W.heap.size W w') := fun W => by rw [ha]; exact RN.out W s
  have HP : Hid (∀ W, Calls Tryz.prog 21 #[.string (s.extract a s.size), .string ⟨#[46]⟩] W fun e w' => e = .returned (.bool (Lib.hasPrefix (s.data.toList.drop a) [46])) ∧ w' = W) := fun W => by
    have := HP0.out W (s.extract a s.size)
    rw [toList_from] at this
    exact this
  have R2 : Hid (∀ (W : World), Calls Tryz.prog 20 #[.string (s.extract (a + 1) s.size), .slice (some ⟨W.heap.size, 0, none⟩) 1 1] (W.alloc (.cells #[.int .i64 4] 49)) fun e w' => e = .returned (.int .i64 ((pre (inC digC) (s.data.toList.drop (a + 1)) : Nat) : Int)) ∧ Below W.heap.size W w') := fun W => by
    have := RN.out W (s.extract (a + 1) s.size)
    rw [toList_from] at this
    exact this
  have FR : Hid (a ≤ 15 → p ≤ 15 → ∀ W, Below w.heap.size w W → Calls Tryz.prog 47 #[.string (s.extract 0 (numLen a p))] W fun e w' => e = .returned (.string ⟨(fracL (s.data.toList.take a) ((s.data.toList.drop (a + 1)).take p)).toArray⟩) ∧ Below W.heap.size W w') := fun h15 hp15 W hb => by
    refine fraction_any W _ _ _ ?_ hda hdp ?_ ?_ ?_ (hm.go hb) (ht.go hb)
    · rw [toList_extract, List.drop_zero, hnd]
    · intro h; have : (s.data.toList.take a).length = 0 := by rw [h]; rfl
      rw [List.length_take] at this; omega
    · rw [List.length_take]; omega
    · rw [List.length_take]; omega
  have BX := Lib.hid BX0
  have HB := Lib.hid B0
  have HAL := Lib.hid hal
  clear BX0 B0 CW RN HP0 ha hnd hdp hda hX hx hm ht h0 hsz
  cases hk : Lib.hasPrefix (s.data.toList.drop a) [46]
  · have hp0 : p = 0 := by rw [hp]; unfold placesT; rw [hk]; rfl
    rw [hk] at HP
    subst hp0
    have hn : numLen a 0 = a := rfl
    rw [hn] at HX FR hnl
    clear hk hp R2
    by_cases hbad : 15 < a
    · have t1 : decide (15 < (a : Int)) = true := decide_eq_true (by omega)
      have HR : Hid (x = noT) := by show _ = _; rw [HX.out, if_pos (by omega)]
      clear FR HX
      clear hbad
      go_enter Tryz.func25, Tryz.ntmps25
      go_wp2_with fail
      generalize (w.alloc (.cells #[.int .i64 0, .string ⟨#[]⟩, .int .i64 0] 37)) = w1 at *
      rw [← s1]
      refine (R1.out _).mono ?_; rintro e w2 ⟨rfl, hb2⟩
      have BX2 := Lib.hid (BX.out.go hb2); have HB2 := Lib.hid (bstep HB.out hb2)
      clear hb2 R1 BX HB
      obtain ⟨x0, x1, x2, f0, f1, f2⟩ := BX2.out.facts
      go_wp2_with fail
      refine (HP.out _).mono ?_; rintro e w3 ⟨rfl, rfl⟩
      go_wp2_with fail
      obtain ⟨e0, e1, e2, hb⟩ := tok_ret BX2.out (.int .i64 0) (.string ⟨#[]⟩) (.int .i64 0) HB2.out (by omega)
      refine bodyPost_ret (v := .tuple #[.agg #[.int .i64 0, .string ⟨#[]⟩, .int .i64 0], .int .i64 0]) ?_ rfl ⟨by rw [HR.out]; rfl, hb⟩
      simp [results, Tryz.f25, go_sem, e0, e1, e2]
    · have t1 : decide (15 < (a : Int)) = false := decide_eq_false (by omega)
      obtain ⟨y, hy⟩ : ∃ y, y = (⟨(fracL (s.data.toList.take a) ((s.data.toList.drop (a + 1)).take 0)).toArray⟩ : ByteArray) := ⟨_, rfl⟩
      have HR : Hid (x = (3, y, a)) := by show _ = _; rw [HX.out, if_neg (by omega), hy]
      have FR := Lib.hid (FR.out (by omega) (by omega))
      rw [← hy] at FR
      clear HX hy
      go_enter Tryz.func25, Tryz.ntmps25
      go_wp2_with fail
      generalize (w.alloc (.cells #[.int .i64 0, .string ⟨#[]⟩, .int .i64 0] 37)) = w1 at *
      rw [← s1]
      refine (R1.out _).mono ?_; rintro e w2 ⟨rfl, hb2⟩
      have BX2 := Lib.hid (BX.out.go hb2); have HB2 := Lib.hid (bstep HB.out hb2)
      clear hb2 R1 BX HB
      go_wp2_with fail
      refine (HP.out _).mono ?_; rintro e w3 ⟨rfl, rfl⟩
      go_wp2_with fail
      refine (FR.out _ HB2.out).mono ?_; rintro e w5 ⟨rfl, hb2⟩
      have BX5 := Lib.hid (BX2.out.go (hb2)); have HB5 := Lib.hid (bstep HB2.out hb2)
      clear hb2
      obtain ⟨x0, x1, x2, f0, f1, f2⟩ := BX5.out.facts
      go_wp2_with fail
      obtain ⟨e0, e1, e2, hb⟩ := tok_ret BX5.out (.int .i64 3) (.string y) (.int .i64 0) HB5.out (by omega)
      refine bodyPost_ret (v := .tuple #[.agg #[.int .i64 3, .string y, .int .i64 0], .int .i64 ((a : Nat) : Int)]) ?_ rfl ⟨by rw [HR.out], hb⟩
      simp [results, Tryz.f25, go_sem, e0, e1, e2]
  · rw [hk] at HP
    have hp1 : p = pre (inC digC) (s.data.toList.drop (a + 1)) := by rw [hp]; unfold placesT; rw [hk]; rfl
    have ha1 : a + 1 ≤ s.size := by
      obtain ⟨u, hu⟩ := has_one hk
      have h2 : (s.data.toList.drop a).length = u.length + 1 := by rw [hu]; rfl
      rw [List.length_drop, Array.length_toList] at h2
      have : s.data.size = s.size := rfl
      omega
    rw [← hp1] at R2
    clear hk hp hp1
    by_cases hpp : 0 < p
    · have hn : numLen a p = a + (1 + p) := by unfold numLen; rw [if_pos hpp]
      rw [hn] at HX FR hnl
      have w1 : wrap64 (1 + (p : Int)) = ((1 + p : Nat) : Int) := by unfold wrap64; omega
      have w2 : wrap64 ((a : Int) + ((1 + p : Nat) : Int)) = ((a + (1 + p) : Nat) : Int) := wadd (Nat.le_trans hnl hs2)
      have W1 := Lib.hid w1; have W2 := Lib.hid w2
      clear w1 w2 hn
      have t0 : decide (0 < (p : Int)) = true := decide_eq_true (by omega)
      by_cases hbad : 15 < a ∨ 15 < p
      · by_cases h1 : 15 < a
        · have t1 : decide (15 < (a : Int)) = true := decide_eq_true (by omega)
          have HR : Hid (x = noT) := by show _ = _; rw [HX.out, if_pos (by omega)]
          clear FR HX
          clear hbad h1
          go_enter Tryz.func25, Tryz.ntmps25
          go_wp2_with fail
          generalize (w.alloc (.cells #[.int .i64 0, .string ⟨#[]⟩, .int .i64 0] 37)) = w1 at *
          rw [← s1]
          refine (R1.out _).mono ?_; rintro e w2 ⟨rfl, hb2⟩
          have BX2 := Lib.hid (BX.out.go hb2); have HB2 := Lib.hid (bstep HB.out hb2)
          clear hb2 R1 BX HB
          go_wp2_with fail
          refine (HP.out _).mono ?_; rintro e w3 ⟨rfl, rfl⟩
          go_wp2_with fail
          refine (R2.out _).mono ?_; rintro e w4 ⟨rfl, hb2⟩
          have BX4 := Lib.hid (BX2.out.go hb2); have HB4 := Lib.hid (bstep HB2.out hb2)
          clear hb2 BX2 HB2
          have BX2 := BX4; have HB2 := HB4
          clear BX4 HB4
          obtain ⟨x0, x1, x2, f0, f1, f2⟩ := BX2.out.facts
          go_wp2_with fail
          obtain ⟨e0, e1, e2, hb⟩ := tok_ret BX2.out (.int .i64 0) (.string ⟨#[]⟩) (.int .i64 0) HB2.out (by omega)
          refine bodyPost_ret (v := .tuple #[.agg #[.int .i64 0, .string ⟨#[]⟩, .int .i64 0], .int .i64 0]) ?_ rfl ⟨by rw [HR.out]; rfl, hb⟩
          simp [results, Tryz.f25, go_sem, e0, e1, e2]
        · have t1 : decide (15 < (a : Int)) = false := decide_eq_false (by omega)
          have t2 : decide (15 < (p : Int)) = true := decide_eq_true (by omega)
          have HR : Hid (x = noT) := by show _ = _; rw [HX.out, if_pos (by omega)]
          clear FR HX
          clear hbad h1
          go_enter Tryz.func25, Tryz.ntmps25
          go_wp2_with fail
          generalize (w.alloc (.cells #[.int .i64 0, .string ⟨#[]⟩, .int .i64 0] 37)) = w1 at *
          rw [← s1]
          refine (R1.out _).mono ?_; rintro e w2 ⟨rfl, hb2⟩
          have BX2 := Lib.hid (BX.out.go hb2); have HB2 := Lib.hid (bstep HB.out hb2)
          clear hb2 R1 BX HB
          go_wp2_with fail
          refine (HP.out _).mono ?_; rintro e w3 ⟨rfl, rfl⟩
          go_wp2_with fail
          refine (R2.out _).mono ?_; rintro e w4 ⟨rfl, hb2⟩
          have BX4 := Lib.hid (BX2.out.go hb2); have HB4 := Lib.hid (bstep HB2.out hb2)
          clear hb2 BX2 HB2
          have BX2 := BX4; have HB2 := HB4
          clear BX4 HB4
          obtain ⟨x0, x1, x2, f0, f1, f2⟩ := BX2.out.facts
          go_wp2_with fail
          obtain ⟨e0, e1, e2, hb⟩ := tok_ret BX2.out (.int .i64 0) (.string ⟨#[]⟩) (.int .i64 0) HB2.out (by omega)
          refine bodyPost_ret (v := .tuple #[.agg #[.int .i64 0, .string ⟨#[]⟩, .int .i64 0], .int .i64 0]) ?_ rfl ⟨by rw [HR.out]; rfl, hb⟩
          simp [results, Tryz.f25, go_sem, e0, e1, e2]
      · have t1 : decide (15 < (a : Int)) = false := decide_eq_false (by omega)
        have t2 : decide (15 < (p : Int)) = false := decide_eq_false (by omega)
        obtain ⟨y, hy⟩ : ∃ y, y = (⟨(fracL (s.data.toList.take a) ((s.data.toList.drop (a + 1)).take p)).toArray⟩ : ByteArray) := ⟨_, rfl⟩
        have HR : Hid (x = (3, y, a + (1 + p))) := by show _ = _; rw [HX.out, if_neg (by omega), hy]
        have FR := Lib.hid (FR.out (by omega) (by omega))
        rw [← hy] at FR
        clear HX hy
        go_enter Tryz.func25, Tryz.ntmps25
        go_wp2_with fail
        generalize (w.alloc (.cells #[.int .i64 0, .string ⟨#[]⟩, .int .i64 0] 37)) = w1 at *
        rw [← s1]
        refine (R1.out _).mono ?_; rintro e w2 ⟨rfl, hb2⟩
        have BX2 := Lib.hid (BX.out.go hb2); have HB2 := Lib.hid (bstep HB.out hb2)
        clear hb2 R1 BX HB
        go_wp2_with fail
        refine (HP.out _).mono ?_; rintro e w3 ⟨rfl, rfl⟩
        go_wp2_with fail
        refine (R2.out _).mono ?_; rintro e w4 ⟨rfl, hb2⟩
        have BX4 := Lib.hid (BX2.out.go hb2); have HB4 := Lib.hid (bstep HB2.out hb2)
        clear hb2 BX2 HB2
        have BX2 := BX4; have HB2 := HB4
        clear BX4 HB4
        go_wp2_with fail
        refine (FR.out _ HB2.out).mono ?_; rintro e w5 ⟨rfl, hb2⟩
        have BX5 := Lib.hid (BX2.out.go (hb2)); have HB5 := Lib.hid (bstep HB2.out hb2)
        clear hb2
        obtain ⟨x0, x1, x2, f0, f1, f2⟩ := BX5.out.facts
        go_wp2_with fail
        obtain ⟨e0, e1, e2, hb⟩ := tok_ret BX5.out (.int .i64 3) (.string y) (.int .i64 0) HB5.out (by omega)
        refine bodyPost_ret (v := .tuple #[.agg #[.int .i64 3, .string y, .int .i64 0], .int .i64 ((a + (1 + p) : Nat) : Int)]) ?_ rfl ⟨by rw [HR.out], hb⟩
        simp [results, Tryz.f25, go_sem, e0, e1, e2]
    · have hp0 : p = 0 := by omega
      subst hp0
      have hn : numLen a 0 = a := rfl
      rw [hn] at HX FR hnl
      by_cases hbad : 15 < a
      · have t1 : decide (15 < (a : Int)) = true := decide_eq_true (by omega)
        have HR : Hid (x = noT) := by show _ = _; rw [HX.out, if_pos (by omega)]
        clear FR HX
        clear hbad
        go_enter Tryz.func25, Tryz.ntmps25
        go_wp2_with fail
        generalize (w.alloc (.cells #[.int .i64 0, .string ⟨#[]⟩, .int .i64 0] 37)) = w1 at *
        rw [← s1]
        refine (R1.out _).mono ?_; rintro e w2 ⟨rfl, hb2⟩
        have BX2 := Lib.hid (BX.out.go hb2); have HB2 := Lib.hid (bstep HB.out hb2)
        clear hb2 R1 BX HB
        go_wp2_with fail
        refine (HP.out _).mono ?_; rintro e w3 ⟨rfl, rfl⟩
        go_wp2_with fail
        refine (R2.out _).mono ?_; rintro e w4 ⟨rfl, hb2⟩
        have BX4 := Lib.hid (BX2.out.go hb2); have HB4 := Lib.hid (bstep HB2.out hb2)
        clear hb2 BX2 HB2
        have BX2 := BX4; have HB2 := HB4
        clear BX4 HB4
        obtain ⟨x0, x1, x2, f0, f1, f2⟩ := BX2.out.facts
        go_wp2_with fail
        obtain ⟨e0, e1, e2, hb⟩ := tok_ret BX2.out (.int .i64 0) (.string ⟨#[]⟩) (.int .i64 0) HB2.out (by omega)
        refine bodyPost_ret (v := .tuple #[.agg #[.int .i64 0, .string ⟨#[]⟩, .int .i64 0], .int .i64 0]) ?_ rfl ⟨by rw [HR.out]; rfl, hb⟩
        simp [results, Tryz.f25, go_sem, e0, e1, e2]
      · have t1 : decide (15 < (a : Int)) = false := decide_eq_false (by omega)
        obtain ⟨y, hy⟩ : ∃ y, y = (⟨(fracL (s.data.toList.take a) ((s.data.toList.drop (a + 1)).take 0)).toArray⟩ : ByteArray) := ⟨_, rfl⟩
        have HR : Hid (x = (3, y, a)) := by show _ = _; rw [HX.out, if_neg (by omega), hy]
        have FR := Lib.hid (FR.out (by omega) (by omega))
        rw [← hy] at FR
        clear HX hy
        go_enter Tryz.func25, Tryz.ntmps25
        go_wp2_with fail
        generalize (w.alloc (.cells #[.int .i64 0, .string ⟨#[]⟩, .int .i64 0] 37)) = w1 at *
        rw [← s1]
        refine (R1.out _).mono ?_; rintro e w2 ⟨rfl, hb2⟩
        have BX2 := Lib.hid (BX.out.go hb2); have HB2 := Lib.hid (bstep HB.out hb2)
        clear hb2 R1 BX HB
        go_wp2_with fail
        refine (HP.out _).mono ?_; rintro e w3 ⟨rfl, rfl⟩
        go_wp2_with fail
        refine (R2.out _).mono ?_; rintro e w4 ⟨rfl, hb2⟩
        have BX4 := Lib.hid (BX2.out.go hb2); have HB4 := Lib.hid (bstep HB2.out hb2)
        clear hb2 BX2 HB2
        have BX2 := BX4; have HB2 := HB4
        clear BX4 HB4
        go_wp2_with fail
        refine (FR.out _ HB2.out).mono ?_; rintro e w5 ⟨rfl, hb2⟩
        have BX5 := Lib.hid (BX2.out.go (hb2)); have HB5 := Lib.hid (bstep HB2.out hb2)
        clear hb2
        obtain ⟨x0, x1, x2, f0, f1, f2⟩ := BX5.out.facts
        go_wp2_with fail
        obtain ⟨e0, e1, e2, hb⟩ := tok_ret BX5.out (.int .i64 3) (.string y) (.int .i64 0) HB5.out (by omega)
        refine bodyPost_ret (v := .tuple #[.agg #[.int .i64 3, .string y, .int .i64 0], .int .i64 ((a : Nat) : Int)]) ?_ rfl ⟨by rw [HR.out], hb⟩
        simp [results, Tryz.f25, go_sem, e0, e1, e2]
end Go.Proofs.YtegobakoflbnfaaGreatDoor

namespace Go.Proofs.YtegobakoflbnfaaGreatDoor
open Go Go.RowKit

/-- the class of a text's first byte -/
def cl0 (s : ByteArray) : Int := match s.data.toList with
  | [] => -1
  | b :: _ => classN b.toNat
def firstT (s : ByteArray) : T3 :=
  if cl0 s = 3 then wordT s else if cl0 s = 4 then numberT s else if cl0 s = 6 then quotedT s else if cl0 s = 7 then symT s else noT
theorem dig_head {b : UInt8} {l : List UInt8} (h : classN b.toNat = 4) : 0 < pre (inC digC) (b :: l) := by
  have : inC digC b = true := by unfold inC digC; rw [h]; decide
  unfold pre
  rw [List.takeWhile_cons, this]
  simp

set_option maxHeartbeats 4000000 in
set_option maxRecDepth 100000 in
theorem first_any (w : World) (s : ByteArray) (hs2 : s.size ≤ 140737488355328) (hm : MaxL w) (ht : Pow10 w) : Calls Tryz.prog 13 #[.string s] w (RetTok w (firstT s)) := by
  have BX0 := BoxT.new w (.int .i64 0) (.string ⟨#[]⟩) (.int .i64 0)
  have B0 := below_alloc w (.cells #[.int .i64 0, .string ⟨#[]⟩, .int .i64 0] 37)
  have s1 : (w.alloc (.cells #[.int .i64 0, .string ⟨#[]⟩, .int .i64 0] 37)).heap.size = w.heap.size + 1 := by simp
  obtain ⟨x, hx⟩ : ∃ x, x = firstT s := ⟨_, rfl⟩
  rw [← hx]
  have BX := Lib.hid BX0; have HB := Lib.hid B0
  clear BX0 B0
  by_cases h0 : s.size = 0
  · have hse : s = ⟨#[]⟩ := by apply ByteArray.ext; exact Array.eq_empty_of_size_eq_zero h0
    subst hse
    have HR : Hid (x = noT) := hx
    clear hx hm ht
    obtain ⟨x0, x1, x2, f0, f1, f2⟩ := BX.out.facts
    go_enter Tryz.func13, Tryz.ntmps13
    go_wp2_with fail
    refine bodyPost_ret (v := .tuple #[.agg #[.int .i64 0, .string ⟨#[]⟩, .int .i64 0], .int .i64 0]) ?_ rfl ⟨by rw [HR.out]; rfl, HB.out⟩
    simp [results, Tryz.f13, go_sem, x0, x1, x2]
  · have hs0 : 0 < s.size := Nat.pos_of_ne_zero h0
    obtain ⟨b, hbe⟩ : ∃ b, b = s[0] := ⟨_, rfl⟩
    obtain ⟨l, hl⟩ : ∃ l, s.data.toList = b :: l := by
      have h1 := Lib.data_getElem? s 0 hs0
      cases hd : s.data.toList with
      | nil => rw [hd] at h1; simp at h1
      | cons a l => rw [hd] at h1; simp at h1; exact ⟨l, by rw [h1, hbe]⟩
    have hcl : cl0 s = classN b.toNat := by unfold cl0; rw [hl]
    have CA := Lib.hid (fun W => class_any W b.toNat)
    obtain ⟨c, hc⟩ : ∃ c, c = classN b.toNat := ⟨_, rfl⟩
    rw [← hc] at CA hcl
    have hx2 : x = if c = 3 then wordT s else if c = 4 then numberT s else if c = 6 then quotedT s else if c = 7 then symT s else noT := by rw [hx]; unfold firstT; rw [hcl]
    have HX := Lib.hid hx2
    have hbi : (s[0].toNat : Int) = (b.toNat : Int) := by rw [hbe]
    have hne : s.toList.isEmpty = false := by rw [Lib.toList_data, hl]; rfl
    have hw32 : wrap32 (b.toNat : Int) = (b.toNat : Int) := by have := b.toNat_lt; unfold wrap32; omega
    have HW : Hid (∀ W, Below w.heap.size w W → Calls Tryz.prog 24 #[.string s] W (RetTok W (wordT s))) := fun W _ => word_any W s
    have HNU : Hid (c = 4 → ∀ W, Below w.heap.size w W → Calls Tryz.prog 25 #[.string s] W (RetTok W (numberT s))) := fun h4 W hb => number_any W s (by rw [hl]; exact dig_head (by rw [← hc, h4])) hs2 (hm.go hb) (ht.go hb)
    have HQ : Hid (∀ W, Below w.heap.size w W → Calls Tryz.prog 26 #[.string s] W (RetTok W (quotedT s))) := fun W _ => quoted_any W s hs0 hs2
    have HSY : Hid (∀ W, Below w.heap.size w W → Calls Tryz.prog 27 #[.string s] W (RetTok W (symT s))) := fun W _ => symbol_any W s hs0
    clear hx hx2 hcl hl hc hm ht
    by_cases hk3 : c = 3
    · have hk := hk3
      subst hk
      have HR : Hid (x = wordT s) := by show _ = _; rw [HX.out, if_pos rfl]
      have FX := Lib.hid (HW.out)
      clear HX HW HNU HQ HSY
      obtain ⟨y, hy⟩ : ∃ y, y = wordT s := ⟨_, rfl⟩
      rw [← hy] at FX HR
      clear hy
      go_enter Tryz.func13, Tryz.ntmps13
      go_wp2_with fail
      generalize (w.alloc (.cells #[.int .i64 0, .string ⟨#[]⟩, .int .i64 0] 37)) = w1 at *
      refine (CA.out _).mono ?_; rintro e w2 ⟨rfl, hb2⟩
      have BX2 := Lib.hid (BX.out.go hb2); have HB2 := Lib.hid (bstep HB.out hb2)
      clear hb2 BX HB
      go_wp2_with fail
      refine (FX.out _ HB2.out).mono ?_; rintro e w3 ⟨rfl, hb2⟩
      have BX3 := Lib.hid (BX2.out.go hb2); have HB3 := Lib.hid (bstep HB2.out hb2)
      clear hb2 BX2 HB2
      obtain ⟨x0, x1, x2, f0, f1, f2⟩ := BX3.out.facts
      go_wp2_with fail
      obtain ⟨e0, e1, e2, hb⟩ := tok_ret BX3.out (.int .i64 y.1) (.string y.2.1) (.int .i64 0) HB3.out (by omega)
      refine bodyPost_ret (v := .tuple #[.agg #[.int .i64 y.1, .string y.2.1, .int .i64 0], .int .i64 (y.2.2 : Nat)]) ?_ rfl ⟨by rw [HR.out], hb⟩
      simp [results, Tryz.f13, go_sem, e0, e1, e2]
    · have n3 : (c == 3) = false := by rw [beq_eq_false_iff_ne]; exact hk3
      by_cases hk4 : c = 4
      · have hk := hk4
        subst hk
        have HR : Hid (x = numberT s) := by show _ = _; rw [HX.out, if_neg (by decide), if_pos rfl]
        have FX := Lib.hid (HNU.out rfl)
        clear HX HW HNU HQ HSY
        obtain ⟨y, hy⟩ : ∃ y, y = numberT s := ⟨_, rfl⟩
        rw [← hy] at FX HR
        clear hy
        go_enter Tryz.func13, Tryz.ntmps13
        go_wp2_with fail
        generalize (w.alloc (.cells #[.int .i64 0, .string ⟨#[]⟩, .int .i64 0] 37)) = w1 at *
        refine (CA.out _).mono ?_; rintro e w2 ⟨rfl, hb2⟩
        have BX2 := Lib.hid (BX.out.go hb2); have HB2 := Lib.hid (bstep HB.out hb2)
        clear hb2 BX HB
        go_wp2_with fail
        refine (FX.out _ HB2.out).mono ?_; rintro e w3 ⟨rfl, hb2⟩
        have BX3 := Lib.hid (BX2.out.go hb2); have HB3 := Lib.hid (bstep HB2.out hb2)
        clear hb2 BX2 HB2
        obtain ⟨x0, x1, x2, f0, f1, f2⟩ := BX3.out.facts
        go_wp2_with fail
        obtain ⟨e0, e1, e2, hb⟩ := tok_ret BX3.out (.int .i64 y.1) (.string y.2.1) (.int .i64 0) HB3.out (by omega)
        refine bodyPost_ret (v := .tuple #[.agg #[.int .i64 y.1, .string y.2.1, .int .i64 0], .int .i64 (y.2.2 : Nat)]) ?_ rfl ⟨by rw [HR.out], hb⟩
        simp [results, Tryz.f13, go_sem, e0, e1, e2]
      · have n4 : (c == 4) = false := by rw [beq_eq_false_iff_ne]; exact hk4
        by_cases hk6 : c = 6
        · have hk := hk6
          subst hk
          have HR : Hid (x = quotedT s) := by show _ = _; rw [HX.out, if_neg (by decide), if_neg (by decide), if_pos rfl]
          have FX := Lib.hid (HQ.out)
          clear HX HW HNU HQ HSY
          obtain ⟨y, hy⟩ : ∃ y, y = quotedT s := ⟨_, rfl⟩
          rw [← hy] at FX HR
          clear hy
          go_enter Tryz.func13, Tryz.ntmps13
          go_wp2_with fail
          generalize (w.alloc (.cells #[.int .i64 0, .string ⟨#[]⟩, .int .i64 0] 37)) = w1 at *
          refine (CA.out _).mono ?_; rintro e w2 ⟨rfl, hb2⟩
          have BX2 := Lib.hid (BX.out.go hb2); have HB2 := Lib.hid (bstep HB.out hb2)
          clear hb2 BX HB
          go_wp2_with fail
          refine (FX.out _ HB2.out).mono ?_; rintro e w3 ⟨rfl, hb2⟩
          have BX3 := Lib.hid (BX2.out.go hb2); have HB3 := Lib.hid (bstep HB2.out hb2)
          clear hb2 BX2 HB2
          obtain ⟨x0, x1, x2, f0, f1, f2⟩ := BX3.out.facts
          go_wp2_with fail
          obtain ⟨e0, e1, e2, hb⟩ := tok_ret BX3.out (.int .i64 y.1) (.string y.2.1) (.int .i64 0) HB3.out (by omega)
          refine bodyPost_ret (v := .tuple #[.agg #[.int .i64 y.1, .string y.2.1, .int .i64 0], .int .i64 (y.2.2 : Nat)]) ?_ rfl ⟨by rw [HR.out], hb⟩
          simp [results, Tryz.f13, go_sem, e0, e1, e2]
        · have n6 : (c == 6) = false := by rw [beq_eq_false_iff_ne]; exact hk6
          by_cases hk7 : c = 7
          · have hk := hk7
            subst hk
            have HR : Hid (x = symT s) := by show _ = _; rw [HX.out, if_neg (by decide), if_neg (by decide), if_neg (by decide), if_pos rfl]
            have FX := Lib.hid (HSY.out)
            clear HX HW HNU HQ HSY
            obtain ⟨y, hy⟩ : ∃ y, y = symT s := ⟨_, rfl⟩
            rw [← hy] at FX HR
            clear hy
            go_enter Tryz.func13, Tryz.ntmps13
            go_wp2_with fail
            generalize (w.alloc (.cells #[.int .i64 0, .string ⟨#[]⟩, .int .i64 0] 37)) = w1 at *
            refine (CA.out _).mono ?_; rintro e w2 ⟨rfl, hb2⟩
            have BX2 := Lib.hid (BX.out.go hb2); have HB2 := Lib.hid (bstep HB.out hb2)
            clear hb2 BX HB
            go_wp2_with fail
            refine (FX.out _ HB2.out).mono ?_; rintro e w3 ⟨rfl, hb2⟩
            have BX3 := Lib.hid (BX2.out.go hb2); have HB3 := Lib.hid (bstep HB2.out hb2)
            clear hb2 BX2 HB2
            obtain ⟨x0, x1, x2, f0, f1, f2⟩ := BX3.out.facts
            go_wp2_with fail
            obtain ⟨e0, e1, e2, hb⟩ := tok_ret BX3.out (.int .i64 y.1) (.string y.2.1) (.int .i64 0) HB3.out (by omega)
            refine bodyPost_ret (v := .tuple #[.agg #[.int .i64 y.1, .string y.2.1, .int .i64 0], .int .i64 (y.2.2 : Nat)]) ?_ rfl ⟨by rw [HR.out], hb⟩
            simp [results, Tryz.f13, go_sem, e0, e1, e2]
          · have n7 : (c == 7) = false := by rw [beq_eq_false_iff_ne]; exact hk7
            have HR : Hid (x = noT) := by show _ = _; rw [HX.out, if_neg hk3, if_neg hk4, if_neg hk6, if_neg hk7]
            clear HX HW HNU HQ HSY hk3 hk4 hk6 hk7
            go_enter Tryz.func13, Tryz.ntmps13
            go_wp2_with fail
            generalize (w.alloc (.cells #[.int .i64 0, .string ⟨#[]⟩, .int .i64 0] 37)) = w1 at *
            refine (CA.out _).mono ?_; rintro e w2 ⟨rfl, hb2⟩
            have BX3 := Lib.hid (BX.out.go hb2); have HB3 := Lib.hid (bstep HB.out hb2)
            clear hb2 BX HB
            obtain ⟨x0, x1, x2, f0, f1, f2⟩ := BX3.out.facts
            go_wp2_with fail
            obtain ⟨e0, e1, e2, hb⟩ := tok_ret BX3.out (.int .i64 0) (.string ⟨#[]⟩) (.int .i64 0) HB3.out (by omega)
            refine bodyPost_ret (v := .tuple #[.agg #[.int .i64 0, .string ⟨#[]⟩, .int .i64 0], .int .i64 0]) ?_ rfl ⟨by rw [HR.out]; rfl, hb⟩
            simp [results, Tryz.f13, go_sem, e0, e1, e2]
end Go.Proofs.YtegobakoflbnfaaGreatDoor
