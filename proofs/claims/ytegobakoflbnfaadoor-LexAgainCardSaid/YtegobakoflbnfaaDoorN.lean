/- math/bits.Div64. -/
import Derived.Test.YtegobakoflbnfaaDoorK
namespace Go.Proofs.YtegobakoflbnfaaDoor
open Go Go.RowKit

theorem stop_rg {P : Program} {Q : Exit → Act → World → Prop} {r : Nat} {ops : Array Oper} {b : Bool} {a : Act} {w : World} (h : Hid ((Code.region r ops b).wp P Q a w)) : (Code.region r ops b).wp P Q a w := h.out

theorem and_low (n : Nat) (h : n < 18446744073709551616) : bits .and .u64 (n : Int) 4294967295 = ((n % 4294967296 : Nat) : Int) := by
  have := bits_mask .u64 64 (by decide) wraps_u64 32 (by decide) (n : Int) (by omega) (by omega)
  have e1 : ((2 : Int) ^ 32 - 1) = 4294967295 := by decide
  have e2 : ((2 : Int) ^ 32) = 4294967296 := by decide
  rw [e1, e2] at this
  rw [this]; omega
/-- what the shift by s makes of the dividend -/
theorem sh_facts {hi lo y s : Nat} (hs : s < 64) (hl : lo < 18446744073709551616) (hy : hi < y) (hY2 : y * 2 ^ s < 18446744073709551616) : ∃ u L : Nat, bits .or .u64 (IntKind.u64.wrap ((hi : Int) * 2 ^ s)) ((lo : Int) / 2 ^ (64 - s)) = (u : Int) ∧ IntKind.u64.wrap ((lo : Int) * 2 ^ s) = (L : Int) ∧ L < 18446744073709551616 ∧ u < y * 2 ^ s ∧ u * 18446744073709551616 + L = (hi * 18446744073709551616 + lo) * 2 ^ s := by
  have hp := Nat.two_pow_pos s
  have e64 : 2 ^ (64 - s) * 2 ^ s = 18446744073709551616 := by rw [← Nat.pow_add, show 64 - s + s = 64 by omega]
  have hH : hi * 2 ^ s < y * 2 ^ s := (Nat.mul_lt_mul_right hp).2 hy
  have hlow : lo / 2 ^ (64 - s) < 2 ^ s := by
    apply (Nat.div_lt_iff_lt_mul (Nat.two_pow_pos _)).2
    rw [Nat.mul_comm, e64]; exact hl
  have hps : 2 ^ s ≤ 2 ^ 64 := Nat.pow_le_pow_right (by decide) (by omega)
  have hp64 : (2 : Nat) ^ 64 = 18446744073709551616 := by decide
  have hsplit : lo * 2 ^ s = lo / 2 ^ (64 - s) * 18446744073709551616 + lo * 2 ^ s % 18446744073709551616 := by
    have h1 : lo * 2 ^ s / 18446744073709551616 = lo / 2 ^ (64 - s) := by rw [← e64, Nat.mul_div_mul_right _ _ hp]
    rw [← h1, Nat.mul_comm (_ / _)]
    exact (Nat.div_add_mod _ _).symm
  have hsum : (hi * 2 ^ s + lo / 2 ^ (64 - s)) * 18446744073709551616 + lo * 2 ^ s % 18446744073709551616 = (hi * 18446744073709551616 + lo) * 2 ^ s := by
    rw [Nat.add_mul, Nat.add_mul, hsplit, Nat.mul_right_comm]
    omega
  have hmod := Nat.mod_lt (lo * 2 ^ s) (show 0 < 18446744073709551616 by decide)
  refine ⟨hi * 2 ^ s + lo / 2 ^ (64 - s), lo * 2 ^ s % 18446744073709551616, ?_, ?_, hmod, ?_, hsum⟩
  · have c1 : ((hi : Int) * 2 ^ s) = ((hi * 2 ^ s : Nat) : Int) := by push_cast; rfl
    have c2 : ((lo : Int) / 2 ^ (64 - s)) = ((lo / 2 ^ (64 - s) : Nat) : Int) := by push_cast; rfl
    have c3 : ((hi * 2 ^ s : Nat) : Int) % 2 ^ s = 0 := by
      have : ((2 : Int) ^ s) = ((2 ^ s : Nat) : Int) := by push_cast; rfl
      rw [this, ← Int.natCast_emod, Nat.mul_mod_left]; rfl
    rw [c1, c2, wu64 (by omega)]
    rw [bits_join .u64 64 (by decide) wraps_u64 s _ _ (by omega) c3 (by omega) (by omega) (by exact_mod_cast hlow) (by omega)]
    omega
  · have c1 : ((lo : Int) * 2 ^ s) = ((lo * 2 ^ s : Nat) : Int) := by push_cast; rfl
    rw [c1, IntKind.wrap_u64]; omega
  · have h1 : (hi * 18446744073709551616 + lo) * 2 ^ s < y * 18446744073709551616 * 2 ^ s := (Nat.mul_lt_mul_right hp).2 (by omega)
    rw [Nat.mul_right_comm] at h1
    generalize lo / 2 ^ (64 - s) = l1 at *
    generalize hi * 2 ^ s = h2 at *
    generalize lo * 2 ^ s % 18446744073709551616 = l2 at *
    generalize y * 2 ^ s = Y at *
    generalize (hi * 18446744073709551616 + lo) * 2 ^ s = N at *
    omega
set_option maxHeartbeats 6400000 in
set_option maxRecDepth 100000 in
theorem div_high (w : World) (hi lo y : Nat) (hh : 0 < hi) (hl : lo < 18446744073709551616) (hy : hi < y) (hy2 : y < 18446744073709551616) : Calls Tryd.prog 44 #[.int .u64 (hi : Int), .int .u64 (lo : Int), .int .u64 (y : Int)] w fun e w' => e = .returned (.tuple #[.int .u64 (((hi * 18446744073709551616 + lo) / y : Nat) : Int), .int .u64 (((hi * 18446744073709551616 + lo) % y : Nat) : Int)]) ∧ Below w.heap.size w w' := by
  have t1 : ((y : Int) == 0) = false := by rw [beq_eq_false_iff_ne]; omega
  have t2 : decide ((y : Int) ≤ (hi : Int)) = false := decide_eq_false (by omega)
  have t3 : ((hi : Int) == 0) = false := by rw [beq_eq_false_iff_ne]; omega
  obtain ⟨s, hs, hse, hY1, hY2⟩ := lz_shift (y := y) (by omega) hy2
  have LZ : Hid (∀ W, Calls Tryd.prog 60 #[.int .u64 (y : Int)] W fun e w' => e = .returned (.int .i64 (s : Int)) ∧ w' = W) := fun W => by
    have := Tryd.bits_LeadingZeros64 (y : Int) W (by omega) (by omega)
    rw [Int.toNat_natCast, hse] at this
    exact this
  have hsw : IntKind.u64.wrap (s : Int) = (s : Int) := wu64 (by omega)
  have HS := Lib.hid hsw
  have HSL := Lib.hid hs
  clear hse hsw
  obtain ⟨u, L, hu, hL, hLb, huY, hsum⟩ := sh_facts hs hl hy hY2
  obtain ⟨Y, hYe⟩ : ∃ Y, Y = y * 2 ^ s := ⟨_, rfl⟩
  rw [← hYe] at hY1 hY2 huY
  have hyw : IntKind.u64.wrap ((y : Int) * 2 ^ s) = (Y : Int) := by
    have c1 : ((y : Int) * 2 ^ s) = ((y * 2 ^ s : Nat) : Int) := by push_cast; rfl
    rw [c1, ← hYe]; exact wu64 hY2
  obtain ⟨Y1, hY1e⟩ : ∃ Y1, Y1 = Y / 4294967296 := ⟨_, rfl⟩
  obtain ⟨Y0, hY0e⟩ : ∃ Y0, Y0 = Y % 4294967296 := ⟨_, rfl⟩
  obtain ⟨v, hve⟩ : ∃ v, v = L / 4294967296 := ⟨_, rfl⟩
  obtain ⟨z, hze⟩ : ∃ z, z = L % 4294967296 := ⟨_, rfl⟩
  have hy1 : (Y : Int) / 4294967296 = (Y1 : Int) := by omega
  have hy0 : bits .and .u64 (Y : Int) 4294967295 = (Y0 : Int) := by rw [and_low _ hY2, hY0e]
  have hv1 : (L : Int) / 4294967296 = (v : Int) := by omega
  have hz0 : bits .and .u64 (L : Int) 4294967295 = (z : Int) := by rw [and_low _ hLb, hze]
  have hDG : DG Y Y1 Y0 u v ((u * 4294967296 + v) / Y) (u / Y1) (u % Y1) := dg_start (by omega) (by omega) (by omega) (by omega) huY (by omega)
  have hQ : IntKind.u64.wrap ((u : Int).tdiv (Y1 : Int)) = ((u / Y1 : Nat) : Int) := by
    rw [show (u : Int).tdiv (Y1 : Int) = ((u / Y1 : Nat) : Int) from rfl]
    have := Nat.div_le_self u Y1
    exact wu64 (by omega)
  have hR : IntKind.u64.wrap ((u : Int) - IntKind.u64.wrap (((u / Y1 : Nat) : Int) * (Y1 : Int))) = ((u % Y1 : Nat) : Int) := by
    have this := hDG.sum
    rw [← Int.natCast_mul]
    obtain ⟨p, hp⟩ : ∃ p, p = u / Y1 * Y1 := ⟨_, rfl⟩
    obtain ⟨r, hr⟩ : ∃ r, r = u % Y1 := ⟨_, rfl⟩
    rw [← hp, ← hr] at this
    rw [← hp, ← hr, IntKind.wrap_u64, IntKind.wrap_u64]; omega
  have hq1 : ¬ (IntKind.u64.wrap ((y : Int) * 2 ^ s) / 4294967296 = 0) := by rw [hyw]; omega
  have EY := Lib.hid hyw
  have E1 := Lib.hid hy1
  have E0 := Lib.hid hy0
  have EU := Lib.hid hu
  have EL := Lib.hid hL
  have EV := Lib.hid hv1
  have EZ := Lib.hid hz0
  have EQ := Lib.hid hQ
  have ER := Lib.hid hR
  have HDG := Lib.hid hDG
  have HSUM := Lib.hid hsum
  have HYE := Lib.hid hYe
  have HVE := Lib.hid hve
  have HZE := Lib.hid hze
  have HB : Hid (2147483648 ≤ Y1 ∧ Y < 18446744073709551616 ∧ z < 4294967296 ∧ 0 < y) := ⟨by omega, hY2, by omega, by omega⟩
  have HY1 : Y1 ≠ 0 := by omega
  clear hyw hy1 hy0 hu hL hv1 hz0 hQ hR hDG hsum hYe hve hze hY1e hY0e hY1 hY2 huY hLb hl
  go_enter Tryd.func44, Tryd.ntmps44
  go_wp2_with fail
  refine (LZ.out _).mono ?_; rintro e w1 ⟨rfl, rfl⟩
  go_wp2_with fail
  rename_i K hK
  simp only [EY.out, E1.out, E0.out, EU.out, EL.out, EV.out, EZ.out, EQ.out, ER.out]
  obtain ⟨q, hq⟩ : ∃ q, q = (u * 4294967296 + v) / Y := ⟨_, rfl⟩
  obtain ⟨Q, hQ⟩ : ∃ Q, Q = u / Y1 := ⟨_, rfl⟩
  obtain ⟨R, hR⟩ : ∃ R, R = u % Y1 := ⟨_, rfl⟩
  have HDG2 : Hid (DG Y Y1 Y0 u v q Q R) := by rw [hq, hQ, hR]; exact HDG
  rw [← hQ, ← hR]
  have HQ := Lib.hid hq
  clear hq hQ hR EQ ER EY E1 E0 EU EL EV EZ HDG
  have hYp : 0 < Y := Nat.lt_of_le_of_lt (Nat.zero_le u) HDG2.out.uY
  obtain ⟨u2, hu2⟩ : ∃ u2, u2 = (u * 4294967296 + v) % Y := ⟨_, rfl⟩
  have hu2Y : u2 < Y := by rw [hu2]; exact Nat.mod_lt _ hYp
  have EREST : Hid (IntKind.u64.wrap (IntKind.u64.wrap (IntKind.u64.wrap ((u : Int) * 4294967296) + (v : Int)) - IntKind.u64.wrap ((q : Int) * (Y : Int))) = (u2 : Int)) := by
    show _ = _
    rw [w_rest HDG2.out.lo HB.out.2.1 HDG2.out.hi, hu2, HQ.out, dg_rest]
  obtain ⟨q0, hq0⟩ : ∃ q0, q0 = (u2 * 4294967296 + z) / Y := ⟨_, rfl⟩
  have hDG3 : DG Y Y1 Y0 u2 z q0 (u2 / Y1) (u2 % Y1) := by
    rw [hq0]; exact dg_start HDG2.out.yy HDG2.out.y1 HDG2.out.y1' HDG2.out.y0 hu2Y HB.out.2.2.1
  have hu2b : u2 < 18446744073709551616 := by have := HB.out; omega
  have EQ2 : Hid (IntKind.u64.wrap ((u2 : Int).tdiv (Y1 : Int)) = ((u2 / Y1 : Nat) : Int)) := by
    show _ = _
    rw [show (u2 : Int).tdiv (Y1 : Int) = ((u2 / Y1 : Nat) : Int) from rfl]
    have := Nat.div_le_self u2 Y1
    exact wu64 (by omega)
  have ER2 : Hid (IntKind.u64.wrap ((u2 : Int) - IntKind.u64.wrap (((u2 / Y1 : Nat) : Int) * (Y1 : Int))) = ((u2 % Y1 : Nat) : Int)) := by
    show _ = _
    have this := hDG3.sum
    rw [← Int.natCast_mul]
    obtain ⟨p, hp⟩ : ∃ p, p = u2 / Y1 * Y1 := ⟨_, rfl⟩
    obtain ⟨r, hr⟩ : ∃ r, r = u2 % Y1 := ⟨_, rfl⟩
    rw [← hp, ← hr] at this
    rw [← hp, ← hr, IntKind.wrap_u64, IntKind.wrap_u64]; omega
  have hN : (hi * 18446744073709551616 + lo) * 2 ^ s = (u * 4294967296 + v) * 4294967296 + z := by
    rw [← HSUM.out, HVE.out, HZE.out]; omega
  have hquo : (hi * 18446744073709551616 + lo) / y = q * 4294967296 + q0 := by
    rw [← Nat.mul_div_mul_right _ _ (Nat.two_pow_pos s), hN, ← HYE.out, dg_quo hYp, ← HQ.out, ← hu2, ← hq0]
  have hrem : ((hi * 18446744073709551616 + lo) % y) * 2 ^ s = u2 * 4294967296 + z - q0 * Y := by
    rw [← Nat.mul_mod_mul_right, hN, ← HYE.out, dg_rem, ← hu2, hq0, dg_rest]
  have hqB := HDG2.out.qB
  have hq0B := hDG3.qB
  have FIN1 : Hid (IntKind.u64.wrap (IntKind.u64.wrap ((q : Int) * 4294967296) + (q0 : Int)) = (((hi * 18446744073709551616 + lo) / y : Nat) : Int)) := by
    show _ = _
    rw [hquo, IntKind.wrap_u64, IntKind.wrap_u64]; omega
  have FIN2 : Hid (IntKind.u64.wrap (IntKind.u64.wrap (IntKind.u64.wrap ((u2 : Int) * 4294967296) + (z : Int)) - IntKind.u64.wrap ((q0 : Int) * (Y : Int))) / 2 ^ s = (((hi * 18446744073709551616 + lo) % y : Nat) : Int)) := by
    show _ = _
    rw [w_rest hDG3.lo HB.out.2.1 hDG3.hi, ← hrem]
    have : ((2 : Int) ^ s) = ((2 ^ s : Nat) : Int) := by push_cast; rfl
    rw [this, ← Int.natCast_ediv, Nat.mul_div_cancel _ (Nat.two_pow_pos s)]
  have HDG3 := Lib.hid hDG3
  clear hDG3 hYp hu2 hu2Y hq0 hu2b hN hquo hrem hqB hq0B
  go_loopw [15, 16] (fun a b wr => ∃ Q R : Nat, a = .int .u64 (Q : Int) ∧ b = .int .u64 (R : Int) ∧ wr = w1 ∧ Hid (DG Y Y1 Y0 u v q Q R)) (fun a _ _ => (intOf a).toNat)
  case atStart => exact ⟨Q, R, rfl, rfl, rfl, HDG2⟩
  case round =>
    clear HDG2
    obtain ⟨Q2, R2, rfl, rfl, rfl, HD⟩ := hrel
    by_cases hq : Q2 < 4294967296
    · have hlhs : IntKind.u64.wrap ((Q2 : Int) * (Y0 : Int)) = ((Q2 * Y0 : Nat) : Int) := w_lhs hq HD.out.y0
      have hrhs := w_rhs HD.out.rb HD.out.vB
      obtain ⟨m, hm⟩ : ∃ m, m = Q2 * Y0 := ⟨_, rfl⟩
      obtain ⟨k, hk⟩ : ∃ k, k = R2 * 4294967296 + v := ⟨_, rfl⟩
      rw [← hm] at hlhs
      rw [← hk] at hrhs
      have hqi : (Q2 : Int) < 4294967296 := by omega
      by_cases ht : k < m
      · have hti : (k : Int) < (m : Int) := by omega
        have ht2 : 4294967296 ≤ Q2 ∨ R2 * 4294967296 + v < Q2 * Y0 := Or.inr (by rw [← hm, ← hk]; exact ht)
        clear hm hk hq ht
        have HT2 := Lib.hid ht2
        have e1 : IntKind.u64.wrap ((Q2 : Int) - 1) = ((Q2 - 1 : Nat) : Int) := by
          have := HD.out.down ht2
          have := HD.out.le
          rw [IntKind.wrap_u64]; omega
        have e2 : IntKind.u64.wrap ((R2 : Int) + (Y1 : Int)) = ((R2 + Y1 : Nat) : Int) := by
          have := HD.out.rb
          have := HD.out.y1'
          rw [IntKind.wrap_u64]; omega
        have HE1 := Lib.hid e1
        have HE2 := Lib.hid e2
        have HQP : Hid (0 < Q2) := by show 0 < Q2; have := HD.out.down ht2; omega
        obtain ⟨r, hr⟩ : ∃ r, r = R2 + Y1 := ⟨_, rfl⟩
        have HR := Lib.hid hr
        rw [← hr] at e2
        clear e1 ht2
        by_cases hrr : r < 4294967296
        · have hri : decide (4294967296 ≤ IntKind.u64.wrap ((R2 : Int) + (Y1 : Int))) = false := decide_eq_false (by rw [e2]; omega)
          have HRR := Lib.hid hrr
          clear hrr hr e2
          go_wp2_with fail
          go_roundw
          case rel => exact ⟨Q2 - 1, R2 + Y1, congrArg (Value.int .u64) HE1.out, congrArg (Value.int .u64) HE2.out, trivial, HD.out.next HT2.out (by have h1 := HR.out; have h2 := HRR.out; omega)⟩
          case measure => have h1 := HE1.out; have h2 := HQP.out; first | (rw [h1]; simp [intOf]; omega) | (simp [intOf, h1]; omega)
        · have hri : decide (4294967296 ≤ IntKind.u64.wrap ((R2 : Int) + (Y1 : Int))) = true := decide_eq_true (by rw [e2]; omega)
          have hqq : Q2 - 1 = q := HD.out.broke HT2.out (by rw [← hr]; omega)
          have HE3 : Hid (IntKind.u64.wrap ((Q2 : Int) - 1) = (q : Int)) := by show _ = _; rw [HE1.out, hqq]
          clear hrr hr hqq e2
          go_wp2_with fail
          rw [HE3.out]
          simp only [EREST.out, EQ2.out, ER2.out]
          obtain ⟨A, hA⟩ : ∃ A, A = u2 / Y1 := ⟨_, rfl⟩
          obtain ⟨C, hC⟩ : ∃ C, C = u2 % Y1 := ⟨_, rfl⟩
          have HDG4 : Hid (DG Y Y1 Y0 u2 z q0 A C) := by rw [hA, hC]; exact HDG3
          rw [← hA, ← hC]
          clear hA hC EREST EQ2 ER2 HDG3 HD hqi
          try clear hti hlhs hrhs
          try clear hri
          try clear HT2 HE1 HE2 HQP HR HE3
          try clear hqd
          go_loopw [16, 18] (fun b a wr2 => ∃ Q R : Nat, b = .int .u64 (R : Int) ∧ a = .int .u64 (Q : Int) ∧ wr2 = wr ∧ Hid (DG Y Y1 Y0 u2 z q0 Q R)) (fun _ a _ => (intOf a).toNat)
          case atStart => exact ⟨A, C, rfl, rfl, rfl, HDG4⟩
          case round =>
            clear HDG4
            obtain ⟨Q4, R4, rfl, rfl, rfl, HD⟩ := hrel
            by_cases hq : Q4 < 4294967296
            · have hlhs : IntKind.u64.wrap ((Q4 : Int) * (Y0 : Int)) = ((Q4 * Y0 : Nat) : Int) := w_lhs hq HD.out.y0
              have hrhs := w_rhs HD.out.rb HD.out.vB
              obtain ⟨m, hm⟩ : ∃ m, m = Q4 * Y0 := ⟨_, rfl⟩
              obtain ⟨k, hk⟩ : ∃ k, k = R4 * 4294967296 + z := ⟨_, rfl⟩
              rw [← hm] at hlhs
              rw [← hk] at hrhs
              have hqi : (Q4 : Int) < 4294967296 := by omega
              by_cases ht : k < m
              · have hti : (k : Int) < (m : Int) := by omega
                have ht2 : 4294967296 ≤ Q4 ∨ R4 * 4294967296 + z < Q4 * Y0 := Or.inr (by rw [← hm, ← hk]; exact ht)
                clear hm hk hq ht
                have HT2 := Lib.hid ht2
                have e1 : IntKind.u64.wrap ((Q4 : Int) - 1) = ((Q4 - 1 : Nat) : Int) := by
                  have := HD.out.down ht2
                  have := HD.out.le
                  rw [IntKind.wrap_u64]; omega
                have e2 : IntKind.u64.wrap ((R4 : Int) + (Y1 : Int)) = ((R4 + Y1 : Nat) : Int) := by
                  have := HD.out.rb
                  have := HD.out.y1'
                  rw [IntKind.wrap_u64]; omega
                have HE1 := Lib.hid e1
                have HE2 := Lib.hid e2
                have HQP : Hid (0 < Q4) := by show 0 < Q4; have := HD.out.down ht2; omega
                obtain ⟨r, hr⟩ : ∃ r, r = R4 + Y1 := ⟨_, rfl⟩
                have HR := Lib.hid hr
                rw [← hr] at e2
                clear e1 ht2
                by_cases hrr : r < 4294967296
                · have hri : decide (4294967296 ≤ IntKind.u64.wrap ((R4 : Int) + (Y1 : Int))) = false := decide_eq_false (by rw [e2]; omega)
                  have HRR := Lib.hid hrr
                  clear hrr hr e2
                  go_wp2_with fail
                  go_roundw
                  case rel => exact ⟨Q4 - 1, R4 + Y1, congrArg (Value.int .u64) HE2.out, congrArg (Value.int .u64) HE1.out, trivial, HD.out.next HT2.out (by have h1 := HR.out; have h2 := HRR.out; omega)⟩
                  case measure => have h1 := HE1.out; have h2 := HQP.out; first | (rw [h1]; simp [intOf]; omega) | (simp [intOf, h1]; omega)
                · have hri : decide (4294967296 ≤ IntKind.u64.wrap ((R4 : Int) + (Y1 : Int))) = true := decide_eq_true (by rw [e2]; omega)
                  have hqq : Q4 - 1 = q0 := HD.out.broke HT2.out (by rw [← hr]; omega)
                  have HE3 : Hid (IntKind.u64.wrap ((Q4 : Int) - 1) = (q0 : Int)) := by show _ = _; rw [HE1.out, hqq]
                  clear hrr hr hqq e2
                  go_wp2_with fail
                  rw [HE3.out]
                  go_ret2
                  exact ⟨by rw [FIN1.out, FIN2.out]; rfl, Below.refl _ _⟩
              · have hti : decide (k < m) = false := decide_eq_false ht
                have hqd : decide (4294967296 ≤ (Q4 : Int)) = false := decide_eq_false (by omega)
                have hqq : q0 = Q4 := (HD.out.stays (by rw [← hm, ← hk]; omega)).symm
                clear hm hk hq ht
                go_wp2_with fail
                subst hqq
                skip
                go_ret2
                exact ⟨by rw [FIN1.out, FIN2.out]; rfl, Below.refl _ _⟩
            · have hqi : ¬ (Q4 : Int) < 4294967296 := by omega
              have ht2 : 4294967296 ≤ Q4 ∨ R4 * 4294967296 + z < Q4 * Y0 := Or.inl (by omega)
              clear hq
              have HT2 := Lib.hid ht2
              have e1 : IntKind.u64.wrap ((Q4 : Int) - 1) = ((Q4 - 1 : Nat) : Int) := by
                have := HD.out.down ht2
                have := HD.out.le
                rw [IntKind.wrap_u64]; omega
              have e2 : IntKind.u64.wrap ((R4 : Int) + (Y1 : Int)) = ((R4 + Y1 : Nat) : Int) := by
                have := HD.out.rb
                have := HD.out.y1'
                rw [IntKind.wrap_u64]; omega
              have HE1 := Lib.hid e1
              have HE2 := Lib.hid e2
              have HQP : Hid (0 < Q4) := by show 0 < Q4; have := HD.out.down ht2; omega
              obtain ⟨r, hr⟩ : ∃ r, r = R4 + Y1 := ⟨_, rfl⟩
              have HR := Lib.hid hr
              rw [← hr] at e2
              clear e1 ht2
              by_cases hrr : r < 4294967296
              · have hri : decide (4294967296 ≤ IntKind.u64.wrap ((R4 : Int) + (Y1 : Int))) = false := decide_eq_false (by rw [e2]; omega)
                have HRR := Lib.hid hrr
                clear hrr hr e2
                go_wp2_with fail
                go_roundw
                case rel => exact ⟨Q4 - 1, R4 + Y1, congrArg (Value.int .u64) HE2.out, congrArg (Value.int .u64) HE1.out, trivial, HD.out.next HT2.out (by have h1 := HR.out; have h2 := HRR.out; omega)⟩
                case measure => have h1 := HE1.out; have h2 := HQP.out; first | (rw [h1]; simp [intOf]; omega) | (simp [intOf, h1]; omega)
              · have hri : decide (4294967296 ≤ IntKind.u64.wrap ((R4 : Int) + (Y1 : Int))) = true := decide_eq_true (by rw [e2]; omega)
                have hqq : Q4 - 1 = q0 := HD.out.broke HT2.out (by rw [← hr]; omega)
                have HE3 : Hid (IntKind.u64.wrap ((Q4 : Int) - 1) = (q0 : Int)) := by show _ = _; rw [HE1.out, hqq]
                clear hrr hr hqq e2
                go_wp2_with fail
                rw [HE3.out]
                go_ret2
                exact ⟨by rw [FIN1.out, FIN2.out]; rfl, Below.refl _ _⟩
      · have hti : decide (k < m) = false := decide_eq_false ht
        have hqd : decide (4294967296 ≤ (Q2 : Int)) = false := decide_eq_false (by omega)
        have hqq : q = Q2 := (HD.out.stays (by rw [← hm, ← hk]; omega)).symm
        clear hm hk hq ht
        go_wp2_with fail
        subst hqq
        skip
        simp only [EREST.out, EQ2.out, ER2.out]
        obtain ⟨A, hA⟩ : ∃ A, A = u2 / Y1 := ⟨_, rfl⟩
        obtain ⟨C, hC⟩ : ∃ C, C = u2 % Y1 := ⟨_, rfl⟩
        have HDG4 : Hid (DG Y Y1 Y0 u2 z q0 A C) := by rw [hA, hC]; exact HDG3
        rw [← hA, ← hC]
        clear hA hC EREST EQ2 ER2 HDG3 HD hqi
        try clear hti hlhs hrhs
        try clear hri
        try clear HT2 HE1 HE2 HQP HR HE3
        try clear hqd
        go_loopw [16, 18] (fun b a wr2 => ∃ Q R : Nat, b = .int .u64 (R : Int) ∧ a = .int .u64 (Q : Int) ∧ wr2 = wr ∧ Hid (DG Y Y1 Y0 u2 z q0 Q R)) (fun _ a _ => (intOf a).toNat)
        case atStart => exact ⟨A, C, rfl, rfl, rfl, HDG4⟩
        case round =>
          clear HDG4
          obtain ⟨Q4, R4, rfl, rfl, rfl, HD⟩ := hrel
          by_cases hq : Q4 < 4294967296
          · have hlhs : IntKind.u64.wrap ((Q4 : Int) * (Y0 : Int)) = ((Q4 * Y0 : Nat) : Int) := w_lhs hq HD.out.y0
            have hrhs := w_rhs HD.out.rb HD.out.vB
            obtain ⟨m, hm⟩ : ∃ m, m = Q4 * Y0 := ⟨_, rfl⟩
            obtain ⟨k, hk⟩ : ∃ k, k = R4 * 4294967296 + z := ⟨_, rfl⟩
            rw [← hm] at hlhs
            rw [← hk] at hrhs
            have hqi : (Q4 : Int) < 4294967296 := by omega
            by_cases ht : k < m
            · have hti : (k : Int) < (m : Int) := by omega
              have ht2 : 4294967296 ≤ Q4 ∨ R4 * 4294967296 + z < Q4 * Y0 := Or.inr (by rw [← hm, ← hk]; exact ht)
              clear hm hk hq ht
              have HT2 := Lib.hid ht2
              have e1 : IntKind.u64.wrap ((Q4 : Int) - 1) = ((Q4 - 1 : Nat) : Int) := by
                have := HD.out.down ht2
                have := HD.out.le
                rw [IntKind.wrap_u64]; omega
              have e2 : IntKind.u64.wrap ((R4 : Int) + (Y1 : Int)) = ((R4 + Y1 : Nat) : Int) := by
                have := HD.out.rb
                have := HD.out.y1'
                rw [IntKind.wrap_u64]; omega
              have HE1 := Lib.hid e1
              have HE2 := Lib.hid e2
              have HQP : Hid (0 < Q4) := by show 0 < Q4; have := HD.out.down ht2; omega
              obtain ⟨r, hr⟩ : ∃ r, r = R4 + Y1 := ⟨_, rfl⟩
              have HR := Lib.hid hr
              rw [← hr] at e2
              clear e1 ht2
              by_cases hrr : r < 4294967296
              · have hri : decide (4294967296 ≤ IntKind.u64.wrap ((R4 : Int) + (Y1 : Int))) = false := decide_eq_false (by rw [e2]; omega)
                have HRR := Lib.hid hrr
                clear hrr hr e2
                go_wp2_with fail
                go_roundw
                case rel => exact ⟨Q4 - 1, R4 + Y1, congrArg (Value.int .u64) HE2.out, congrArg (Value.int .u64) HE1.out, trivial, HD.out.next HT2.out (by have h1 := HR.out; have h2 := HRR.out; omega)⟩
                case measure => have h1 := HE1.out; have h2 := HQP.out; first | (rw [h1]; simp [intOf]; omega) | (simp [intOf, h1]; omega)
              · have hri : decide (4294967296 ≤ IntKind.u64.wrap ((R4 : Int) + (Y1 : Int))) = true := decide_eq_true (by rw [e2]; omega)
                have hqq : Q4 - 1 = q0 := HD.out.broke HT2.out (by rw [← hr]; omega)
                have HE3 : Hid (IntKind.u64.wrap ((Q4 : Int) - 1) = (q0 : Int)) := by show _ = _; rw [HE1.out, hqq]
                clear hrr hr hqq e2
                go_wp2_with fail
                rw [HE3.out]
                go_ret2
                exact ⟨by rw [FIN1.out, FIN2.out]; rfl, Below.refl _ _⟩
            · have hti : decide (k < m) = false := decide_eq_false ht
              have hqd : decide (4294967296 ≤ (Q4 : Int)) = false := decide_eq_false (by omega)
              have hqq : q0 = Q4 := (HD.out.stays (by rw [← hm, ← hk]; omega)).symm
              clear hm hk hq ht
              go_wp2_with fail
              subst hqq
              skip
              go_ret2
              exact ⟨by rw [FIN1.out, FIN2.out]; rfl, Below.refl _ _⟩
          · have hqi : ¬ (Q4 : Int) < 4294967296 := by omega
            have ht2 : 4294967296 ≤ Q4 ∨ R4 * 4294967296 + z < Q4 * Y0 := Or.inl (by omega)
            clear hq
            have HT2 := Lib.hid ht2
            have e1 : IntKind.u64.wrap ((Q4 : Int) - 1) = ((Q4 - 1 : Nat) : Int) := by
              have := HD.out.down ht2
              have := HD.out.le
              rw [IntKind.wrap_u64]; omega
            have e2 : IntKind.u64.wrap ((R4 : Int) + (Y1 : Int)) = ((R4 + Y1 : Nat) : Int) := by
              have := HD.out.rb
              have := HD.out.y1'
              rw [IntKind.wrap_u64]; omega
            have HE1 := Lib.hid e1
            have HE2 := Lib.hid e2
            have HQP : Hid (0 < Q4) := by show 0 < Q4; have := HD.out.down ht2; omega
            obtain ⟨r, hr⟩ : ∃ r, r = R4 + Y1 := ⟨_, rfl⟩
            have HR := Lib.hid hr
            rw [← hr] at e2
            clear e1 ht2
            by_cases hrr : r < 4294967296
            · have hri : decide (4294967296 ≤ IntKind.u64.wrap ((R4 : Int) + (Y1 : Int))) = false := decide_eq_false (by rw [e2]; omega)
              have HRR := Lib.hid hrr
              clear hrr hr e2
              go_wp2_with fail
              go_roundw
              case rel => exact ⟨Q4 - 1, R4 + Y1, congrArg (Value.int .u64) HE2.out, congrArg (Value.int .u64) HE1.out, trivial, HD.out.next HT2.out (by have h1 := HR.out; have h2 := HRR.out; omega)⟩
              case measure => have h1 := HE1.out; have h2 := HQP.out; first | (rw [h1]; simp [intOf]; omega) | (simp [intOf, h1]; omega)
            · have hri : decide (4294967296 ≤ IntKind.u64.wrap ((R4 : Int) + (Y1 : Int))) = true := decide_eq_true (by rw [e2]; omega)
              have hqq : Q4 - 1 = q0 := HD.out.broke HT2.out (by rw [← hr]; omega)
              have HE3 : Hid (IntKind.u64.wrap ((Q4 : Int) - 1) = (q0 : Int)) := by show _ = _; rw [HE1.out, hqq]
              clear hrr hr hqq e2
              go_wp2_with fail
              rw [HE3.out]
              go_ret2
              exact ⟨by rw [FIN1.out, FIN2.out]; rfl, Below.refl _ _⟩
    · have hqi : ¬ (Q2 : Int) < 4294967296 := by omega
      have ht2 : 4294967296 ≤ Q2 ∨ R2 * 4294967296 + v < Q2 * Y0 := Or.inl (by omega)
      clear hq
      have HT2 := Lib.hid ht2
      have e1 : IntKind.u64.wrap ((Q2 : Int) - 1) = ((Q2 - 1 : Nat) : Int) := by
        have := HD.out.down ht2
        have := HD.out.le
        rw [IntKind.wrap_u64]; omega
      have e2 : IntKind.u64.wrap ((R2 : Int) + (Y1 : Int)) = ((R2 + Y1 : Nat) : Int) := by
        have := HD.out.rb
        have := HD.out.y1'
        rw [IntKind.wrap_u64]; omega
      have HE1 := Lib.hid e1
      have HE2 := Lib.hid e2
      have HQP : Hid (0 < Q2) := by show 0 < Q2; have := HD.out.down ht2; omega
      obtain ⟨r, hr⟩ : ∃ r, r = R2 + Y1 := ⟨_, rfl⟩
      have HR := Lib.hid hr
      rw [← hr] at e2
      clear e1 ht2
      by_cases hrr : r < 4294967296
      · have hri : decide (4294967296 ≤ IntKind.u64.wrap ((R2 : Int) + (Y1 : Int))) = false := decide_eq_false (by rw [e2]; omega)
        have HRR := Lib.hid hrr
        clear hrr hr e2
        go_wp2_with fail
        go_roundw
        case rel => exact ⟨Q2 - 1, R2 + Y1, congrArg (Value.int .u64) HE1.out, congrArg (Value.int .u64) HE2.out, trivial, HD.out.next HT2.out (by have h1 := HR.out; have h2 := HRR.out; omega)⟩
        case measure => have h1 := HE1.out; have h2 := HQP.out; first | (rw [h1]; simp [intOf]; omega) | (simp [intOf, h1]; omega)
      · have hri : decide (4294967296 ≤ IntKind.u64.wrap ((R2 : Int) + (Y1 : Int))) = true := decide_eq_true (by rw [e2]; omega)
        have hqq : Q2 - 1 = q := HD.out.broke HT2.out (by rw [← hr]; omega)
        have HE3 : Hid (IntKind.u64.wrap ((Q2 : Int) - 1) = (q : Int)) := by show _ = _; rw [HE1.out, hqq]
        clear hrr hr hqq e2
        go_wp2_with fail
        rw [HE3.out]
        simp only [EREST.out, EQ2.out, ER2.out]
        obtain ⟨A, hA⟩ : ∃ A, A = u2 / Y1 := ⟨_, rfl⟩
        obtain ⟨C, hC⟩ : ∃ C, C = u2 % Y1 := ⟨_, rfl⟩
        have HDG4 : Hid (DG Y Y1 Y0 u2 z q0 A C) := by rw [hA, hC]; exact HDG3
        rw [← hA, ← hC]
        clear hA hC EREST EQ2 ER2 HDG3 HD hqi
        try clear hti hlhs hrhs
        try clear hri
        try clear HT2 HE1 HE2 HQP HR HE3
        try clear hqd
        go_loopw [16, 18] (fun b a wr2 => ∃ Q R : Nat, b = .int .u64 (R : Int) ∧ a = .int .u64 (Q : Int) ∧ wr2 = wr ∧ Hid (DG Y Y1 Y0 u2 z q0 Q R)) (fun _ a _ => (intOf a).toNat)
        case atStart => exact ⟨A, C, rfl, rfl, rfl, HDG4⟩
        case round =>
          clear HDG4
          obtain ⟨Q4, R4, rfl, rfl, rfl, HD⟩ := hrel
          by_cases hq : Q4 < 4294967296
          · have hlhs : IntKind.u64.wrap ((Q4 : Int) * (Y0 : Int)) = ((Q4 * Y0 : Nat) : Int) := w_lhs hq HD.out.y0
            have hrhs := w_rhs HD.out.rb HD.out.vB
            obtain ⟨m, hm⟩ : ∃ m, m = Q4 * Y0 := ⟨_, rfl⟩
            obtain ⟨k, hk⟩ : ∃ k, k = R4 * 4294967296 + z := ⟨_, rfl⟩
            rw [← hm] at hlhs
            rw [← hk] at hrhs
            have hqi : (Q4 : Int) < 4294967296 := by omega
            by_cases ht : k < m
            · have hti : (k : Int) < (m : Int) := by omega
              have ht2 : 4294967296 ≤ Q4 ∨ R4 * 4294967296 + z < Q4 * Y0 := Or.inr (by rw [← hm, ← hk]; exact ht)
              clear hm hk hq ht
              have HT2 := Lib.hid ht2
              have e1 : IntKind.u64.wrap ((Q4 : Int) - 1) = ((Q4 - 1 : Nat) : Int) := by
                have := HD.out.down ht2
                have := HD.out.le
                rw [IntKind.wrap_u64]; omega
              have e2 : IntKind.u64.wrap ((R4 : Int) + (Y1 : Int)) = ((R4 + Y1 : Nat) : Int) := by
                have := HD.out.rb
                have := HD.out.y1'
                rw [IntKind.wrap_u64]; omega
              have HE1 := Lib.hid e1
              have HE2 := Lib.hid e2
              have HQP : Hid (0 < Q4) := by show 0 < Q4; have := HD.out.down ht2; omega
              obtain ⟨r, hr⟩ : ∃ r, r = R4 + Y1 := ⟨_, rfl⟩
              have HR := Lib.hid hr
              rw [← hr] at e2
              clear e1 ht2
              by_cases hrr : r < 4294967296
              · have hri : decide (4294967296 ≤ IntKind.u64.wrap ((R4 : Int) + (Y1 : Int))) = false := decide_eq_false (by rw [e2]; omega)
                have HRR := Lib.hid hrr
                clear hrr hr e2
                go_wp2_with fail
                go_roundw
                case rel => exact ⟨Q4 - 1, R4 + Y1, congrArg (Value.int .u64) HE2.out, congrArg (Value.int .u64) HE1.out, trivial, HD.out.next HT2.out (by have h1 := HR.out; have h2 := HRR.out; omega)⟩
                case measure => have h1 := HE1.out; have h2 := HQP.out; first | (rw [h1]; simp [intOf]; omega) | (simp [intOf, h1]; omega)
              · have hri : decide (4294967296 ≤ IntKind.u64.wrap ((R4 : Int) + (Y1 : Int))) = true := decide_eq_true (by rw [e2]; omega)
                have hqq : Q4 - 1 = q0 := HD.out.broke HT2.out (by rw [← hr]; omega)
                have HE3 : Hid (IntKind.u64.wrap ((Q4 : Int) - 1) = (q0 : Int)) := by show _ = _; rw [HE1.out, hqq]
                clear hrr hr hqq e2
                go_wp2_with fail
                rw [HE3.out]
                go_ret2
                exact ⟨by rw [FIN1.out, FIN2.out]; rfl, Below.refl _ _⟩
            · have hti : decide (k < m) = false := decide_eq_false ht
              have hqd : decide (4294967296 ≤ (Q4 : Int)) = false := decide_eq_false (by omega)
              have hqq : q0 = Q4 := (HD.out.stays (by rw [← hm, ← hk]; omega)).symm
              clear hm hk hq ht
              go_wp2_with fail
              subst hqq
              skip
              go_ret2
              exact ⟨by rw [FIN1.out, FIN2.out]; rfl, Below.refl _ _⟩
          · have hqi : ¬ (Q4 : Int) < 4294967296 := by omega
            have ht2 : 4294967296 ≤ Q4 ∨ R4 * 4294967296 + z < Q4 * Y0 := Or.inl (by omega)
            clear hq
            have HT2 := Lib.hid ht2
            have e1 : IntKind.u64.wrap ((Q4 : Int) - 1) = ((Q4 - 1 : Nat) : Int) := by
              have := HD.out.down ht2
              have := HD.out.le
              rw [IntKind.wrap_u64]; omega
            have e2 : IntKind.u64.wrap ((R4 : Int) + (Y1 : Int)) = ((R4 + Y1 : Nat) : Int) := by
              have := HD.out.rb
              have := HD.out.y1'
              rw [IntKind.wrap_u64]; omega
            have HE1 := Lib.hid e1
            have HE2 := Lib.hid e2
            have HQP : Hid (0 < Q4) := by show 0 < Q4; have := HD.out.down ht2; omega
            obtain ⟨r, hr⟩ : ∃ r, r = R4 + Y1 := ⟨_, rfl⟩
            have HR := Lib.hid hr
            rw [← hr] at e2
            clear e1 ht2
            by_cases hrr : r < 4294967296
            · have hri : decide (4294967296 ≤ IntKind.u64.wrap ((R4 : Int) + (Y1 : Int))) = false := decide_eq_false (by rw [e2]; omega)
              have HRR := Lib.hid hrr
              clear hrr hr e2
              go_wp2_with fail
              go_roundw
              case rel => exact ⟨Q4 - 1, R4 + Y1, congrArg (Value.int .u64) HE2.out, congrArg (Value.int .u64) HE1.out, trivial, HD.out.next HT2.out (by have h1 := HR.out; have h2 := HRR.out; omega)⟩
              case measure => have h1 := HE1.out; have h2 := HQP.out; first | (rw [h1]; simp [intOf]; omega) | (simp [intOf, h1]; omega)
            · have hri : decide (4294967296 ≤ IntKind.u64.wrap ((R4 : Int) + (Y1 : Int))) = true := decide_eq_true (by rw [e2]; omega)
              have hqq : Q4 - 1 = q0 := HD.out.broke HT2.out (by rw [← hr]; omega)
              have HE3 : Hid (IntKind.u64.wrap ((Q4 : Int) - 1) = (q0 : Int)) := by show _ = _; rw [HE1.out, hqq]
              clear hrr hr hqq e2
              go_wp2_with fail
              rw [HE3.out]
              go_ret2
              exact ⟨by rw [FIN1.out, FIN2.out]; rfl, Below.refl _ _⟩
set_option maxHeartbeats 6400000 in
set_option maxRecDepth 100000 in
theorem div_low (w : World) (lo y : Nat) (hl : lo < 18446744073709551616) (hy : 0 < y) (hy2 : y < 18446744073709551616) : Calls Tryd.prog 44 #[.int .u64 0, .int .u64 (lo : Int), .int .u64 (y : Int)] w fun e w' => e = .returned (.tuple #[.int .u64 ((lo / y : Nat) : Int), .int .u64 ((lo % y : Nat) : Int)]) ∧ Below w.heap.size w w' := by
  have t1 : ((y : Int) == 0) = false := by rw [beq_eq_false_iff_ne]; omega
  have t2 : decide ((y : Int) ≤ 0) = false := decide_eq_false (by omega)
  have t3 : ¬ (y : Int) = 0 := by omega
  have HW : Hid (IntKind.u64.wrap ((lo : Int) / (y : Int)) = ((lo / y : Nat) : Int)) := by
    show _ = _
    rw [show (lo : Int) / (y : Int) = ((lo / y : Nat) : Int) from rfl]
    have := Nat.div_le_self lo y
    exact wu64 (by omega)
  go_enter Tryd.func44, Tryd.ntmps44
  go_wp2_with fail
  go_region
  go_wp2_with fail
  go_ret2
  exact ⟨by rw [HW.out]; rfl, (Below.refl _ _).drew⟩
/-- math/bits.Div64 -/
theorem div_any (w : World) (hi lo y : Nat) (hl : lo < 18446744073709551616) (hy : hi < y) (hy2 : y < 18446744073709551616) : Calls Tryd.prog 44 #[.int .u64 (hi : Int), .int .u64 (lo : Int), .int .u64 (y : Int)] w fun e w' => e = .returned (.tuple #[.int .u64 (((hi * 18446744073709551616 + lo) / y : Nat) : Int), .int .u64 (((hi * 18446744073709551616 + lo) % y : Nat) : Int)]) ∧ Below w.heap.size w w' := by
  rcases Nat.eq_zero_or_pos hi with h0 | h0
  · subst h0
    rw [Nat.zero_mul, Nat.zero_add]
    exact div_low w lo y hl (by omega) hy2
  · exact div_high w hi lo y h0 hl hy hy2
end Go.Proofs.YtegobakoflbnfaaDoor
