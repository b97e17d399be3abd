/- words, decimalOf. -/
import Derived.Test.YtegobakoflbnfaaDoorCu
namespace Go.Proofs.YtegobakoflbnfaaDoor
open Go Go.RowKit

def wordsO (l : List UInt8) : Option Nat :=
  if 30 < l.length then none else (puO (48 :: l.take (l.length - 15))).bind fun a => (puO (l.drop (l.length - 15))).map fun b => a * 1000000000000000 + b
set_option maxHeartbeats 4000000 in
set_option maxRecDepth 100000 in
theorem words_of (w : World) (s : ByteArray) (hs : s.size ≤ 140737488355328) (he : ErrV w) : Calls Tryd.prog 42 #[.string s] w fun e w' =>
    ((∃ n, wordsO s.data.toList = some n ∧ n / 18446744073709551616 < 18446744073709551616 ∧ e = .returned (.tuple #[.int .u64 ((n / 18446744073709551616 : Nat) : Int), .int .u64 ((n % 18446744073709551616 : Nat) : Int), .bool true])) ∨
      (wordsO s.data.toList = none ∧ e = .returned (.tuple #[.int .u64 0, .int .u64 0, .bool false]))) ∧ Below w.heap.size w w' := by
  have hsz : s.data.toList.length = s.size := Array.length_toList
  by_cases h30 : 30 < s.size
  · have t1 : decide (30 < (s.size : Int)) = true := decide_eq_true (by omega)
    have HR : Hid (wordsO s.data.toList = none) := by show _ = _; unfold wordsO; rw [if_pos (by omega)]
    clear h30 hsz hs he
    go_enter Tryd.func42, Tryd.ntmps42
    go_wp2_with fail
    refine bodyPost_ret (v := .tuple #[.int .u64 0, .int .u64 0, .bool false]) (by simp [results, Tryd.f42, go_sem]) rfl ⟨Or.inr ⟨HR.out, rfl⟩, Below.refl _ _⟩
  · have t1 : decide (30 < (s.size : Int)) = false := decide_eq_false (by omega)
    obtain ⟨m, hm⟩ : ∃ m, m = s.size - 15 := ⟨_, rfl⟩
    have hms : m ≤ s.size := by omega
    have hWO : wordsO s.data.toList = (puO (48 :: s.data.toList.take m)).bind fun a => (puO (s.data.toList.drop m)).map fun b => a * 1000000000000000 + b := by
      unfold wordsO
      rw [if_neg (by omega), hsz, ← hm]
    have HWO := Lib.hid hWO
    have hsub : wrap64 ((s.size : Int) - 15) = (s.size : Int) - 15 := by unfold wrap64; omega
    have hmax : max (0 : Int) ((s.size : Int) - 15) = (m : Int) := by omega
    have hsl1 : ∀ w, (Instr.slice 9 (.string s) none (some (.int .i64 (m : Int))) none).run Tryd.prog w = .ok (.string (s.extract 0 m)) w := fun w => by
      rw [run_slice_string_to_if w 9 s .i64 (m : Int) Tryd.underlying9, if_pos (by omega)]; rfl
    have hsl2 : ∀ w, (Instr.slice 9 (.string s) (some (.int .i64 (m : Int))) none none).run Tryd.prog w = .ok (.string (s.extract m s.size)) w := fun w => by
      rw [run_slice_string_from_if w 9 s .i64 (m : Int) Tryd.underlying9, if_pos (by omega)]; rfl
    have c1 : ¬ ((⟨#[48]⟩ : ByteArray).size + (s.extract 0 m).size > 9223372036854775807) := by
      have : (⟨#[48]⟩ : ByteArray).size = 1 := rfl
      rw [ByteArray.size_extract]; omega
    have P1 : Hid (∀ W, Below w.heap.size w W → Calls Tryd.prog 43 #[.string ((⟨#[48]⟩ : ByteArray) ++ s.extract 0 m), .int .i64 10, .int .i64 64] W fun e w' =>
      ((∃ u, puO (48 :: s.data.toList.take m) = some u ∧ u < 18446744073709551616 ∧ e = .returned (.tuple #[.int .u64 (u : Int), .nilIface])) ∨ (puO (48 :: s.data.toList.take m) = none ∧ ∃ x te pe, e = .returned (.tuple #[.int .u64 x, .iface te pe]))) ∧ Below W.heap.size W w') := fun W hb => by
      have h9 : (⟨#[48]⟩ : ByteArray).size = 1 := rfl
      have := pu_opt W ((⟨#[48]⟩ : ByteArray) ++ s.extract 0 m) (by rw [ByteArray.size_append, ByteArray.size_extract]; omega) (he.go hb)
      have e : ((⟨#[48]⟩ : ByteArray) ++ s.extract 0 m).data.toList = 48 :: s.data.toList.take m := by
        rw [ByteArray.data_append, Array.toList_append, toList_extract, List.drop_zero]; rfl
      rw [e] at this
      exact this
    have P2 : Hid (∀ W, Below w.heap.size w W → Calls Tryd.prog 43 #[.string (s.extract m s.size), .int .i64 10, .int .i64 64] W fun e w' =>
      ((∃ u, puO (s.data.toList.drop m) = some u ∧ u < 18446744073709551616 ∧ e = .returned (.tuple #[.int .u64 (u : Int), .nilIface])) ∨ (puO (s.data.toList.drop m) = none ∧ ∃ x te pe, e = .returned (.tuple #[.int .u64 x, .iface te pe]))) ∧ Below W.heap.size W w') := fun W hb => by
      have := pu_opt W (s.extract m s.size) (by rw [ByteArray.size_extract]; omega) (he.go hb)
      rw [toList_from] at this
      exact this
    have HSM := Lib.hid (And.intro hsub hmax)
    clear hm hWO hsz hs he h30
    go_enter Tryd.func42, Tryd.ntmps42
    go_wp2_with fail
    refine (P1.out _ (Below.refl _ _)).mono ?_; rintro e w2 ⟨hc, hb⟩
    have HB := Lib.hid hb; clear hb
    rcases hc with ⟨u, hu, hub, rfl⟩ | ⟨hu, x, te, pe, rfl⟩
    · have HU := Lib.hid hu
      clear hu
      go_wp2_with fail
      refine (P2.out _ HB.out).mono ?_; rintro e w3 ⟨hc, hb⟩
      have HB2 := Lib.hid (bstep HB.out hb); clear hb HB
      rcases hc with ⟨v, hv, hvb, rfl⟩ | ⟨hv, x, te, pe, rfl⟩
      · have MU := Lib.hid (fun W => Tryd.bits_Mul64 u 1000000000000000 hub (by omega) W)
        obtain ⟨q, hqe⟩ : ∃ q, q = u * 1000000000000000 := ⟨_, rfl⟩
        rw [← hqe] at MU
        obtain ⟨H, hH⟩ : ∃ H, H = q / 18446744073709551616 := ⟨_, rfl⟩
        obtain ⟨L, hL⟩ : ∃ L, L = q % 18446744073709551616 := ⟨_, rfl⟩
        rw [← hH, ← hL] at MU
        have hHb : H < 1000000000000000 := by
          rw [hH]
          refine Nat.div_lt_of_lt_mul ?_
          rw [hqe]
          exact Nat.mul_lt_mul_of_pos_right hub (by omega)
        obtain ⟨N, hNe⟩ : ∃ N, N = q + v := ⟨_, rfl⟩
        have HR : Hid (wordsO s.data.toList = some N) := by
          show _ = _
          rw [HWO.out, HU.out, hv, hNe, hqe]; rfl
        clear hqe
        have hNN : N = H * 18446744073709551616 + L + v := by omega
        have hL2 : L < 18446744073709551616 := by omega
        obtain ⟨L2, hL2e⟩ : ∃ x, x = (L + v) % 18446744073709551616 := ⟨_, rfl⟩
        obtain ⟨C2, hC2e⟩ : ∃ x, x = (L + v) / 18446744073709551616 := ⟨_, rfl⟩
        have hAD : ∀ W, (callFunc 57 #[.int .u64 (L : Int), .int .u64 (v : Int), .int .u64 0]).run Tryd.prog W = .ok (.value (.tuple #[.int .u64 (L2 : Int), .int .u64 (C2 : Int)])) W := fun W => by rw [add64_run, hL2e, hC2e]
        have hq : N / 18446744073709551616 = H + C2 := by omega
        have hr : N % 18446744073709551616 = L2 := by omega
        have hw : Hid (IntKind.u64.wrap ((H : Int) + (C2 : Int)) = ((H + C2 : Nat) : Int)) := by show _ = _; rw [← Int.natCast_add]; exact wu64 (by omega)
        have hNb : N / 18446744073709551616 < 18446744073709551616 := by rw [hq]; omega
        have HQ := Lib.hid hq; have HRR := Lib.hid hr; have HNB := Lib.hid hNb
        clear hH hL hNe hNb hNN hL2 hHb hL2e hC2e hq hr hub hvb hv
        go_wp2_with fail
        refine (MU.out _).mono ?_; rintro e w4 ⟨rfl, rfl⟩
        go_wp2_with fail
        refine bodyPost_ret (v := .tuple #[.int .u64 (IntKind.u64.wrap ((H : Int) + (C2 : Int))), .int .u64 (L2 : Int), .bool true]) (by simp [results, Tryd.f42, go_sem]) rfl ⟨Or.inl ⟨N, HR.out, HNB.out, by rw [HQ.out, HRR.out, hw.out]⟩, HB2.out⟩
      · have HR : Hid (wordsO s.data.toList = none) := by
          show _ = _
          rw [HWO.out, HU.out, hv]; rfl
        clear hv
        go_wp2_with fail
        refine bodyPost_ret (v := .tuple #[.int .u64 0, .int .u64 0, .bool false]) (by simp [results, Tryd.f42, go_sem]) rfl ⟨Or.inr ⟨HR.out, rfl⟩, HB2.out⟩
    · have HR : Hid (wordsO s.data.toList = none) := by
        show _ = _
        rw [HWO.out, hu]; rfl
      clear hu
      go_wp2_with fail
      refine (P2.out _ HB.out).mono ?_; rintro e w3 ⟨hc, hb⟩
      have HB2 := Lib.hid (bstep HB.out hb); clear hb HB
      rcases hc with ⟨v, hv, hvb, rfl⟩ | ⟨hv, x2, te2, pe2, rfl⟩
      · clear hv hvb
        go_wp2_with fail
        refine bodyPost_ret (v := .tuple #[.int .u64 0, .int .u64 0, .bool false]) (by simp [results, Tryd.f42, go_sem]) rfl ⟨Or.inr ⟨HR.out, rfl⟩, HB2.out⟩
      · clear hv
        go_wp2_with fail
        refine bodyPost_ret (v := .tuple #[.int .u64 0, .int .u64 0, .bool false]) (by simp [results, Tryd.f42, go_sem]) rfl ⟨Or.inr ⟨HR.out, rfl⟩, HB2.out⟩
end Go.Proofs.YtegobakoflbnfaaDoor
