/- written, isToken: any token. -/
import Derived.Test.YtegobakoflbnfaaDoorDf
namespace Go.Proofs.YtegobakoflbnfaaDoor
open Go Go.RowKit

def writT (k : Int) (s : ByteArray) : ByteArray := if k = 3 then ⟨(decO s.data.toList).toArray⟩ else if k = 4 then (⟨#[34]⟩ : ByteArray) ++ s ++ ⟨#[34]⟩ else s
set_option maxHeartbeats 4000000 in
set_option maxRecDepth 100000 in
theorem written_any (w : World) (k : Int) (s : ByteArray) (p : Int) (hs : s.size ≤ 140737488351232) (he : ErrV w) (ht : Pow10 w) : Calls Tryd.prog 25 #[.agg #[.int .i64 k, .string s, .int .i64 p]] w fun e w' => e = .returned (.string (writT k s)) ∧ Below w.heap.size w w' := by
  have BX0 := BoxT.new w (.int .i64 k) (.string s) (.int .i64 p)
  have B0 := below_alloc w (.cells #[.int .i64 k, .string s, .int .i64 p] 36)
  have DA : Hid (∀ W, Below w.heap.size w W → Calls Tryd.prog 30 #[.string s] W fun e w' => e = .returned (.string ⟨(decO s.data.toList).toArray⟩) ∧ Below W.heap.size W w') := fun W hb => decimal_any W s (by omega) (he.go hb) (ht.go hb)
  have HB := Lib.hid B0; have BX := Lib.hid BX0
  have h34 : (⟨#[34]⟩ : ByteArray).size = 1 := rfl
  have c1 : ¬ ((⟨#[34]⟩ : ByteArray).size + s.size > 9223372036854775807) := by omega
  have c2 : ¬ (((⟨#[34]⟩ : ByteArray) ++ s).size + (⟨#[34]⟩ : ByteArray).size > 9223372036854775807) := by rw [ByteArray.size_append]; omega
  have C1 := Lib.hid c1; have C2 := Lib.hid c2
  obtain ⟨x0, x1, x2, f0, f1, f2⟩ := BX.out.facts
  clear BX0 B0 h34 c1 c2 hs he ht
  by_cases h3 : k = 3
  · subst h3
    have HR : Hid (writT 3 s = ⟨(decO s.data.toList).toArray⟩) := rfl
    go_enter Tryd.func25, Tryd.ntmps25
    go_wp2_with fail
    refine (DA.out _ HB.out).mono ?_; rintro e w2 ⟨rfl, hb⟩
    have HB2 := Lib.hid (bstep HB.out hb); clear hb
    go_wp2_with fail
    go_ret
    exact ⟨by rw [HR.out]; rfl, HB2.out⟩
  · have k3 : (k == 3) = false := by rw [beq_eq_false_iff_ne]; exact h3
    by_cases h4 : k = 4
    · subst h4
      have HR : Hid (writT 4 s = (⟨#[34]⟩ : ByteArray) ++ s ++ ⟨#[34]⟩) := rfl
      have c1 := C1.out; have c2 := C2.out
      go_enter Tryd.func25, Tryd.ntmps25
      go_wp2_with fail
      go_ret
      exact ⟨by rw [HR.out]; rfl, HB.out⟩
    · have k4 : (k == 4) = false := by rw [beq_eq_false_iff_ne]; exact h4
      have HR : Hid (writT k s = s) := by show _ = _; unfold writT; rw [if_neg h3, if_neg h4]
      clear h3 h4
      go_enter Tryd.func25, Tryd.ntmps25
      go_wp2_with fail
      go_ret
      exact ⟨by rw [HR.out]; rfl, HB.out⟩
theorem decO_len (l : List UInt8) : (decO l).length ≤ l.length + 60 := by
  unfold decO
  split
  · omega
  · split
    · rename_i n d hn hd
      split
      · simp
      · rename_i hge
        split
        · rename_i p hp
          rw [List.length_append, List.length_append]
          have hd0 : 0 < d := by omega
          have hdb : d < 18446744073709551616 := by
            unfold puO at hd
            cases hq : Lib.parseUintB 64 (Lib.cut l [47]).2.1
            case ok u =>
              rw [hq] at hd
              have := Lib.parseUintB_le hq
              simp at hd
              omega
            all_goals (rw [hq] at hd; cases hd)
          have hp1 : p < 16 := by
            unfold decPl at hp
            have := List.mem_of_find?_eq_some hp
            simpa using this
          have hp2 : 10 ^ p % d = 0 := by
            unfold decPl at hp
            have := List.find?_some hp
            simpa using this
          have h1 := mod_lt_pow hd0 (Nat.mod_lt n hd0) hp2
          have hP : 10 ^ p ≤ 10 ^ 15 := Nat.pow_le_pow_right (by decide) (by omega)
          have h15 : (10 : Nat) ^ 15 = 1000000000000000 := by decide
          have h2 := padL_len (n := n % d * (10 ^ p / d)) (d := p) (by omega) (by omega)
          have hw : n / d < 18446744073709551616 := by
            refine Nat.div_lt_of_lt_mul ?_
            have h3 : (n / 18446744073709551616 + 1) * 18446744073709551616 ≤ d * 18446744073709551616 := Nat.mul_le_mul_right _ (by omega)
            omega
          have h4 := dec_le20 hw
          simp only [List.length_singleton]
          omega
        · simp
    · simp
def isTokB (k : Int) (s : ByteArray) : Bool :=
  decide (0 < (firstT (writT k s)).2.2) && decide ((firstT (writT k s)).2.2 = (writT k s).size) && ((firstT (writT k s)).1 == k) && ((firstT (writT k s)).2.1.toList == s.toList)
set_option maxHeartbeats 4000000 in
set_option maxRecDepth 100000 in
theorem token_any (w : World) (k : Int) (s : ByteArray) (p : Int) (hs : s.size ≤ 140737488351232) (he : ErrV w) (hm : MaxL w) (ht : Pow10 w) : Calls Tryd.prog 20 #[.agg #[.int .i64 k, .string s, .int .i64 p]] w fun e w' => e = .returned (.bool (isTokB k s)) ∧ Below w.heap.size w w' := by
  have BX0 := BoxT.new w (.int .i64 k) (.string s) (.int .i64 p)
  have B0 := below_alloc w (.cells #[.int .i64 k, .string s, .int .i64 p] 36)
  have WR : Hid (∀ W, Below w.heap.size w W → Calls Tryd.prog 25 #[.agg #[.int .i64 k, .string s, .int .i64 p]] W fun e w' => e = .returned (.string (writT k s)) ∧ Below W.heap.size W w') := fun W hb => written_any W k s p hs (he.go hb) (ht.go hb)
  have hy : (writT k s).size ≤ 140737488355328 := by
    unfold writT
    split
    · have := decO_len s.data.toList
      have hsz : s.data.toList.length = s.size := Array.length_toList
      show (decO s.data.toList).toArray.size ≤ _
      rw [List.size_toArray]; omega
    · have h34 : (⟨#[34]⟩ : ByteArray).size = 1 := rfl
      split
      · rw [ByteArray.size_append, ByteArray.size_append]; omega
      · omega
  obtain ⟨y, hye⟩ : ∃ y, y = writT k s := ⟨_, rfl⟩
  have FI : Hid (∀ W, Below w.heap.size w W → Calls Tryd.prog 28 #[.string y] W (RetTok W (firstT y))) := fun W hb => first_any W y (by rw [hye]; exact hy) (hm.go hb) (ht.go hb)
  obtain ⟨b, hb⟩ : ∃ b, b = isTokB k s := ⟨_, rfl⟩
  rw [← hb]
  unfold isTokB at hb
  rw [← hye] at hb WR
  obtain ⟨x, hx⟩ : ∃ x, x = firstT y := ⟨_, rfl⟩
  rw [← hx] at hb FI
  obtain ⟨k2, t, n⟩ := x
  simp only [] at hb
  have HB := Lib.hid B0; have BX := Lib.hid BX0; have HBB := Lib.hid hb
  clear hx hb BX0 B0 hm ht hs he hy hye
  obtain ⟨x0, x1, x2, f0, f1, f2⟩ := BX.out.facts
  go_enter Tryd.func20, Tryd.ntmps20
  go_wp2_with fail
  refine (WR.out _ HB.out).mono ?_; rintro e w2 ⟨rfl, hb2⟩
  have BX2 := Lib.hid (BX.out.go hb2); have HB2 := Lib.hid (bstep HB.out hb2); clear hb2 HB BX
  go_wp2_with fail
  refine (FI.out _ HB2.out).mono ?_; rintro e w3 ⟨rfl, hb3⟩
  have BX3 := Lib.hid (BX2.out.go hb3); have HB3 := Lib.hid (bstep HB2.out hb3); clear hb3 HB2 BX2
  have BX4 := Lib.hid (BX3.out.go (below_alloc w3 (.cells #[.int .i64 k2, .string t, .int .i64 0] 36)))
  have HB4 := Lib.hid (bstep HB3.out (below_alloc w3 (.cells #[.int .i64 k2, .string t, .int .i64 0] 36)))
  clear x0 x1 x2 f0 f1 f2
  obtain ⟨x0, x1, x2, f0, f1, f2⟩ := BX4.out.facts
  by_cases h0 : 0 < n
  · by_cases h1 : n = y.size
    · subst h1
      by_cases h2 : k2 = k
      · subst h2
        have HR : Hid (b = (t.toList == s.toList)) := by show _ = _; rw [HBB.out]; simp [h0]
        have kk : (k2 == k2) = true := beq_self_eq_true k2
        go_wp2_with fail
        go_ret
        exact ⟨by rw [HR.out]; rfl, HB4.out⟩
      · have HR : Hid (b = false) := by show _ = _; rw [HBB.out, show (k2 == k) = false from by rw [beq_eq_false_iff_ne]; exact h2]; simp
        have k0 : (k2 == k) = false := by rw [beq_eq_false_iff_ne]; exact h2
        go_wp2_with fail
        go_ret
        exact ⟨by rw [HR.out]; rfl, HB4.out⟩
    · have HR : Hid (b = false) := by show _ = _; rw [HBB.out, decide_eq_false h1]; simp
      have k0 : ((n : Int) == (y.size : Int)) = false := by rw [beq_eq_false_iff_ne]; omega
      go_wp2_with fail
      go_ret
      exact ⟨by rw [HR.out]; rfl, HB4.out⟩
  · have HR : Hid (b = false) := by show _ = _; rw [HBB.out, decide_eq_false h0]; simp
    obtain rfl : n = 0 := by omega
    go_wp2_with fail
    go_ret
    exact ⟨by rw [HR.out]; rfl, HB4.out⟩
end Go.Proofs.YtegobakoflbnfaaDoor
