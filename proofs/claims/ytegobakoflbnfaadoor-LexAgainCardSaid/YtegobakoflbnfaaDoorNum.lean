/- digits: a text of digits alone. -/
import Derived.Test.YtegobakoflbnfaaDoorZ
namespace Go.Proofs.YtegobakoflbnfaaDoor
open Go Go.RowKit

def dgB (s : ByteArray) : Bool := s.data.toList.all (fun b => isDg b.toNat) && decide (0 < s.size)

set_option maxHeartbeats 4000000 in
set_option maxRecDepth 100000 in
theorem digits_any (w : World) (s : ByteArray) (hs : s.size ≤ 140737488355328) : Calls Tryd.prog 19 #[.string s] w fun e w' => e = .returned (.bool (dgB s)) ∧ w' = w := by
  go_enter Tryd.func19, Tryd.ntmps19
  go_wp2_with fail
  go_loopw [3] (fun v3 wr => ∃ n : Nat, v3 = .int .i64 (n : Int) ∧ n ≤ s.size ∧ wr = w ∧ Hid ((s.data.toList.take n).all (fun b => isDg b.toNat) = true)) (fun v3 _ => s.size - (intOf v3).toNat)
  case atStart => exact ⟨0, rfl, Nat.zero_le _, rfl, rfl⟩
  case round =>
    obtain ⟨n, rfl, hn, rfl, HA⟩ := hrel
    have hsz : s.data.toList.length = s.size := Array.length_toList
    by_cases hlt : n < s.size
    · have hb := Lib.data_getElem? s n hlt
      obtain ⟨b, hbe⟩ : ∃ b, b = s[n] := ⟨_, rfl⟩
      rw [← hbe] at hb
      have hbi : (s[n].toNat : Int) = (b.toNat : Int) := by rw [hbe]
      have HEND : Hid (isDg b.toNat = false → dgB s = false) := fun h => by
        unfold dgB
        have : s.data.toList.all (fun b => isDg b.toNat) = false := by
          rw [List.all_eq_false]
          exact ⟨b, List.mem_of_getElem? hb, by rw [h]; simp⟩
        rw [this]; rfl
      have HGO : Hid (isDg b.toNat = true → (s.data.toList.take (n + 1)).all (fun b => isDg b.toNat) = true) := fun h => by
        rw [List.take_add_one, hb, List.all_append, HA.out]; simp [h]
      have HW := Lib.hid (wadd (a := n) (b := 1) (by omega))
      have HLT := Lib.hid hlt
      have hl2 : (n : Int) < (s.size : Int) := by omega
      clear hb hsz
      by_cases h1 : b.toNat < 48
      · have HR := Lib.hid (HEND.out (by unfold isDg; exact decide_eq_false (by omega)))
        have h1' : (b.toNat : Int) < 48 := by omega
        go_wp2_with fail
        go_ret
        exact ⟨by rw [HR.out]; rfl, rfl⟩
      · have h1' : ¬ (b.toNat : Int) < 48 := by omega
        by_cases h2 : 57 < b.toNat
        · have HR := Lib.hid (HEND.out (by unfold isDg; exact decide_eq_false (by omega)))
          have h2' : (57 : Int) < (b.toNat : Int) := by omega
          go_wp2_with fail
          go_ret
          exact ⟨by rw [HR.out]; rfl, rfl⟩
        · have HG2 := Lib.hid (HGO.out (by unfold isDg; exact decide_eq_true (by omega)))
          have h2' : ¬ (57 : Int) < (b.toNat : Int) := by omega
          go_wp2_with fail
          go_roundw
          case rel => exact ⟨n + 1, by first | exact congrArg (Value.int .i64) (by omega) | go_num, HLT.out, trivial, HG2⟩
          case measure => have := HLT.out; simp [intOf]; omega
    · have hns : n = s.size := by omega
      subst hns
      have hl2 : ¬ (s.size : Int) < (s.size : Int) := by omega
      have HR : Hid (dgB s = decide (0 < s.size)) := by
        show _ = _
        unfold dgB
        have h9 := HA.out
        rw [← hsz, List.take_length] at h9
        rw [h9]; rfl
      clear hlt hsz
      go_wp2_with fail
      go_ret
      exact ⟨by rw [HR.out]; simp, rfl⟩
end Go.Proofs.YtegobakoflbnfaaDoor
