/- Classes of bytes: what classOf says, and slices.Index, slices.Contains of classes. -/
import Derived.Test.YtegobakoflbnfaaDoorProg
import Derived.WalkKit
import Derived.Handy
import Derived.Lib.Hide
import Derived.IntWalk
import Derived.Lib.OthersKept
import Derived.Lib.TrimU
import Derived.Deep.LoopGhost
namespace Go.Proofs.YtegobakoflbnfaaDoor
open Go Go.RowKit

theorem wnat {n : Nat} (h : n < 9223372036854775807) : wrap64 ((n : Int) + 1) = ((n + 1 : Nat) : Int) := by unfold wrap64; omega

/-- a slice of classes in memory -/
def Cls (w : World) (v : Value) (l : List Int) : Prop := ∃ b off cap, v = .slice (some ⟨b, off, none⟩) l.length cap ∧ ∀ i, (hi : i < l.length) → w.cell? ⟨b, off + i, none⟩ = some (.int .i64 l[i])
theorem Cls.go {w w' : World} {v : Value} {l : List Int} (h : Cls w v l) (hb : Below w.heap.size w w') : Cls w' v l := by
  obtain ⟨b, off, cap, rfl, hc⟩ := h
  refine ⟨b, off, cap, rfl, fun i hi => ?_⟩
  have h1 := hc i hi
  exact (hb.cell (World.block_lt_of_cell? w _ h1)).trans h1

set_option maxHeartbeats 2000000 in
set_option maxRecDepth 100000 in
theorem index_any {w : World} {v : Value} {l : List Int} (hv : Cls w v l) (hn : l.length ≤ 1000) (c : Int) : Calls Tryd.prog 65 #[v, .int .i64 c] w fun e w' => (∃ k : Int, e = .returned (.int .i64 k) ∧ (0 ≤ k ↔ c ∈ l)) ∧ w' = w := by
  obtain ⟨b, off, cap, rfl, hc⟩ := hv
  have HC := Lib.hid hc; clear hc
  obtain ⟨n, hl⟩ : ∃ n, l.length = n := ⟨_, rfl⟩
  rw [hl] at hn
  rw [hl]
  have HL := Lib.hid hl; have HN := Lib.hid hn; clear hl hn
  go_enter Tryd.func65, Tryd.ntmps65
  go_wp2_with fail
  go_loopw [8] (fun v8 wr => ∃ i : Nat, i ≤ n ∧ v8 = .int .i64 (i : Nat) ∧ wr = w ∧ Hid (∀ x ∈ l.take i, x ≠ c)) (fun vi _ => n - (intOf vi).toNat)
  case atStart => exact ⟨0, Nat.zero_le _, rfl, rfl, by rw [List.take_zero]; intro x hx; cases hx⟩
  case round =>
    obtain ⟨i, hi, rfl, rfl, hno⟩ := hrel
    have HW := Lib.hid (wnat (n := i) (by have := HN.out; omega))
    have HNO := Lib.hid hno.out; clear hno
    by_cases hlt : i < n
    · have hli : i < l.length := by rw [HL.out]; exact hlt
      have hc := HC.out i hli
      have HT : Hid (l.take (i + 1) = l.take i ++ [l[i]]) := by show _ = _; rw [List.take_add_one, List.getElem?_eq_getElem hli]; rfl
      have HM : Hid (l[i] ∈ l) := List.getElem_mem hli
      generalize l[i] = a at *
      have HLT := Lib.hid hlt
      by_cases hac : c = a
      · subst hac
        go_wp2_with fail
        go_ret
        exact ⟨⟨_, rfl, ⟨fun _ => HM.out, fun _ => by omega⟩⟩, rfl⟩
      · have te : (c == a) = false := by rw [beq_eq_false_iff_ne]; exact hac
        have HAC := Lib.hid hac; clear hac hi hlt
        go_wp2_with fail
        go_roundw
        case rel => exact ⟨i + 1, HLT.out, by first | exact congrArg (Value.int .i64) HW.out | go_num, by first | trivial | rfl, by rw [HT.out]; intro x hx; rcases List.mem_append.1 hx with hx | hx; exact HNO.out x hx; simp at hx; subst hx; exact fun h => HAC.out h.symm⟩
        case measure => have := HLT.out; first | (rw [HW.out]; simp [intOf]; omega) | (simp [intOf]; omega)
    · have hin : i = n := by omega
      have HF : Hid (c ∉ l) := fun h => by
        have h1 := HNO.out
        rw [List.take_of_length_le (by rw [HL.out]; omega)] at h1
        exact h1 c h rfl
      clear HNO
      go_wp2_with fail
      go_ret
      exact ⟨⟨-1, rfl, ⟨fun h => absurd h (by omega), fun h => absurd h HF.out⟩⟩, rfl⟩
set_option maxHeartbeats 2000000 in
set_option maxRecDepth 100000 in
theorem contains_any {w : World} {v : Value} {l : List Int} (hv : Cls w v l) (hn : l.length ≤ 1000) (c : Int) : Calls Tryd.prog 50 #[v, .int .i64 c] w fun e w' => e = .returned (.bool (decide (c ∈ l))) ∧ w' = w := by
  have IX := Lib.hid (index_any hv hn c)
  clear hv hn
  go_enter Tryd.func50, Tryd.ntmps50
  go_wp2_with fail
  refine IX.out.mono ?_; rintro e w1 ⟨⟨k, rfl, hk⟩, rfl⟩
  have HK : Hid (decide (0 ≤ k) = decide (c ∈ l)) := by
    show _ = _
    by_cases h : 0 ≤ k
    · rw [decide_eq_true h, decide_eq_true (hk.1 h)]
    · rw [decide_eq_false h, decide_eq_false (fun h2 => h (hk.2 h2))]
  clear hk
  go_wp2_with fail
  go_ret
  exact ⟨by rw [← HK.out]; rfl, rfl⟩
end Go.Proofs.YtegobakoflbnfaaDoor
