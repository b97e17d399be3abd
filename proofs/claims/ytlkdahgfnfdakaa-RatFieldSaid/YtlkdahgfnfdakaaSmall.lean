import Derived.Test.YtlkdahgfnfdakaaMinus
namespace Go.Proofs.Ytlkdahgfnfdakaa
open Go.RowKit WN

theorem isZero_any (l : List Nat) (n cap : Nat) (oa : Option Addr) (w : World) (hn : n ≤ 1000000000000) (hr : Rep w .u32 (.slice oa n cap) l) :
    Calls Try.prog 98 #[.slice oa n cap] w fun e w' => e = .returned (.bool (decide (l = []))) ∧ w = w' := by
  obtain ⟨rfl, _⟩ := hr.len
  clear hr
  have hb : Hid (decide (l = []) = ((l.length : Int) == 0)) := by
    show _ = _
    cases l with
    | nil => rfl
    | cons x l => simp; omega
  go_enter Try.func98, Try.ntmps98
  go_wp2
  go_ret
  exact ⟨by rw [hb.out]; rfl, rfl⟩

theorem one_any (w : World) :
    Calls Try.prog 99 #[] w fun e w' => ∃ v, e = .returned v ∧ Rep w' .u32 v [1] ∧ Below w.heap.size w w' := by
  go_enter Try.func99, Try.ntmps99
  go_wp2
  go_ret
  have h : Row (w.alloc (.cells #[.int .u32 1] 117)) w.heap.size .u32 117 [1] := Row.new w .u32 117 [1]
  exact ⟨_, rfl, Rep.rowAll h 1 (by simp), (Below.refl _ _).alloc (Nat.le_refl _) _⟩

theorem isOne_any (l : List Nat) (n cap : Nat) (oa : Option Addr) (w : World) (hn : n ≤ 1000000000000) (hr : Rep w .u32 (.slice oa n cap) l) :
    Calls Try.prog 96 #[.slice oa n cap] w fun e w' => e = .returned (.bool (decide (l = [1]))) ∧ w = w' := by
  obtain ⟨rfl, _⟩ := hr.len
  by_cases h1 : l.length = 1
  · obtain ⟨x, rfl⟩ : ∃ x, l = [x] := List.length_eq_one_iff.1 h1
    obtain ⟨b, off, rfl, _, hc⟩ := hr.at' (Below.refl _ _) 0 (by simp)
    have hb : Hid (decide ([x] = [1]) = ((x : Int) == 1)) := by show _ = _; by_cases hx : x = 1 <;> simp [hx] <;> omega
    simp only [List.length_cons, List.length_nil, Nat.zero_add, List.getElem_cons_zero, Nat.add_zero] at hc ⊢
    clear hr h1
    go_enter Try.func96, Try.ntmps96
    go_wp2
    go_ret
    exact ⟨by rw [hb.out]; rfl, rfl⟩
  · have hb : Hid (decide (l = [1]) = false) := by show _ = _; simp; intro h; rw [h] at h1; simp at h1
    have ht : ((l.length : Int) == 1) = false := by rw [beq_eq_false_iff_ne]; omega
    clear hr h1
    go_enter Try.func96, Try.ntmps96
    go_wp2
    go_ret
    exact ⟨by rw [hb.out]; rfl, rfl⟩

theorem isOdd_any (l : List Nat) (n cap : Nat) (oa : Option Addr) (w : World) (hn : n ≤ 1000000000000) (hr : Rep w .u32 (.slice oa n cap) l) :
    Calls Try.prog 119 #[.slice oa n cap] w fun e w' => e = .returned (.bool (decide (val 1000000000 l % 2 = 1))) ∧ w = w' := by
  obtain ⟨rfl, _⟩ := hr.len
  cases l with
  | nil =>
    have ht : decide ((0 : Int) < 0) = false := rfl
    simp only [List.length_nil]
    clear hr
    go_enter Try.func119, Try.ntmps119
    go_wp2
    go_ret
    exact ⟨by simp, rfl⟩
  | cons x l =>
    obtain ⟨b, off, rfl, _, hc⟩ := hr.at' (Below.refl _ _) 0 (by simp)
    simp only [List.getElem_cons_zero, Nat.add_zero] at hc ⊢
    have hb : Hid (decide (val 1000000000 (x :: l) % 2 = 1) = ((x : Int) % 2 == 1)) := by
      show _ = _
      rw [val_cons]
      generalize val 1000000000 l = y
      by_cases h : x % 2 = 1
      · have h1 : (x : Int) % 2 = 1 := by omega
        have h2 : (x + 1000000000 * y) % 2 = 1 := by omega
        simp [h1, h2]
      · have h1 : ¬ (x : Int) % 2 = 1 := by omega
        have h2 : ¬ (x + 1000000000 * y) % 2 = 1 := by omega
        simp [h1, h2]
    have hl : 0 < (x :: l).length := by simp
    generalize (x :: l).length = n at *
    clear hr
    go_enter Try.func119, Try.ntmps119
    go_wp2
    go_ret
    exact ⟨by rw [hb.out]; rfl, rfl⟩
end Go.Proofs.Ytlkdahgfnfdakaa
