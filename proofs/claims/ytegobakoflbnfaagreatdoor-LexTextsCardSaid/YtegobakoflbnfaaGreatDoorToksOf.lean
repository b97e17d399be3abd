/- An argument that is a list of tokens. -/
import Derived.Test.YtegobakoflbnfaaGreatDoorGl
import Derived.Test.YtegobakoflbnfaaGreatDoorZ
import Derived.Carry
import Derived.ChangeSlices
namespace Go.Proofs.YtegobakoflbnfaaGreatDoor
open Go.ChangeShapes Go.WideShapes Go.ChangeAt Go.RowKit
open Go.ChangeMaps (open_string shut_string)

theorem exists_list {α : Type} {P : Nat → α → Prop} : ∀ n : Nat, (∀ i, i < n → ∃ a, P i a) → ∃ L : List α, L.length = n ∧ ∀ i (hi : i < L.length), P i L[i]
  | 0, _ => ⟨[], rfl, fun i hi => by simp at hi⟩
  | n + 1, h => by
    obtain ⟨L, hl, hL⟩ := exists_list n (fun i hi => h i (by omega))
    obtain ⟨a, ha⟩ := h n (by omega)
    refine ⟨L ++ [a], by rw [List.length_append, hl]; rfl, fun i hi => ?_⟩
    rw [List.length_append, List.length_singleton] at hi
    by_cases e : i < L.length
    · rw [List.getElem_append_left e]; exact hL i e
    · have : i = n := by omega
      subst this
      rw [List.getElem_append_right (by omega)]
      simpa [hl] using ha
theorem three {α : Type} {l : List α} (h : l.length = 3) : ∃ a b c, l = [a, b, c] := by
  match l, h with
  | [a, b, c], _ => exact ⟨a, b, c, rfl⟩
set_option maxRecDepth 100000 in
theorem tok_elem {H : Type} {enc : TypeId × Value → H} {W : World} {sp : Nat → Bool} {hd : Bool} {n : Nat} {cs : List Value} {y : DataW H × List MemPlace} (h : DataW.trod enc Tryz.prog W 0 sp hd n 37 cs = some y) :
    ∃ (k : Int) (s : ByteArray) (z : Int), cs = [.int .i64 k, .string s, .int .i64 z] ∧ y.1 = .agg [.lit (.int .i64 k), .lit (.string s.data.toList), .lit (.int .i64 z)] := by
  obtain ⟨xs, n', -, hy, hl, hxl, hf⟩ := DataW.trod_struct Tryz.underlying37 h
  have c36 : Tryz.prog.cellsOf 37 = 3 := by kernel_rfl
  have c3 : Tryz.prog.cellsOf 3 = 1 := by kernel_rfl
  have c9 : Tryz.prog.cellsOf 9 = 1 := by kernel_rfl
  rw [c36] at hl
  obtain ⟨a, b, c, rfl⟩ : ∃ a b c, cs = [a, b, c] := by
    exact three hl
  obtain ⟨x0, x1, x2, rfl⟩ : ∃ a b c, xs = [a, b, c] := by
    exact three hxl
  have h0 := hf 0 _ rfl
  have h1 := hf 1 _ rfl
  have h2 := hf 2 _ rfl
  have g0 : DataW.trod enc Tryz.prog W 0 sp hd n' 3 (([a, b, c].drop 0).take (Tryz.prog.cellsOf 3)) = some x0 := h0
  have g1 : DataW.trod enc Tryz.prog W 0 sp hd n' 9 (([a, b, c].drop 1).take (Tryz.prog.cellsOf 9)) = some x1 := h1
  have g2 : DataW.trod enc Tryz.prog W 0 sp hd n' 3 (([a, b, c].drop 2).take (Tryz.prog.cellsOf 3)) = some x2 := h2
  rw [c3] at g0 g2
  rw [c9] at g1
  have h0' : DataW.trod enc Tryz.prog W 0 sp hd n' 3 [a] = some x0 := g0
  have h1' : DataW.trod enc Tryz.prog W 0 sp hd n' 9 [b] = some x1 := g1
  have h2' : DataW.trod enc Tryz.prog W 0 sp hd n' 3 [c] = some x2 := g2
  obtain ⟨k, e1, e2, -⟩ := DataW.trod_int Tryz.underlying3 h0'
  obtain ⟨s, e3, e4, -⟩ := DataW.trod_string Tryz.underlying9 h1'
  obtain ⟨z, e5, e6, -⟩ := DataW.trod_int Tryz.underlying3 h2'
  simp only [List.cons.injEq, and_true] at e1 e3 e5
  subst e1; subst e3; subst e5; subst e2; subst e4; subst e6
  exact ⟨k, s, z, rfl, by rw [hy]; rfl⟩
theorem mem_weights {H : Type} {bytes : List UInt8} {k z : Int} : ∀ {ds : List (DataW H)}, DataW.agg [.lit (.int .i64 k), .lit (.string bytes), .lit (.int .i64 z)] ∈ ds → bytes.length ∈ DataW.weightsAll Tryz.prog 37 ds
  | d :: ds, h => by
    rw [DataW.weightsAll]
    rcases List.mem_cons.1 h with h | h
    · subst h
      refine List.mem_append_left _ ?_
      rw [DataW.weights, Tryz.underlying37]
      simp [DataW.weightsEach, DataW.weights]
    · exact List.mem_append_right _ (mem_weights h)
set_option maxRecDepth 100000 in
theorem toks_of {H : Type} {enc : TypeId × Value → H} {W : World} {v : Value} {d : DataW H} {p : List MemPlace} {base : Nat} (hval : Value.okWide Tryz.prog W .any base 22 v) (h : DataW.Trod enc Tryz.prog W 0 (fun _ => true) true 22 v d p)
    (hsz : (DataW.weightsEach Tryz.prog [22] [d]).all (· ≤ reachBytes) = true) : ∃ L, TokO W v L ∧ ∀ t ∈ L, t.2.1.size ≤ 140737488351232 := by
  obtain ⟨fuel, hf⟩ := h
  obtain ⟨a0, len, cap, rfl⟩ := okWide_slice Tryz.underlying22 hval
  rcases DataW.trod_slice Tryz.underlying22 hf with ⟨hcs, hx⟩ | ⟨a, len', cap', elems, rest, n, _, hcs, hx, _, hl, hm, hel, hE, _, _⟩
  · simp [Value.cells] at hcs
    obtain ⟨rfl, rfl, rfl⟩ := hcs
    exact ⟨[], ⟨none, 0, rfl, fun h => by simp at h⟩, fun t ht => by cases ht⟩
  · simp [Value.cells] at hcs
    obtain ⟨rfl, rfl, rfl⟩ := hcs
    have c36 : Tryz.prog.cellsOf 37 = 3 := by kernel_rfl
    simp only [Prod.mk.injEq] at hx
    have hd : d = .slice (elems.map (·.1)) (rest.map (·.1)) := hx.1
    have each : ∀ i, i < len → ∃ t : Tk, W.cell? (a.add (i * 3)) = some (.int .i64 t.1) ∧ W.cell? ((a.add (i * 3)).add 1) = some (.string t.2.1) ∧ (∃ z : Int, W.cell? ((a.add (i * 3)).add 2) = some (.int .i64 z)) ∧ t.2.1.size ≤ 140737488351232 := fun i hi => by
      have h1 := hE i hi
      rw [c36, List.getElem?_eq_getElem (by omega)] at h1
      cases hc : W.cells? 0 (a.add (i * 3)) 3 with
      | none => rw [hc] at h1; cases h1
      | some cs =>
        rw [hc] at h1
        have h2 : DataW.trod enc Tryz.prog W 0 (fun _ => true) true n 37 cs = some elems[i] := h1
        obtain ⟨k, s, z, rfl, hy⟩ := tok_elem h2
        obtain ⟨-, -, hcell⟩ := World.cells?_some hc
        have q0 := hcell 0 (by omega)
        have q1 := hcell 1 (by omega)
        have q2 := hcell 2 (by omega)
        have ha0 : (a.add (i * 3)).add 0 = a.add (i * 3) := by unfold Addr.add; rw [if_pos rfl]
        rw [ha0] at q0
        refine ⟨(k, s, 0), q0, q1, ⟨z, q2⟩, ?_⟩
        have hmem : DataW.agg [.lit (.int .i64 k), .lit (.string s.data.toList), .lit (.int .i64 z)] ∈ elems.map (·.1) := by
          rw [← hy]
          exact List.mem_map_of_mem (List.getElem_mem _)
        have hw := mem_weights hmem
        have hin : s.data.toList.length ∈ DataW.weightsEach Tryz.prog [22] [d] := by
          rw [DataW.weightsEach]
          refine List.mem_append_left _ ?_
          rw [hd, DataW.weights, Tryz.underlying22]
          exact List.mem_cons_of_mem _ (List.mem_append_left _ hw)
        have h9 := List.all_eq_true.1 hsz _ hin
        have h8 : s.data.toList.length ≤ reachBytes := by simpa using h9
        rw [Array.length_toList] at h8
        exact h8
    obtain ⟨L, hLl, hL⟩ := exists_list len each
    refine ⟨L, ⟨some a, cap, by rw [hLl], fun h0 => ?_⟩, fun t ht => ?_⟩
    · obtain ⟨b, off, spot⟩ := a
      have hspot : spot = none := by
        have h := World.cell?_spot (hL 0 h0).1
        unfold Addr.add at h
        rw [Nat.zero_mul, if_pos rfl] at h
        simpa using h
      subst hspot
      refine ⟨b, off, rfl, fun i hi => ?_⟩
      obtain ⟨q0, q1, ⟨z, q2⟩, -⟩ := hL i hi
      have ea : ∀ j o, (⟨b, o, none⟩ : Addr).add j = ⟨b, o + j, none⟩ := fun j o => by
        unfold Addr.add
        split
        · rename_i h; subst h; rfl
        · rfl
      rw [ea] at q0 q1 q2
      rw [ea] at q1 q2
      exact ⟨q0, q1, z, q2⟩
    · obtain ⟨i, hi, rfl⟩ := List.getElem_of_mem ht
      exact (hL i hi).2.2.2
end Go.Proofs.YtegobakoflbnfaaGreatDoor
