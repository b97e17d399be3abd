/- ends: where each token of a source ends. -/
import Derived.Test.YtegobakoflbnfaaDoorM6
import Derived.Test.YtegobakoflbnfaaDoorM3
namespace Go.Proofs.YtegobakoflbnfaaDoor
open Go Go.RowKit

def ivL (E : List Nat) : List Value := E.map fun n : Nat => .int .i64 (n : Int)
def OwnI (w : World) (B : Nat) (v : Value) (E : List Nat) : Prop := w.ownsRow B 3 1 v E.length (ivL E) ∧ B ≤ w.heap.size
theorem OwnI.nil {w : World} {B : Nat} (h : B ≤ w.heap.size) : OwnI w B (.slice none 0 0) [] := ⟨World.ownsRow_nil _ _ _ _, h⟩
theorem OwnI.go {w w' : World} {B : Nat} {v : Value} {E : List Nat} (h : OwnI w B v E) (hb : Below w.heap.size w w') : OwnI w' B v E := by
  obtain ⟨⟨h1, h2⟩, h3⟩ := h
  refine ⟨⟨h1, ?_⟩, Nat.le_trans h3 hb.size⟩
  rcases h2 with h2 | ⟨g, cap, cur, rfl, a1, a2, a3⟩
  · exact Or.inl h2
  · exact Or.inr ⟨g, cap, cur, rfl, a1, (hb.block g (lt_of_block a2)).trans a2, a3⟩
theorem OwnI.shape {w : World} {B : Nat} {v : Value} {E : List Nat} (h : OwnI w B v E) : ∃ o cap, v = .slice o E.length cap := by
  obtain ⟨⟨h1, h2⟩, h3⟩ := h
  rcases h2 with ⟨rfl, h2⟩ | ⟨g, cap, cur, rfl, _⟩
  · rw [h2]; exact ⟨_, _, rfl⟩
  · exact ⟨_, _, rfl⟩
theorem int_info : (Tryd.prog.info? 3).map (fun i => (i.zero, i.size, i.bytes)) = some (some (.int .i64 0), 1, 8) := by kernel_rfl
set_option maxRecDepth 100000 in
theorem int_app {ops : Array Oper} {rest : List Oper} {o : Oper} {a : Act} {w : World} {Q : Exit → Act → World → Prop} (hgd : o.guard = none) (s x : Operand)
    (ho : o.op = .call { callee := .builtin .append, args := #[s, x], argTypes := #[32, 32] }) {B g : Nat} {v : Value} {E : List Nat} {n : Nat} (hs : a.eval s = v) (hown : OwnI w B v E)
    (hx : a.eval x = .slice (some ⟨g, 0, none⟩) 1 1) (hc : w.cell? ⟨g, 0, none⟩ = some (.int .i64 (n : Int))) (hL : E.length ≤ 2000)
    (h : ∀ v' w', OwnI w' B v' (E ++ [n]) → (∀ W C, C ≤ B → Below C W w → Below C W w') → wpList Tryd.prog ops Q rest (a.put o.dst v') w') : wpList Tryd.prog ops Q (o :: rest) a w := by
  obtain ⟨i0, hi, hz0, hz1, hz2⟩ := info_parts int_info
  refine wpList_append_own w hgd s x 32 ho B 3 i0 (.int .i64 0) 1 8 Tryd.underlying32 hi hz0 hz1 hz2 rfl (by omega) v E.length (ivL E) hs hown.1 ⟨g, 0, none⟩ 1 1 [.int .i64 (n : Int)] hx rfl ?_ (by intro u hu; simp at hu; subst hu; rfl) (by unfold maxLen; omega) (by omega) hown.2 ?_
  · intro j u hu
    match j, hu with
    | 0, hu => simp at hu; subst hu; exact hc
  · intro v' w' h1 h2 _
    refine h v' w' ⟨?_, Nat.le_trans hown.2 ((Below.refl B w).grown h2 hown.2 (fun k hk => (World.ownsRow.lt hown.1 k hk).1)).size⟩ fun W C hC hb => hb.grown h2 (Nat.le_trans hC hown.2) (fun k hk => Nat.le_trans hC (World.ownsRow.lt hown.1 k hk).1)
    rw [List.length_append]
    unfold ivL at h1 ⊢
    rw [List.map_append]
    exact h1
/-- a list of numbers that lies in memory -/
def IntsAt (w : World) (v : Value) (E : List Nat) : Prop :=
  ∃ o cap, v = .slice o E.length cap ∧ ∀ i (hi : i < E.length), ∃ g, o = some ⟨g, 0, none⟩ ∧ w.cell? ⟨g, i, none⟩ = some (.int .i64 (E[i] : Int))
theorem IntsAt.go {w w' : World} {v : Value} {E : List Nat} (h : IntsAt w v E) (hb : Below w.heap.size w w') : IntsAt w' v E := by
  obtain ⟨o, cap, rfl, h⟩ := h
  refine ⟨o, cap, rfl, fun i hi => ?_⟩
  obtain ⟨g, rfl, hc⟩ := h i hi
  exact ⟨g, rfl, (hb.cell (World.block_lt_of_cell? w _ hc)).trans hc⟩
theorem OwnI.at {w : World} {B : Nat} {v : Value} {E : List Nat} (h : OwnI w B v E) : IntsAt w v E := by
  obtain ⟨o, cap, rfl⟩ := h.shape
  refine ⟨o, cap, rfl, fun i hi => ?_⟩
  obtain ⟨⟨h1, h2⟩, h3⟩ := h
  rcases h2 with ⟨_, h2⟩ | ⟨g, cap', cur, e, a1, a2, a3, a4, a5, a6⟩
  · omega
  · injection e with e1 e2 e3
    subst e1
    refine ⟨g, rfl, ?_⟩
    have b0 : (ivL E)[i]? = some (.int .i64 (E[i] : Int)) := by
      unfold ivL
      rw [List.getElem?_map, List.getElem?_eq_getElem hi]; rfl
    rw [← a6, List.getElem?_take, if_pos (by omega)] at b0
    rw [cell_of_row _ _ _ _ _ _ a2]
    simpa using b0
def endT (x : List UInt8) (t : Tk) : Nat := t.2.2 + lenT x t
end Go.Proofs.YtegobakoflbnfaaDoor
