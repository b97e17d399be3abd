/- A list of texts that the call itself makes: appended to, and read. -/
import Derived.Test.YtlkdahgfnfdakaaLawL
namespace Go.Proofs.Ytlkdahgfnfdakaa
open Go Go.RowKit Go.Shelf WN LM

def Own (w : World) (B : Nat) (v : Value) (L : List ByteArray) : Prop := w.ownsRow B 9 1 v L.length (L.map Value.string) ∧ B ≤ w.heap.size
theorem Own.new (w : World) : Own (w.alloc (.cells #[] 9)) w.heap.size (.slice (some ⟨w.heap.size, 0, none⟩) 0 0) [] := by
  refine ⟨⟨rfl, Or.inr ⟨w.heap.size, 0, #[], rfl, Nat.le_refl _, alloc_at _ _ _ rfl, Nat.le_refl _, by unfold maxLen; omega, rfl, rfl⟩⟩, ?_⟩
  have := (below_alloc w (.cells #[] 9)).size
  exact this
theorem Own.go {w w' : World} {B : Nat} {v : Value} {L : List ByteArray} (h : Own w B v L) (hb : Below w.heap.size w w') : Own w' B v L := by
  obtain ⟨⟨h1, h2⟩, h3⟩ := h
  refine ⟨⟨h1, ?_⟩, Nat.le_trans h3 hb.size⟩
  rcases h2 with h2 | ⟨g, cap, cur, rfl, a1, a2, a3⟩
  · exact Or.inl h2
  · exact Or.inr ⟨g, cap, cur, rfl, a1, (hb.block g (lt_of_block a2)).trans a2, a3⟩
theorem Own.get {w : World} {B : Nat} {v : Value} {L : List ByteArray} (h : Own w B v L) (h0 : 0 < L.length) : ∃ g cap, v = .slice (some ⟨g, 0, none⟩) L.length cap ∧ ∀ i, (hi : i < L.length) → w.cell? ⟨g, i, none⟩ = some (.string L[i]) := by
  obtain ⟨⟨h1, h2⟩, h3⟩ := h
  rcases h2 with ⟨_, h2⟩ | ⟨g, cap, cur, rfl, a1, a2, a3, a4, a5, a6⟩
  · omega
  · refine ⟨g, cap, rfl, fun i hi => ?_⟩
    rw [cell_of_row _ _ _ _ _ _ a2]
    have e : (cur.toList.take (L.length * 1))[i]? = (L.map Value.string)[i]? := by rw [a6]
    rw [List.getElem?_take, if_pos (by omega), List.getElem?_map, List.getElem?_eq_getElem hi] at e
    simpa using e
theorem Own.shape {w : World} {B : Nat} {v : Value} {L : List ByteArray} (h : Own w B v L) : ∃ o cap, v = .slice o L.length cap := by
  obtain ⟨⟨h1, h2⟩, h3⟩ := h
  rcases h2 with ⟨rfl, h2⟩ | ⟨g, cap, cur, rfl, _⟩
  · rw [h2]; exact ⟨_, _, rfl⟩
  · exact ⟨_, _, rfl⟩
theorem Try.info9 : (Try.prog.info? 9).map (fun i => (i.zero, i.size, i.bytes)) = some (some (.string ⟨#[]⟩), 1, 16) := by kernel_rfl
theorem Try.underlying38 : Try.prog.underlying 38 = some (.slice 9) := by kernel_rfl
set_option maxRecDepth 100000 in
theorem own_app {ops : Array Oper} {rest : List Oper} {o : Oper} {a : Act} {w : World} {Q : Exit → Act → World → Prop} (hgd : o.guard = none) (s x : Operand)
    (ho : o.op = .call { callee := .builtin .append, args := #[s, x], argTypes := #[38, 38] }) {B g : Nat} {v : Value} {L : List ByteArray} {t : ByteArray} (hs : a.eval s = v) (hown : Own w B v L)
    (hx : a.eval x = .slice (some ⟨g, 0, none⟩) 1 1) (hc : w.cell? ⟨g, 0, none⟩ = some (.string t)) (hL : L.length ≤ 1000)
    (h : ∀ v' w', Own w' B v' (L ++ [t]) → (∀ W C, C ≤ B → Below C W w → Below C W w') → wpList Try.prog ops Q rest (a.put o.dst v') w') : wpList Try.prog ops Q (o :: rest) a w := by
  obtain ⟨i0, hi, hz0, hz1, hz2⟩ := info_parts Try.info9
  refine wpList_append_own w hgd s x 38 ho B 9 i0 (.string ⟨#[]⟩) 1 16 Try.underlying38 hi hz0 hz1 hz2 rfl (by omega) v L.length (L.map Value.string) hs hown.1 ⟨g, 0, none⟩ 1 1 [.string t] hx rfl ?_ (by intro u hu; simp at hu; subst hu; rfl) (by unfold maxLen; omega) (by omega) hown.2 ?_
  · intro j u hu
    match j, hu with
    | 0, hu => simp at hu; subst hu; exact hc
  · intro v' w' h1 h2 _
    refine h v' w' ⟨?_, Nat.le_trans hown.2 ((Below.refl B w).grown h2 hown.2 (fun k hk => (World.ownsRow.lt hown.1 k hk).1)).size⟩ fun W C hC hb => hb.grown h2 (Nat.le_trans hC hown.2) (fun k hk => Nat.le_trans hC (World.ownsRow.lt hown.1 k hk).1)
    rw [List.length_append, List.map_append]
    exact h1
end Go.Proofs.Ytlkdahgfnfdakaa
