/- A list of tokens in memory: one token's place written anew; a list behind another one. -/
import Derived.Test.YtegobakoflbnfaaDoorW
import Derived.Laws.AppendOwnNone
namespace Go.Proofs.YtegobakoflbnfaaDoor
open Go Go.RowKit

theorem tkL_set : ∀ (L : List Tk) (i : Nat) (hi : i < L.length) (n : Nat), tkL (L.set i (L[i].1, L[i].2.1, n)) = (tkL L).set (i * 3 + 2) (.int .i64 (n : Int))
  | t :: L, 0, _, n => rfl
  | t :: L, i + 1, hi, n => by
    have h := tkL_set L i (by simpa using hi) n
    have e : ∀ (u : Tk) (M : List Tk), tkL (u :: M) = .int .i64 u.1 :: .string u.2.1 :: .int .i64 (u.2.2 : Int) :: tkL M := fun _ _ => rfl
    rw [List.set_cons_succ, e, e, show (i + 1) * 3 + 2 = i * 3 + 2 + 1 + 1 + 1 by omega]
    rw [List.set_cons_succ, List.set_cons_succ, List.set_cons_succ, ← h]
    rfl
theorem grown_set (w : World) (a : Addr) (u : Value) : w.grownBy (w.setCell a u) (some a.block) :=
  ⟨rfl, rfl, rfl, by simp, fun k hk hne => heap_setCell_other w a k u (fun h => hne (by rw [h]))⟩
/-- the block of a list of tokens, if it has one -/
theorem OwnT.open {w : World} {B : Nat} {v : Value} {L : List Tk} (h : OwnT w B v L) (h0 : 0 < L.length) : ∃ g cap, v = .slice (some ⟨g, 0, none⟩) L.length cap ∧ B ≤ g ∧ g < w.heap.size ∧
    ∀ i (hi : i < L.length), w.cell? ⟨g, i * 3 + 2, none⟩ = some (.int .i64 (L[i].2.2 : Int)) ∧ w.frozen? ⟨g, i * 3 + 2, none⟩ = false ∧ ∀ n : Nat, OwnT (w.setCell ⟨g, i * 3 + 2, none⟩ (.int .i64 (n : Int))) B v (L.set i (L[i].1, L[i].2.1, n)) := by
  have ht := h.tokAt
  obtain ⟨⟨h1, h2⟩, h3⟩ := h
  rcases h2 with ⟨_, h2⟩ | ⟨g, cap, cur, rfl, a1, a2, a3, a4, a5, a6⟩
  · omega
  · refine ⟨g, cap, rfl, a1, lt_of_block a2, fun i hi => ?_⟩
    obtain ⟨o, cap', e, ht⟩ := ht
    injection e with e1 e2 e3
    subst e1
    obtain ⟨g', e4, hc⟩ := ht h0
    injection e4 with e5
    injection e5 with e6
    subst e6
    refine ⟨(hc i hi).2.2, frozen_of_row _ _ _ _ _ a2, fun n => ⟨⟨?_, ?_⟩, ?_⟩⟩
    · rw [tkL_len]
    · refine Or.inr ⟨g, cap, cur.setIfInBounds (i * 3 + 2) (.int .i64 (n : Int)), by rw [List.length_set], a1, heap_setCell_same _ _ _ _ _ _ a2, by rw [List.length_set]; exact a3, a4, by rw [Array.size_setIfInBounds]; exact a5, ?_⟩
      rw [tkL_set L i hi n, ← a6, Array.toList_setIfInBounds, List.length_set, List.take_set]
    · exact Nat.le_trans h3 (by simp)
theorem OwnT.grown {w w' : World} {B : Nat} {v : Value} {L : List Tk} {r : Option Nat} (h : OwnT w B v L) (hg : w.grownBy w' r) (hne : v.ownBlock = none ∨ v.ownBlock ≠ r) : OwnT w' B v L :=
  ⟨h.1.kept hg hne, Nat.le_trans h.2 hg.size⟩
theorem OwnT.weak {w : World} {B C : Nat} {v : Value} {L : List Tk} (h : OwnT w B v L) (hC : C ≤ B) : OwnT w C v L := by
  obtain ⟨⟨h1, h2⟩, h3⟩ := h
  refine ⟨⟨h1, ?_⟩, Nat.le_trans hC h3⟩
  rcases h2 with h2 | ⟨g, cap, cur, rfl, a1, a2⟩
  · exact Or.inl h2
  · exact Or.inr ⟨g, cap, cur, rfl, Nat.le_trans hC a1, a2⟩
set_option maxRecDepth 100000 in
theorem tok_apps {ops : Array Oper} {rest : List Oper} {o : Oper} {a : Act} {w : World} {Q : Exit → Act → World → Prop} (hgd : o.guard = none) (s x : Operand)
    (ho : o.op = .call { callee := .builtin .append, args := #[s, x], argTypes := #[24, 24] }) {B B2 : Nat} {v v2 : Value} {L M : List Tk} (hs : a.eval s = v) (hown : OwnT w B v L)
    (hx : a.eval x = v2) (hM : OwnT w B2 v2 M) (hL : L.length + M.length ≤ 4000)
    (h : ∀ v' w', OwnT w' B v' (L ++ M) → w.grownBy w' v.ownBlock → (∀ W C, C ≤ B → Below C W w → Below C W w') → wpList Tryd.prog ops Q rest (a.put o.dst v') w') : wpList Tryd.prog ops Q (o :: rest) a w := by
  obtain ⟨i0, hi, hz0, hz1, hz2⟩ := info_parts tok_info
  rcases Nat.eq_zero_or_pos M.length with hM0 | hM0
  · have hMn := List.eq_nil_of_length_eq_zero hM0
    subst hMn
    obtain ⟨⟨h1, h2⟩, h3⟩ := hM
    rcases h2 with ⟨rfl, _⟩ | ⟨g, cap, cur, rfl, a1, a2, a3, a4, a5, a6⟩
    · refine wpList_append_own_none hgd s x 24 ho B 36 i0 3 Tryd.underlying24 hi v L.length (tkL L) hs hown.1 hx ?_
      refine h v w ?_ (World.grownBy.refl _ _) (fun _ _ _ hb => hb)
      rw [List.append_nil]; exact hown
    · refine wpList_append_own w hgd s x 24 ho B 36 i0 (.agg #[.int .i64 0, .string ⟨#[]⟩, .int .i64 0]) 3 32 Tryd.underlying24 hi hz0 hz1 hz2 rfl (by omega) v L.length (tkL L) hs hown.1 ⟨g, 0, none⟩ 0 cap [] hx rfl (by intro j u hu; simp at hu) (by intro u hu; simp at hu) (by unfold maxLen; simp at hL; omega) (by simp at hL; omega) hown.2 ?_
      intro v' w' h1 h2 _
      refine h v' w' ⟨?_, Nat.le_trans hown.2 h2.size⟩ h2 fun W C hC hb => hb.grown h2 (Nat.le_trans hC hown.2) (fun k hk => Nat.le_trans hC (World.ownsRow.lt hown.1 k hk).1)
      rw [List.append_nil]
      rw [List.append_nil] at h1
      exact h1
  · obtain ⟨o2, c2, rfl, ht⟩ := hM.tokAt
    obtain ⟨g, rfl, hc⟩ := ht hM0
    refine wpList_append_own w hgd s x 24 ho B 36 i0 (.agg #[.int .i64 0, .string ⟨#[]⟩, .int .i64 0]) 3 32 Tryd.underlying24 hi hz0 hz1 hz2 rfl (by omega) v L.length (tkL L) hs hown.1 ⟨g, 0, none⟩ M.length c2 (tkL M) hx (tkL_len M) ?_ ?_ (by unfold maxLen; omega) (by omega) hown.2 ?_
    · intro j u hu
      have hj : j < M.length * 3 := by
        rw [← tkL_len]
        exact (List.getElem?_eq_some_iff.1 hu).1
      obtain ⟨i, r, rfl, hr⟩ : ∃ i r, j = i * 3 + r ∧ r < 3 := ⟨j / 3, j % 3, by omega, by omega⟩
      have hi2 : i < M.length := by omega
      obtain ⟨b0, b1, b2⟩ := tkL_at M i hi2
      obtain ⟨d0, d1, d2⟩ := hc i hi2
      have ha : (⟨g, 0, none⟩ : Addr).add (i * 3 + r) = ⟨g, i * 3 + r, none⟩ := by
        unfold Addr.add
        split
        · rename_i h0; rw [h0]
        · show (⟨g, 0 + (i * 3 + r), none⟩ : Addr) = _; rw [Nat.zero_add]
      rw [ha]
      match r, hr, hu with
      | 0, _, hu => rw [Nat.add_zero] at hu ⊢; rw [b0] at hu; rw [← hu]; exact d0
      | 1, _, hu => rw [b1] at hu; rw [← hu]; exact d1
      | 2, _, hu => rw [b2] at hu; rw [← hu]; exact d2
    · intro u hu
      unfold tkL at hu
      obtain ⟨t, _, ht2⟩ := List.mem_flatMap.1 hu
      simp [tkC] at ht2
      rcases ht2 with rfl | rfl | rfl <;> rfl
    · intro v' w' h1 h2 _
      refine h v' w' ⟨?_, Nat.le_trans hown.2 h2.size⟩ h2 fun W C hC hb => hb.grown h2 (Nat.le_trans hC hown.2) (fun k hk => Nat.le_trans hC (World.ownsRow.lt hown.1 k hk).1)
      rw [List.length_append]
      have : tkL (L ++ M) = tkL L ++ tkL M := by unfold tkL; exact List.flatMap_append
      rw [this]
      exact h1
end Go.Proofs.YtegobakoflbnfaaDoor
