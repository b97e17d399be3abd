import Derived.Test.YtlkdahgfnfdakaaFracD
namespace Go.Proofs.Ytlkdahgfnfdakaa
open Go.RowKit WN LM

theorem keep3 {w w' : World} {a b c : Addr} {x y z : Value} (h : w.cell? a = some x ∧ w.cell? b = some y ∧ w.cell? c = some z) (hb : Below w.heap.size w w') : w'.cell? a = some x ∧ w'.cell? b = some y ∧ w'.cell? c = some z :=
  ⟨(hb.cell (World.block_lt_of_cell? w a h.1)).trans h.1, (hb.cell (World.block_lt_of_cell? w b h.2.1)).trans h.2.1, (hb.cell (World.block_lt_of_cell? w c h.2.2)).trans h.2.2⟩

theorem keepSt {w : World} {a b c : Addr} {x y z X Y Z : Value} {p : Nat} (h : w.cell? a = some x ∧ w.cell? b = some y ∧ w.cell? c = some z) (ha : p ≠ a.block) (hb : p ≠ b.block) (hc : p ≠ c.block) :
    (((w.setCell ⟨p, 0, none⟩ X).setCell ⟨p, 1, none⟩ Y).setCell ⟨p, 2, none⟩ Z).cell? a = some x ∧ (((w.setCell ⟨p, 0, none⟩ X).setCell ⟨p, 1, none⟩ Y).setCell ⟨p, 2, none⟩ Z).cell? b = some y ∧ (((w.setCell ⟨p, 0, none⟩ X).setCell ⟨p, 1, none⟩ Y).setCell ⟨p, 2, none⟩ Z).cell? c = some z := by
  refine ⟨?_, ?_, ?_⟩
  · rw [World.cell?_setCell_far _ _ _ _ ha, World.cell?_setCell_far _ _ _ _ ha, World.cell?_setCell_far _ _ _ _ ha]; exact h.1
  · rw [World.cell?_setCell_far _ _ _ _ hb, World.cell?_setCell_far _ _ _ _ hb, World.cell?_setCell_far _ _ _ _ hb]; exact h.2.1
  · rw [World.cell?_setCell_far _ _ _ _ hc, World.cell?_setCell_far _ _ _ _ hc, World.cell?_setCell_far _ _ _ _ hc]; exact h.2.2

/-- two integers with signs, added: is it below 0, how large is it -/
def addS (s : Bool) (n : Nat) (t : Bool) (m : Nat) : Bool := if s = t then s else if n < m then t else s
def addN (s : Bool) (n : Nat) (t : Bool) (m : Nat) : Nat := if s = t then n + m else if n < m then m - n else n - m

set_option maxHeartbeats 4000000 in
set_option maxRecDepth 100000 in
theorem plusSame_num {w : World} {v u : Value} {s : Bool} {n d m c : Nat} (h : Frac w v s n d) (k : Frac w u s m c) (ln : Len n ≤ 4000000000) (lm : Len m ≤ 4000000000) :
    Calls Try.prog 111 #[v, u] w (RetF w (s && decide (n + m ≠ 0)) (n + m) 1) := by
  obtain ⟨o1, k1, c1', o2, k2, c2', rfl, hn, hd⟩ := h.box
  obtain ⟨o3, k3, c3', o4, k4, c4', rfl, hm, hc⟩ := k.box
  clear h k
  obtain ⟨B1, bA, bB, bR⟩ := boxes3 w (.bool s) (.slice o1 k1 c1') (.slice o2 k2 c2') (.bool s) (.slice o3 k3 c3') (.slice o4 k4 c4') (.bool false) (.slice none 0 0) (.slice none 0 0)
  have Hn := Lib.hid (hn.go B1); have Hm := Lib.hid (hm.go B1)
  clear hn hd hm hc
  have la := len_add n m
  have P55 := Lib.hid (fun w' v h => integer_num (w := w') (va := v) (a := n + m) s h (by omega))
  have P0 := Lib.hid (fun w' a b => plus_num (w := w') (va := .slice o1 k1 c1') (vb := .slice o3 k3 c3') (a := n) (b := m) a b (by omega) (by omega))
  generalize hdd : decide (n + m ≠ 0) = tt at *
  clear hdd la
  generalize n + m = nm at *
  go_enter Try.func111, Try.ntmps111
  have hss : (s == s) = true := by simp
  go_wp2_with fail
  have BA := Lib.hid bA; have BB := Lib.hid bB; have BR := Lib.hid bR; have HB1 := Lib.hid B1
  clear bA bB bR B1
  generalize ((w.alloc (.cells #[.bool s, .slice o1 k1 c1', .slice o2 k2 c2'] 55)).alloc (.cells #[.bool s, .slice o3 k3 c3', .slice o4 k4 c4'] 55)).alloc (.cells #[.bool false, .slice none 0 0, .slice none 0 0] 55) = w1 at *
  have c0 := BA.out.c0
  have c1 := BA.out.c1
  have d1 := BB.out.c1
  have P := Lib.hid (P0.out _ Hn.out.drew Hm.out.drew)
  go_region_held (fun w' => w'.cell? ⟨w.heap.size, 0, none⟩ = some (.bool s) ∧ w'.cell? ⟨w.heap.size, 1, none⟩ = some (.slice o1 k1 c1') ∧ w'.cell? ⟨w.heap.size + 1, 1, none⟩ = some (.slice o3 k3 c3'))
      (first | exact ⟨c0, c1, d1⟩ | exact keep3 (by assumption) hb5 | exact keep3 (by assumption) hb4 | exact keepSt (by assumption) (by dsimp only; omega) (by dsimp only; omega) (by dsimp only; omega))
      ((first
        | (go_at_call 116; refine P.out.mono ?_; rintro e w4 ⟨v4, rfl, hv4, hb4⟩)
        | (go_at_call 55; refine (P55.out _ _ hv4).mono ?_; rintro e w5 ⟨v5, rfl, hv5, hb5⟩; obtain ⟨p5, q5, z5, p6, q6, z6, rfl, hx5, hx6⟩ := hv5.box; have br := BR.out.go (bstep (below_drew w1) (bstep hb4 hb5)); obtain ⟨r0, r1, r2, f0, f1, f2⟩ := Box3.facts br)))
  go_wp2_with fail
  obtain ⟨e0, e1, e2, hret⟩ := box_ret (t := (s && tt)) br hx5 hx6 (bstep HB1.out (bstep (below_drew w1) (bstep hb4 hb5))) (by omega)
  refine bodyPost_ret ?_ rfl hret
  simp [results, Try.f111, go_sem, e0, e1, e2]
end Go.Proofs.Ytlkdahgfnfdakaa
