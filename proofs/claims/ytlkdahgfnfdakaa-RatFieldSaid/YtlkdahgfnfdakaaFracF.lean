import Derived.Test.YtlkdahgfnfdakaaFracE
namespace Go.Proofs.Ytlkdahgfnfdakaa
open Go.RowKit WN LM

theorem Box3.far {w : World} {p q : Nat} {a b c x y z : Value} (h : Box3 w p a b c) (hq : p ≠ q) : Box3 (((w.setCell ⟨q, 0, none⟩ x).setCell ⟨q, 1, none⟩ y).setCell ⟨q, 2, none⟩ z) p a b c := by
  have e : (((w.setCell ⟨q, 0, none⟩ x).setCell ⟨q, 1, none⟩ y).setCell ⟨q, 2, none⟩ z).heap[p]? = w.heap[p]? := by
    rw [heap_setCell_other _ _ _ _ hq, heap_setCell_other _ _ _ _ hq, heap_setCell_other _ _ _ _ hq]
  exact e.trans h

/-- two boxes change their numbers -/
theorem swapped {w w2 : World} {p q r : Nat} (hpq : p ≠ q) (hr1 : r ≠ p) (hr2 : r ≠ q) (hp : w.heap.size ≤ p) (hq : w.heap.size ≤ q) {s t : Bool} {o1 o2 o3 o4 : Option Addr} {k1 k2 k3 k4 c1 c2 c3 c4 n m : Nat} {x y z : Value}
    (bA : Box3 w2 p (.bool s) (.slice o1 k1 c1) (.slice o2 k2 c2)) (bB : Box3 w2 q (.bool t) (.slice o3 k3 c3) (.slice o4 k4 c4)) (bR : Box3 w2 r x y z) (hb : Below w.heap.size w w2) (hn : Num w2 (.slice o1 k1 c1) n) (hm : Num w2 (.slice o3 k3 c3) m) :
    ∃ w3, ((((((w2.setCell ⟨p, 0, none⟩ (.bool t)).setCell ⟨p, 1, none⟩ (.slice o3 k3 c3)).setCell ⟨p, 2, none⟩ (.slice o4 k4 c4)).setCell ⟨q, 0, none⟩ (.bool s)).setCell ⟨q, 1, none⟩ (.slice o1 k1 c1)).setCell ⟨q, 2, none⟩ (.slice o2 k2 c2)) = w3 ∧
      Box3 w3 p (.bool t) (.slice o3 k3 c3) (.slice o4 k4 c4) ∧ Box3 w3 q (.bool s) (.slice o1 k1 c1) (.slice o2 k2 c2) ∧ Box3 w3 r x y z ∧ Below w.heap.size w w3 ∧ Num w3 (.slice o1 k1 c1) n ∧ Num w3 (.slice o3 k3 c3) m :=
  ⟨_, rfl, (bA.set _ _ _).far hpq, (bB.far (Ne.symm hpq)).set _ _ _, (bR.far hr1).far hr2, three_below _ _ _ (three_below _ _ _ hb hp) hq, (hn.set3 bA _ _ _).set3 (bB.far (Ne.symm hpq)) _ _ _, (hm.set3 bA _ _ _).set3 (bB.far (Ne.symm hpq)) _ _ _⟩

set_option maxHeartbeats 4000000 in
set_option maxRecDepth 100000 in
theorem plusOther_num {w : World} {v u : Value} {s : Bool} {n d m c : Nat} (h : Frac w v s n d) (k : Frac w u (!s) m c) (ln : Len n ≤ 4000000000) (lm : Len m ≤ 4000000000) :
    Calls Try.prog 111 #[v, u] w (if n < m then RetF w ((!s) && decide (m - n ≠ 0)) (m - n) 1 else RetF w (s && decide (n - m ≠ 0)) (n - m) 1) := by
  obtain ⟨o1, k1, c1', o2, k2, c2', rfl, hn, hd⟩ := h.box
  obtain ⟨o3, k3, c3', o4, k4, c4', rfl, hm, hc⟩ := k.box
  clear h k
  obtain ⟨B1, bA, bB, bR⟩ := boxes3 w (.bool s) (.slice o1 k1 c1') (.slice o2 k2 c2') (.bool (!s)) (.slice o3 k3 c3') (.slice o4 k4 c4') (.bool false) (.slice none 0 0) (.slice none 0 0)
  have Hn := Lib.hid (hn.go B1); have Hm := Lib.hid (hm.go B1)
  clear hn hd hm hc
  have la := len_mono (Nat.sub_le n m)
  have lb := len_mono (Nat.sub_le m n)
  have hss : (s == !s) = false := by cases s <;> rfl
  by_cases hlt : n < m
  · rw [if_pos hlt]
    have Hcm : Hid (cmpN n m = -1) := by show _ = _; unfold cmpN; rw [if_pos hlt]
    have P55 := Lib.hid (fun w' v h => integer_num (w := w') (va := v) (a := m - n) (!s) h (by omega))
    have P0 := Lib.hid (fun w' a b => minus_num (w := w') (va := .slice o3 k3 c3') (vb := .slice o1 k1 c1') (a := m) (b := n) a b (by omega) (Nat.le_of_lt hlt))
    have PC := Lib.hid (compare_num Hn.out Hm.out (by omega) (by omega))
    generalize hdd : decide (m - n ≠ 0) = tt at *
    clear hdd la lb hlt
    generalize m - n = nm at *
    go_enter Try.func111, Try.ntmps111
    go_wp2_with fail
    have BA := Lib.hid bA; have BB := Lib.hid bB; have BR := Lib.hid bR; have HB1 := Lib.hid B1
    clear bA bB bR B1
    generalize ((w.alloc (.cells #[.bool s, .slice o1 k1 c1', .slice o2 k2 c2'] 55)).alloc (.cells #[.bool (!s), .slice o3 k3 c3', .slice o4 k4 c4'] 55)).alloc (.cells #[.bool false, .slice none 0 0, .slice none 0 0] 55) = w1 at *
    refine PC.out.mono ?_; rintro e w2 ⟨rfl, hb2⟩; rw [Hcm.out]
    have BA2 := Lib.hid (BA.out.go hb2); have BB2 := Lib.hid (BB.out.go hb2); have BR2 := Lib.hid (BR.out.go hb2); have HB2 := Lib.hid (bstep HB1.out hb2)
    have Hn2 := Lib.hid (Hn.out.go hb2); have Hm2 := Lib.hid (Hm.out.go hb2)
    clear PC hb2
    have c0 := BA2.out.c0
    have c1 := BA2.out.c1
    have c2 := BA2.out.c2
    have d0 := BB2.out.c0
    have d1 := BB2.out.c1
    have d2 := BB2.out.c2
    have f0 := BA2.out.f 0
    have f1 := BA2.out.f 1
    have f2 := BA2.out.f 2
    have g0 := BB2.out.f 0
    have g1 := BB2.out.f 1
    have g2 := BB2.out.f 2
    go_wp2_with fail
    obtain ⟨w3, hw3, bA3, bB3, bR3, hb3, hn3, hm3⟩ := swapped (p := w.heap.size) (q := w.heap.size + 1) (r := w.heap.size + 2) (by omega) (by omega) (by omega) (Nat.le_refl _) (by omega) BA2.out BB2.out BR2.out HB2.out Hn2.out Hm2.out
    rw [hw3]
    have BA3 := Lib.hid bA3; have BB3 := Lib.hid bB3; have BR3 := Lib.hid bR3; have HB3 := Lib.hid hb3; have Hn3 := Lib.hid hn3; have Hm3 := Lib.hid hm3
    clear hw3 bA3 bB3 bR3 hb3 hn3 hm3 c0 c1 c2 d0 d1 d2 f0 f1 f2 g0 g1 g2 BA2 BB2 BR2 HB2 Hn2 Hm2
    have c0 := BA3.out.c0
    have c1 := BA3.out.c1
    have d1 := BB3.out.c1
    have P := Lib.hid (P0.out _ Hm3.out.drew Hn3.out.drew)
    go_region_held (fun w' => w'.cell? ⟨w.heap.size, 0, none⟩ = some (.bool (!s)) ∧ w'.cell? ⟨w.heap.size, 1, none⟩ = some (.slice o3 k3 c3') ∧ w'.cell? ⟨w.heap.size + 1, 1, none⟩ = some (.slice o1 k1 c1'))
      (first | exact ⟨c0, c1, d1⟩ | exact keep3 (by assumption) hb5 | exact keep3 (by assumption) hb4 | exact keepSt (by assumption) (by dsimp only; omega) (by dsimp only; omega) (by dsimp only; omega))
      ((first
        | (go_at_call 133; refine P.out.mono ?_; rintro e w4 ⟨v4, rfl, hv4, hb4⟩)
        | (go_at_call 55; refine (P55.out _ _ hv4).mono ?_; rintro e w5 ⟨v5, rfl, hv5, hb5⟩; obtain ⟨p5, q5, z5, p6, q6, z6, rfl, hx5, hx6⟩ := hv5.box; have br := BR3.out.go (bstep (below_drew w3) (bstep hb4 hb5)); obtain ⟨r0, r1, r2, f0, f1, f2⟩ := Box3.facts br)))
    go_wp2_with fail
    obtain ⟨e0, e1, e2, hret⟩ := box_ret (t := ((!s) && tt)) br hx5 hx6 (bstep HB3.out (bstep (below_drew w3) (bstep hb4 hb5))) (by omega)
    refine bodyPost_ret ?_ rfl hret
    simp [results, Try.f111, go_sem, e0, e1, e2]
  · rw [if_neg hlt]
    have Hcm : Hid (0 ≤ cmpN n m) := by show _ ≤ _; unfold cmpN; rw [if_neg hlt]; split <;> omega
    have P55 := Lib.hid (fun w' v h => integer_num (w := w') (va := v) (a := n - m) s h (by omega))
    have P0 := Lib.hid (fun w' a b => minus_num (w := w') (va := .slice o1 k1 c1') (vb := .slice o3 k3 c3') (a := n) (b := m) a b (by omega) (Nat.le_of_not_lt hlt))
    have PC := Lib.hid (compare_num Hn.out Hm.out (by omega) (by omega))
    generalize hdd : decide (n - m ≠ 0) = tt at *
    clear hdd la lb hlt
    generalize n - m = nm at *
    generalize cmpN n m = cm at *
    have hcd : decide (cm < 0) = false := by have := Hcm.out; simp; omega
    go_enter Try.func111, Try.ntmps111
    go_wp2_with fail
    have BA := Lib.hid bA; have BB := Lib.hid bB; have BR := Lib.hid bR; have HB1 := Lib.hid B1
    clear bA bB bR B1
    generalize ((w.alloc (.cells #[.bool s, .slice o1 k1 c1', .slice o2 k2 c2'] 55)).alloc (.cells #[.bool (!s), .slice o3 k3 c3', .slice o4 k4 c4'] 55)).alloc (.cells #[.bool false, .slice none 0 0, .slice none 0 0] 55) = w1 at *
    refine PC.out.mono ?_; rintro e w2 ⟨rfl, hb2⟩
    have BA2 := Lib.hid (BA.out.go hb2); have BB2 := Lib.hid (BB.out.go hb2); have BR2 := Lib.hid (BR.out.go hb2); have HB2 := Lib.hid (bstep HB1.out hb2)
    have Hn2 := Lib.hid (Hn.out.go hb2); have Hm2 := Lib.hid (Hm.out.go hb2)
    clear PC hb2
    go_wp2_with fail
    have c0 := BA2.out.c0
    have c1 := BA2.out.c1
    have d1 := BB2.out.c1
    have P := Lib.hid (P0.out _ Hn2.out.drew Hm2.out.drew)
    go_region_held (fun w' => w'.cell? ⟨w.heap.size, 0, none⟩ = some (.bool s) ∧ w'.cell? ⟨w.heap.size, 1, none⟩ = some (.slice o1 k1 c1') ∧ w'.cell? ⟨w.heap.size + 1, 1, none⟩ = some (.slice o3 k3 c3'))
      (first | exact ⟨c0, c1, d1⟩ | exact keep3 (by assumption) hb5 | exact keep3 (by assumption) hb4 | exact keepSt (by assumption) (by dsimp only; omega) (by dsimp only; omega) (by dsimp only; omega))
      ((first
        | (go_at_call 133; refine P.out.mono ?_; rintro e w4 ⟨v4, rfl, hv4, hb4⟩)
        | (go_at_call 55; refine (P55.out _ _ hv4).mono ?_; rintro e w5 ⟨v5, rfl, hv5, hb5⟩; obtain ⟨p5, q5, z5, p6, q6, z6, rfl, hx5, hx6⟩ := hv5.box; have br := BR2.out.go (bstep (below_drew w2) (bstep hb4 hb5)); obtain ⟨r0, r1, r2, f0, f1, f2⟩ := Box3.facts br)))
    go_wp2_with fail
    obtain ⟨e0, e1, e2, hret⟩ := box_ret (t := (s && tt)) br hx5 hx6 (bstep HB2.out (bstep (below_drew w2) (bstep hb4 hb5))) (by omega)
    refine bodyPost_ret ?_ rfl hret
    simp [results, Try.f111, go_sem, e0, e1, e2]

theorem plusSigned_num {w : World} {v u : Value} {s t : Bool} {n d m c : Nat} (h : Frac w v s n d) (k : Frac w u t m c) (ln : Len n ≤ 4000000000) (lm : Len m ≤ 4000000000) :
    Calls Try.prog 111 #[v, u] w (RetF w (addS s n t m && decide (addN s n t m ≠ 0)) (addN s n t m) 1) := by
  by_cases hst : s = t
  · subst hst
    have := plusSame_num h k ln lm
    unfold addS addN
    rw [if_pos rfl, if_pos rfl]
    exact this
  · have ht : t = !s := by cases s <;> cases t <;> simp_all
    subst ht
    have := plusOther_num h k ln lm
    unfold addS addN
    rw [if_neg hst, if_neg hst]
    by_cases hlt : n < m
    · rw [if_pos hlt] at this; rw [if_pos hlt, if_pos hlt]; exact this
    · rw [if_neg hlt] at this; rw [if_neg hlt, if_neg hlt]; exact this
end Go.Proofs.Ytlkdahgfnfdakaa
