import Derived.Test.YtlkdahgfnfdakaaA4
namespace Go.Proofs.Ytlkdahgfnfdakaa
open Go.RowKit WN LM

theorem wp_cut3 {P : Program} {c : Code} {Q : Exit → Act → World → Prop} {a : Act} {w : World} {R : Value → Value → Value → World → Prop} (F : Value → Value → Value → Act) (h : c.wp P (OnlyNormal fun a' w' => ∃ v1 v2 v3, a' = F v1 v2 v3 ∧ R v1 v2 v3 w') a w)
    (h2 : ∀ v1 v2 v3 w', R v1 v2 v3 w' → Q .normal (F v1 v2 v3) w') : c.wp P Q a w :=
  wp_mono h (OnlyNormal.elim (by rintro a' w' ⟨v1, v2, v3, rfl, h⟩; exact h2 v1 v2 v3 w' h))

/-- the world is as it was, and so are three cells -/
def At3 (w0 w : World) (a b c : Addr) (x y z : Value) : Prop := Below w0.heap.size w0 w ∧ w.cell? a = some x ∧ w.cell? b = some y ∧ w.cell? c = some z

theorem at_go {w0 w w' : World} {a b c : Addr} {x y z : Value} (h : Below w0.heap.size w0 w ∧ w.cell? a = some x ∧ w.cell? b = some y ∧ w.cell? c = some z) (hb : Below w.heap.size w w') :
    Below w0.heap.size w0 w' ∧ w'.cell? a = some x ∧ w'.cell? b = some y ∧ w'.cell? c = some z := ⟨bstep h.1 hb, keep3 h.2 hb⟩
theorem at_alloc {w0 w : World} {a b c : Addr} {x y z : Value} {o : Obj} (h : Below w0.heap.size w0 w ∧ w.cell? a = some x ∧ w.cell? b = some y ∧ w.cell? c = some z) :
    Below w0.heap.size w0 (w.alloc o) ∧ (w.alloc o).cell? a = some x ∧ (w.alloc o).cell? b = some y ∧ (w.alloc o).cell? c = some z := at_go h (below_alloc w o)
theorem at_store {w0 w : World} {a b c : Addr} {x y z X Y Z : Value} {p : Nat} (h : Below w0.heap.size w0 w ∧ w.cell? a = some x ∧ w.cell? b = some y ∧ w.cell? c = some z) (hp : w0.heap.size ≤ p) (ha : a.block < w0.heap.size) (hb : b.block < w0.heap.size) (hc : c.block < w0.heap.size) :
    Below w0.heap.size w0 (((w.setCell ⟨p, 0, none⟩ X).setCell ⟨p, 1, none⟩ Y).setCell ⟨p, 2, none⟩ Z) ∧ (((w.setCell ⟨p, 0, none⟩ X).setCell ⟨p, 1, none⟩ Y).setCell ⟨p, 2, none⟩ Z).cell? a = some x ∧ (((w.setCell ⟨p, 0, none⟩ X).setCell ⟨p, 1, none⟩ Y).setCell ⟨p, 2, none⟩ Z).cell? b = some y ∧ (((w.setCell ⟨p, 0, none⟩ X).setCell ⟨p, 1, none⟩ Y).setCell ⟨p, 2, none⟩ Z).cell? c = some z :=
  ⟨three_below _ _ _ h.1 hp, keepSt h.2 (by omega) (by omega) (by omega)⟩

theorem br_new {w w' : World} {a b c : Value} (hb : Below (w.alloc (.cells #[a, b, c] 55)).heap.size (w.alloc (.cells #[a, b, c] 55)) w') : Box3 w' w.heap.size a b c := (Box3.new w a b c).go hb

theorem br_drew {w w' : World} {a b c : Value} (hb : Below (w.alloc (.cells #[a, b, c] 55)).drew.heap.size (w.alloc (.cells #[a, b, c] 55)).drew w') : Box3 w' w.heap.size a b c := Box3.go (w := (w.alloc (.cells #[a, b, c] 55)).drew) (Box3.new w a b c) hb

/-- what stands in the pointer's box, which is new -/
def NewBox (w1 : World) (sg : Bool) (N D : Nat) (v : Value) (w' : World) : Prop :=
  ∃ p o1 k1 c1 o2 k2 c2, v = .pointer (some ⟨p, 0, none⟩) ∧ Box3 w' p (.bool sg) (.slice o1 k1 c1) (.slice o2 k2 c2) ∧ Num w' (.slice o1 k1 c1) N ∧ Num w' (.slice o2 k2 c2) D ∧ w1.heap.size ≤ p ∧ Below w1.heap.size w1 w'
theorem newBox_last {w1 W : World} {sg : Bool} {N D : Nat} {o1 o2 : Option Addr} {k1 k2 c1 c2 : Nat} (hb : Below w1.heap.size w1 W) (h1 : Num W (.slice o1 k1 c1) N) (h2 : Num W (.slice o2 k2 c2) D) :
    NewBox w1 sg N D (.pointer (some ⟨W.heap.size, 0, none⟩)) (W.alloc (.cells #[.bool sg, .slice o1 k1 c1, .slice o2 k2 c2] 55)) :=
  ⟨_, _, _, _, _, _, _, rfl, Box3.new _ _ _ _, h1.go (below_alloc _ _), h2.go (below_alloc _ _), hb.size, bstep hb (below_alloc _ _)⟩
theorem newBox_store {w1 W : World} {sg s0 : Bool} {N D p : Nat} {o1 o2 o3 o4 : Option Addr} {k1 k2 k3 k4 c1 c2 c3 c4 : Nat} (hb : Below w1.heap.size w1 W) (h1 : Num W (.slice o1 k1 c1) N) (h2 : Num W (.slice o2 k2 c2) D) (hp : w1.heap.size ≤ p)
    (bx : Box3 W p (.bool s0) (.slice o3 k3 c3) (.slice o4 k4 c4)) :
    NewBox w1 sg N D (.pointer (some ⟨p, 0, none⟩)) (((W.setCell ⟨p, 0, none⟩ (.bool sg)).setCell ⟨p, 1, none⟩ (.slice o1 k1 c1)).setCell ⟨p, 2, none⟩ (.slice o2 k2 c2)) :=
  ⟨_, _, _, _, _, _, _, rfl, bx.set _ _ _, h1.set3 bx _ _ _, h2.set3 bx _ _ _, hp, three_below _ _ _ hb hp⟩

set_option maxHeartbeats 4000000 in
set_option maxRecDepth 100000 in
theorem fracCompare_num {w : World} {v u : Value} {s t : Bool} {n d m c : Nat} (h : Frac w v s n d) (k : Frac w u t m c) (ln : Len n ≤ 1000000000) (ld : Len d ≤ 1000000000) (lm : Len m ≤ 1000000000) (lc : Len c ≤ 1000000000) :
    Calls Try.prog 77 #[v, u] w fun e w' => e = .returned (.int .i64 (sgn (addS (s && decide (n * c ≠ 0)) (n * c) (!t && decide (m * d ≠ 0)) (m * d) && decide (addN (s && decide (n * c ≠ 0)) (n * c) (!t && decide (m * d ≠ 0)) (m * d) ≠ 0)) (addN (s && decide (n * c ≠ 0)) (n * c) (!t && decide (m * d ≠ 0)) (m * d)))) ∧ Below w.heap.size w w' := by
  obtain ⟨o1, k1, c1', o2, k2, c2', rfl, hn, hd⟩ := h.box
  obtain ⟨o3, k3, c3', o4, k4, c4', rfl, hm, hc⟩ := k.box
  clear h k
  obtain ⟨B1, bA, bB⟩ := boxes2 w (.bool s) (.slice o1 k1 c1') (.slice o2 k2 c2') (.bool t) (.slice o3 k3 c3') (.slice o4 k4 c4')
  have Hn := Lib.hid (hn.go B1); have Hd := Lib.hid (hd.go B1); have Hm := Lib.hid (hm.go B1); have Hc := Lib.hid (hc.go B1)
  clear hn hd hm hc
  suffices main : ∀ R : Ending → World → Prop, Hid (∀ e w', e = .returned (.int .i64 (sgn (addS (s && decide (n * c ≠ 0)) (n * c) (!t && decide (m * d ≠ 0)) (m * d) && decide (addN (s && decide (n * c ≠ 0)) (n * c) (!t && decide (m * d ≠ 0)) (m * d) ≠ 0)) (addN (s && decide (n * c ≠ 0)) (n * c) (!t && decide (m * d ≠ 0)) (m * d)))) ∧ Below w.heap.size w w' → R e w') → Calls Try.prog 77 #[.agg #[.bool s, .slice o1 k1 c1', .slice o2 k2 c2'], .agg #[.bool t, .slice o3 k3 c3', .slice o4 k4 c4']] w R from main _ (fun _ _ h => h)
  intro R HR
  have l1 := len_mul n c
  have l2 := len_mul m d
  have P1 := Lib.hid (fun w' a b => times_num (w := w') (va := .slice o1 k1 c1') (vb := .slice o4 k4 c4') (a := n) (b := c) a b (by omega) (by omega))
  have P2 := Lib.hid (fun w' a b => times_num (w := w') (va := .slice o3 k3 c3') (vb := .slice o2 k2 c2') (a := m) (b := d) a b (by omega) (by omega))
  have I1 := Lib.hid (fun w' v h => integer_num (w := w') (va := v) (a := n * c) s h (by omega))
  have I2 := Lib.hid (fun w' v h => integer_num (w := w') (va := v) (a := m * d) (!t) h (by omega))
  generalize (s && decide (n * c ≠ 0)) = sx at *
  generalize (!t && decide (m * d ≠ 0)) = sy at *
  generalize n * c = X at *
  generalize m * d = Y at *
  have la : Len (addN sx X sy Y) ≤ 4000000000 := by
    unfold addN
    have h1 := len_add X Y
    have h2 := len_mono (Nat.sub_le X Y)
    have h3 := len_mono (Nat.sub_le Y X)
    split
    · omega
    · split <;> omega
  have PS := Lib.hid (fun w' v u a b => plusSigned_num (w := w') (v := v) (u := u) (s := sx) (t := sy) (n := X) (d := 1) (m := Y) (c := 1) a b (by omega) (by omega))
  generalize (addS sx X sy Y && decide (addN sx X sy Y ≠ 0)) = sz at *
  generalize addN sx X sy Y = Z at *
  have PZ := Lib.hid (fun w' v a => sign_num (w := w') (v := v) (s := sz) (n := Z) (d := 1) a (by omega))
  generalize sgn sz Z = res at *
  go_enter Try.func77, Try.ntmps77
  go_wp2_with fail
  have BA := Lib.hid bA; have BB := Lib.hid bB; have HB1 := Lib.hid B1
  have hA := bA.lt
  have hB := bB.lt
  clear bA bB B1
  generalize (w.alloc (.cells #[.bool s, .slice o1 k1 c1', .slice o2 k2 c2'] 55)).alloc (.cells #[.bool t, .slice o3 k3 c3', .slice o4 k4 c4'] 55) = w1 at *
  apply wp_cut3 (R := fun v1 v2 v3 w' => NewBox w1 sx X 1 v1 w')
  case h =>
    have c0 := BA.out.c0
    have c1 := BA.out.c1
    have d2 := BB.out.c2
    have P1' := Lib.hid (fun (w' : World) (h : Below w1.heap.size w1 w' ∧ w'.cell? ⟨w.heap.size, 0, none⟩ = some (.bool s) ∧ w'.cell? ⟨w.heap.size, 1, none⟩ = some (.slice o1 k1 c1') ∧ w'.cell? ⟨w.heap.size + 1, 2, none⟩ = some (.slice o4 k4 c4')) => P1.out w' (Hn.out.go h.1) (Hc.out.go h.1))
    go_region_held (fun w' => Below w1.heap.size w1 w' ∧ w'.cell? ⟨w.heap.size, 0, none⟩ = some (.bool s) ∧ w'.cell? ⟨w.heap.size, 1, none⟩ = some (.slice o1 k1 c1') ∧ w'.cell? ⟨w.heap.size + 1, 2, none⟩ = some (.slice o4 k4 c4'))
      (first | exact ⟨below_drew w1, c0, c1, d2⟩ | exact at_go (by assumption) hb5 | exact at_go (by assumption) hb4 | exact at_alloc (by assumption) | exact at_alloc (at_go (at_go ⟨below_drew w1, c0, c1, d2⟩ hb4) hb5) | exact at_store (by assumption) (by first | exact Nat.le_refl _ | exact hb4.size) hA hA hB)
      ((first
        | (go_at_call 108; (with_reducible refine (P1'.out _ ?_).mono ?_); (focus assumption); rintro e w4 ⟨v4, rfl, hv4, hb4⟩; (first | have br := br_new hb4 | have br := br_drew hb4 | skip))
        | (go_at_call 55; (first | (with_reducible refine (I1.out _ _ hv4).mono ?_) | (with_reducible refine (I1.out _ _ (Num.go hv4 (below_alloc _ _))).mono ?_)); rintro e w5 ⟨v5, rfl, hv5, hb5⟩; obtain ⟨p5, q5, z5, p6, q6, z6, rfl, hx5, hx6⟩ := hv5.box; first | (have br := Box3.go br hb5; obtain ⟨r0, r1, r2, f0, f1, f2⟩ := Box3.facts br) | (have br := br_new hb5; obtain ⟨r0, r1, r2, f0, f1, f2⟩ := Box3.facts br) | skip)))
    all_goals first
      | (have hnb := newBox_last (sg := sx) (w1 := w1) (bstep (below_drew w1) (bstep hb4 hb5)) hx5 hx6
         generalize Value.agg #[.bool sx, .slice p5 q5 z5, .slice p6 q6 z6] = vg at *
         generalize Value.pointer (some ⟨w5.heap.size, 0, none⟩) = vp at *
         exact ⟨vp, v4, vg, rfl, hnb⟩)
      | (have hnb := newBox_store (sg := sx) (w1 := w1) (bstep (bstep (bstep (below_drew w1) hb4) (below_alloc _ _)) hb5) hx5 hx6 hb4.size br
         generalize Value.agg #[.bool sx, .slice p5 q5 z5, .slice p6 q6 z6] = vg at *
         generalize Value.pointer (some ⟨w4.heap.size, 0, none⟩) = vp at *
         exact ⟨vp, v4, vg, rfl, hnb⟩)
      | (have hnb := newBox_store (sg := sx) (w1 := w1) (bstep (bstep (bstep (below_alloc w1 _) (below_drew _)) hb4) hb5) hx5 hx6 (Nat.le_refl _) br
         generalize Value.agg #[.bool sx, .slice p5 q5 z5, .slice p6 q6 z6] = vg at *
         generalize Value.pointer (some ⟨w1.heap.size, 0, none⟩) = vp at *
         exact ⟨vp, v4, vg, rfl, hnb⟩)
  case h2 =>
    rintro v1 v2 v3 w2 hnb
    obtain ⟨px, e1, g1, z1, e2, g2, z2, rfl, bX, hX1, hX2, hpx, hb2⟩ := hnb
    have BX := Lib.hid bX; have HX1 := Lib.hid hX1; have HX2 := Lib.hid hX2; have HB2 := Lib.hid hb2
    have BA2 := Lib.hid (BA.out.go hb2); have BB2 := Lib.hid (BB.out.go hb2)
    clear bX hX1 hX2 hb2 P1 I1
    have hA2 := BA2.out.lt
    have hB2 := BB2.out.lt
    go_wp2_with fail
    apply wp_cut3 (R := fun v1 v2 v3 w' => NewBox w2 sy Y 1 v1 w')
    case h =>
      have Hm2 := Lib.hid (Hm.out.go HB2.out); have Hd2 := Lib.hid (Hd.out.go HB2.out)
      have c0 := BB2.out.c0
      have c1 := BB2.out.c1
      have d2 := BA2.out.c2
      have P2' := Lib.hid (fun (w' : World) (h : Below w2.heap.size w2 w' ∧ w'.cell? ⟨w.heap.size + 1, 0, none⟩ = some (.bool t) ∧ w'.cell? ⟨w.heap.size + 1, 1, none⟩ = some (.slice o3 k3 c3') ∧ w'.cell? ⟨w.heap.size, 2, none⟩ = some (.slice o2 k2 c2')) => P2.out w' (Hm2.out.go h.1) (Hd2.out.go h.1))
      go_region_held (fun w' => Below w2.heap.size w2 w' ∧ w'.cell? ⟨w.heap.size + 1, 0, none⟩ = some (.bool t) ∧ w'.cell? ⟨w.heap.size + 1, 1, none⟩ = some (.slice o3 k3 c3') ∧ w'.cell? ⟨w.heap.size, 2, none⟩ = some (.slice o2 k2 c2'))
        (first | exact ⟨below_drew w2, c0, c1, d2⟩ | exact at_go (by assumption) hb5 | exact at_go (by assumption) hb4 | exact at_alloc (by assumption) | exact at_alloc (at_go (at_go ⟨below_drew w2, c0, c1, d2⟩ hb4) hb5) | exact at_store (by assumption) (by first | exact Nat.le_refl _ | exact hb4.size) hB2 hB2 hA2)
        ((first
          | (go_at_call 108; (with_reducible refine (P2'.out _ ?_).mono ?_); (focus assumption); rintro e w4 ⟨v4, rfl, hv4, hb4⟩; (first | have br := br_new hb4 | have br := br_drew hb4 | skip))
          | (go_at_call 55; (first | (with_reducible refine (I2.out _ _ hv4).mono ?_) | (with_reducible refine (I2.out _ _ (Num.go hv4 (below_alloc _ _))).mono ?_)); rintro e w5 ⟨v5, rfl, hv5, hb5⟩; obtain ⟨p5, q5, z5, p6, q6, z6, rfl, hx5, hx6⟩ := hv5.box; first | (have br := Box3.go br hb5; obtain ⟨r0, r1, r2, f0, f1, f2⟩ := Box3.facts br) | (have br := br_new hb5; obtain ⟨r0, r1, r2, f0, f1, f2⟩ := Box3.facts br) | skip)))
      all_goals first
        | (have hnb := newBox_last (sg := sy) (w1 := w2) (bstep (below_drew w2) (bstep hb4 hb5)) hx5 hx6
           generalize Value.agg #[.bool sy, .slice p5 q5 z5, .slice p6 q6 z6] = vg at *
           generalize Value.pointer (some ⟨w5.heap.size, 0, none⟩) = vp at *
           exact ⟨vp, v4, vg, rfl, hnb⟩)
        | (have hnb := newBox_store (sg := sy) (w1 := w2) (bstep (bstep (bstep (below_drew w2) hb4) (below_alloc _ _)) hb5) hx5 hx6 hb4.size br
           generalize Value.agg #[.bool sy, .slice p5 q5 z5, .slice p6 q6 z6] = vg at *
           generalize Value.pointer (some ⟨w4.heap.size, 0, none⟩) = vp at *
           exact ⟨vp, v4, vg, rfl, hnb⟩)
        | (have hnb := newBox_store (sg := sy) (w1 := w2) (bstep (bstep (bstep (below_alloc w2 _) (below_drew _)) hb4) hb5) hx5 hx6 (Nat.le_refl _) br
           generalize Value.agg #[.bool sy, .slice p5 q5 z5, .slice p6 q6 z6] = vg at *
           generalize Value.pointer (some ⟨w2.heap.size, 0, none⟩) = vp at *
           exact ⟨vp, v4, vg, rfl, hnb⟩)
    case h2 =>
      rintro v1 v2' v3' w3 hnb
      obtain ⟨py, e3, g3, z3, e4, g4, z4, rfl, bY, hY1, hY2, hpy, hb3⟩ := hnb
      have hbx := (BX.out.go hb3)
      have c0 := hbx.c0
      have c1 := hbx.c1
      have c2 := hbx.c2
      obtain ⟨d0, d1, d2⟩ := Box3.cells bY
      have HX3 : Hid (Frac w3 (.agg #[.bool sx, .slice e1 g1 z1, .slice e2 g2 z2]) sx X 1) := ⟨_, _, rfl, HX1.out.go hb3, HX2.out.go hb3⟩
      have HY3 : Hid (Frac w3 (.agg #[.bool sy, .slice e3 g3 z3, .slice e4 g4 z4]) sy Y 1) := ⟨_, _, rfl, hY1, hY2⟩
      have B3 := Lib.hid (bstep (bstep HB1.out HB2.out) hb3)
      clear bY hY1 hY2 hb3 hbx P2 I2
      go_wp2_with fail
      refine (PS.out _ _ _ HX3.out HY3.out).mono ?_; rintro e w4 ⟨v4, rfl, hv4, hb4⟩
      have Hv4 := Lib.hid hv4; clear hv4
      go_wp2_with fail
      refine (PZ.out _ _ Hv4.out).mono ?_; rintro e w5 ⟨rfl, hb5⟩
      go_wp2_with fail
      exact HR.out _ _ ⟨rfl, bstep (bstep B3.out hb4) hb5⟩
end Go.Proofs.Ytlkdahgfnfdakaa

namespace Go.Proofs.Ytlkdahgfnfdakaa
open Go.RowKit WN LM

/-- the size of the greatest integer that is not greater -/
def floorN (s : Bool) (n d : Nat) : Nat := if s && decide (n % d ≠ 0) then n / d + 1 else n / d

set_option maxHeartbeats 2000000 in
set_option maxRecDepth 100000 in
theorem floor_num {w : World} {v : Value} {s : Bool} {n d : Nat} (h : Frac w v s n d) (ln : Len n ≤ 1000000000) (ld : Len d ≤ 1000000000) (d0 : 0 < d) : Calls Try.prog 80 #[v] w (RetF w (s && decide (floorN s n d ≠ 0)) (floorN s n d) 1) := by
  obtain ⟨o1, k1, c1', o2, k2, c2', rfl, hn, hd⟩ := h.box
  clear h
  obtain ⟨B1, bA, bR⟩ := boxes2 w (.bool s) (.slice o1 k1 c1') (.slice o2 k2 c2') (.bool false) (.slice none 0 0) (.slice none 0 0)
  have Hn := Lib.hid (hn.go B1); have Hd := Lib.hid (hd.go B1)
  clear hn hd
  suffices main : ∀ R : Ending → World → Prop, Hid (∀ e w', RetF w (s && decide (floorN s n d ≠ 0)) (floorN s n d) 1 e w' → R e w') → Calls Try.prog 80 #[.agg #[.bool s, .slice o1 k1 c1', .slice o2 k2 c2']] w R from main _ (fun _ _ h => h)
  intro R HR
  have D0 := Lib.hid d0; clear d0
  have l1 := len_mono (Nat.div_le_self n d)
  have l2 := len_add (n / d) 1
  have l3 := len_small (show 1 < 1000000000 by omega)
  have l4 := len_mono (Nat.mod_le n d)
  have BR := Lib.hid bR; have HB1 := Lib.hid B1; have BA := Lib.hid bA
  have c0 := bA.c0; have c1 := bA.c1; have c2 := bA.c2
  clear bA bR B1
  go_enter Try.func80, Try.ntmps80
  go_wp2_with fail
  generalize (w.alloc (.cells #[.bool s, .slice o1 k1 c1', .slice o2 k2 c2'] 55)).alloc (.cells #[.bool false, .slice none 0 0, .slice none 0 0] 55) = w1 at *
  refine (over_num Hn.out Hd.out ln ld D0.out).mono ?_; rintro e w2 ⟨vq, vr, rfl, hq, hr, hb2⟩
  have Hq := Lib.hid hq; have Hr := Lib.hid hr; clear hq hr
  clear c0 c1 c2
  have c0 := (BA.out.go hb2).c0
  have B2 := Lib.hid (bstep HB1.out hb2); have BR2 := Lib.hid (BR.out.go hb2); have BA2 := Lib.hid (BA.out.go hb2)
  clear hb2
  by_cases hc : s = true ∧ n % d ≠ 0
  · obtain ⟨rfl, hm⟩ := hc
    have Hf : Hid (floorN true n d = n / d + 1) := by show _ = _; unfold floorN; rw [if_pos (by simp [hm])]
    rw [Hf.out] at HR
    have hmd : Hid (decide (n % d = 0) = false) := by show _ = _; simp [hm]
    clear hm
    have IN := Lib.hid (fun w' v h => integer_num (w := w') (va := v) (a := n / d + 1) true h (by omega))
    generalize (true && decide (n / d + 1 ≠ 0)) = sz at *
    go_wp2_with fail
    refine (isZero_num Hr.out (by omega)).mono ?_; rintro e w3 ⟨rfl, rfl⟩; rw [hmd.out]
    go_wp2_with fail
    refine (one_num _).mono ?_; rintro e w3 ⟨v3, rfl, hv3, hb3⟩
    have Hv3 := Lib.hid hv3; clear hv3
    go_wp2_with fail
    refine (plus_num (Hq.out.go hb3) Hv3.out (by omega) (by omega)).mono ?_; rintro e w4 ⟨v4, rfl, hv4, hb4⟩
    have Hv4 := Lib.hid hv4; clear hv4
    have B4 := Lib.hid (bstep hb3 hb4); clear hb3 hb4 c0
    have c0 := (BA2.out.go B4.out).c0
    go_wp2_with fail
    refine (IN.out _ _ Hv4.out).mono ?_; rintro e w5 ⟨v5, rfl, hv5, hb5⟩
    obtain ⟨p5, q5, z5, p6, q6, z6, rfl, hx5, hx6⟩ := hv5.box
    have Hx5 := Lib.hid hx5; have Hx6 := Lib.hid hx6
    have BR5 := Lib.hid (BR2.out.go (bstep B4.out hb5)); have B5 := Lib.hid (bstep (bstep B2.out B4.out) hb5)
    clear hv5 hx5 hx6 hb5 c0
    obtain ⟨r0, r1, r2, f0, f1, f2⟩ := Box3.facts BR5.out
    go_wp2_with fail
    obtain ⟨e0, e1, e2, hret⟩ := box_ret (t := sz) BR5.out Hx5.out Hx6.out B5.out (by omega)
    refine bodyPost_ret ?_ rfl (HR.out _ _ hret)
    simp [results, Try.f80, go_sem, e0, e1, e2]
  · have Hf : Hid (floorN s n d = n / d) := by
      show _ = _; unfold floorN; rw [if_neg]; intro h; simp at h; exact hc ⟨h.1, h.2⟩
    rw [Hf.out] at HR
    have IN := Lib.hid (fun w' v h => integer_num (w := w') (va := v) (a := n / d) s h (by omega))
    cases s
    · generalize (false && decide (n / d ≠ 0)) = sz at *
      clear hc
      go_wp2_with fail
      refine (IN.out _ _ Hq.out).mono ?_; rintro e w5 ⟨v5, rfl, hv5, hb5⟩
      obtain ⟨p5, q5, z5, p6, q6, z6, rfl, hx5, hx6⟩ := hv5.box
      have Hx5 := Lib.hid hx5; have Hx6 := Lib.hid hx6
      have BR5 := Lib.hid (BR2.out.go hb5); have B5 := Lib.hid (bstep B2.out hb5)
      clear hv5 hx5 hx6 hb5 c0
      obtain ⟨r0, r1, r2, f0, f1, f2⟩ := Box3.facts BR5.out
      go_wp2_with fail
      obtain ⟨e0, e1, e2, hret⟩ := box_ret (t := sz) BR5.out Hx5.out Hx6.out B5.out (by omega)
      refine bodyPost_ret ?_ rfl (HR.out _ _ hret)
      simp [results, Try.f80, go_sem, e0, e1, e2]
    · have hm : n % d = 0 := by
        rcases Nat.eq_zero_or_pos (n % d) with h | h
        · exact h
        · exact (hc ⟨rfl, by omega⟩).elim
      have hmd : Hid (decide (n % d = 0) = true) := by show _ = _; simp [hm]
      clear hm hc
      generalize (true && decide (n / d ≠ 0)) = sz at *
      go_wp2_with fail
      refine (isZero_num Hr.out (by omega)).mono ?_; rintro e w3 ⟨rfl, rfl⟩; rw [hmd.out]
      go_wp2_with fail
      refine (IN.out _ _ Hq.out).mono ?_; rintro e w5 ⟨v5, rfl, hv5, hb5⟩
      obtain ⟨p5, q5, z5, p6, q6, z6, rfl, hx5, hx6⟩ := hv5.box
      have Hx5 := Lib.hid hx5; have Hx6 := Lib.hid hx6
      have BR5 := Lib.hid (BR2.out.go hb5); have B5 := Lib.hid (bstep B2.out hb5)
      clear hv5 hx5 hx6 hb5 c0
      obtain ⟨r0, r1, r2, f0, f1, f2⟩ := Box3.facts BR5.out
      go_wp2_with fail
      obtain ⟨e0, e1, e2, hret⟩ := box_ret (t := sz) BR5.out Hx5.out Hx6.out B5.out (by omega)
      refine bodyPost_ret ?_ rfl (HR.out _ _ hret)
      simp [results, Try.f80, go_sem, e0, e1, e2]
end Go.Proofs.Ytlkdahgfnfdakaa

namespace Go.Proofs.Ytlkdahgfnfdakaa
open Go.RowKit WN LM

/-- the size of the nearest integer, of two the even one -/
def roundN (n d : Nat) : Nat := if d < n % d + n % d ∨ (n % d + n % d = d ∧ n / d % 2 = 1) then n / d + 1 else n / d

theorem wp_cut1 {P : Program} {c : Code} {Q : Exit → Act → World → Prop} {a : Act} {w : World} {R : Value → World → Prop} (F : Value → Act) (h : c.wp P (OnlyNormal fun a' w' => ∃ v1, a' = F v1 ∧ R v1 w') a w)
    (h2 : ∀ v1 w', R v1 w' → Q .normal (F v1) w') : c.wp P Q a w :=
  wp_mono h (OnlyNormal.elim (by rintro a' w' ⟨v1, rfl, h⟩; exact h2 v1 w' h))

set_option maxHeartbeats 4000000 in
set_option maxRecDepth 100000 in
theorem round_num {w : World} {v : Value} {s : Bool} {n d : Nat} (h : Frac w v s n d) (ln : Len n ≤ 1000000000) (ld : Len d ≤ 1000000000) (d0 : 0 < d) : Calls Try.prog 82 #[v] w (RetF w (s && decide (roundN n d ≠ 0)) (roundN n d) 1) := by
  obtain ⟨o1, k1, c1', o2, k2, c2', rfl, hn, hd⟩ := h.box
  clear h
  obtain ⟨B1, bA, bR⟩ := boxes2 w (.bool s) (.slice o1 k1 c1') (.slice o2 k2 c2') (.bool false) (.slice none 0 0) (.slice none 0 0)
  have Hn := Lib.hid (hn.go B1); have Hd := Lib.hid (hd.go B1)
  clear hn hd
  suffices main : ∀ R : Ending → World → Prop, Hid (∀ e w', RetF w (s && decide (roundN n d ≠ 0)) (roundN n d) 1 e w' → R e w') → Calls Try.prog 82 #[.agg #[.bool s, .slice o1 k1 c1', .slice o2 k2 c2']] w R from main _ (fun _ _ h => h)
  intro R HR
  have D0 := Lib.hid d0; clear d0
  have l1 := len_mono (Nat.div_le_self n d)
  have l2 := len_add (n / d) 1
  have l3 := len_small (show 1 < 1000000000 by omega)
  have l4 := len_mono (Nat.mod_le n d)
  have l5 := len_add (n % d) (n % d)
  have BR := Lib.hid bR; have HB1 := Lib.hid B1; have BA := Lib.hid bA
  have c0 := bA.c0; have c1 := bA.c1; have c2 := bA.c2
  clear bA bR B1
  go_enter Try.func82, Try.ntmps82
  go_wp2_with fail
  generalize (w.alloc (.cells #[.bool s, .slice o1 k1 c1', .slice o2 k2 c2'] 55)).alloc (.cells #[.bool false, .slice none 0 0, .slice none 0 0] 55) = w1 at *
  refine (over_num Hn.out Hd.out ln ld D0.out).mono ?_; rintro e w2 ⟨vq, vr, rfl, hq, hr, hb2⟩
  have Hq := Lib.hid hq; have Hr := Lib.hid hr; clear hq hr
  clear c0 c1 c2
  have B2 := Lib.hid (bstep HB1.out hb2); have BR2 := Lib.hid (BR.out.go hb2); have BA2 := Lib.hid (BA.out.go hb2); have Hd2 := Lib.hid (Hd.out.go hb2)
  clear hb2
  go_wp2_with fail
  obtain ⟨cr, hcr⟩ : ∃ cr, cmpN (n % d + n % d) d = cr := ⟨_, rfl⟩
  have P1 := Lib.hid (plus_num Hr.out.drew Hr.out.drew (by omega) (by omega))
  have P2 := Lib.hid (fun w' v h k => by have := compare_num (w := w') (va := v) (vb := .slice o2 k2 c2') (a := n % d + n % d) (b := d) h k (by omega) (by omega); rw [hcr] at this; exact this)
  have Hcr := Lib.hid hcr; clear hcr
  apply wp_cut1 (R := fun v1 w' => Below w2.heap.size w2 w')
  case h =>
    have c0 := BA2.out.c0; have c1 := BA2.out.c1; have c2 := BA2.out.c2
    go_region_held (fun w' => Below w2.heap.size w2 w' ∧ w'.cell? ⟨w.heap.size, 0, none⟩ = some (.bool s) ∧ w'.cell? ⟨w.heap.size, 1, none⟩ = some (.slice o1 k1 c1') ∧ w'.cell? ⟨w.heap.size, 2, none⟩ = some (.slice o2 k2 c2'))
      (first | exact ⟨below_drew w2, c0, c1, c2⟩ | exact at_go (by assumption) hb5 | exact at_go (by assumption) hb4)
      ((first
        | (go_at_call 116; (with_reducible refine P1.out.mono ?_); rintro e w4 ⟨v4, rfl, hv4, hb4⟩)
        | (go_at_call 118; (with_reducible refine (P2.out _ _ hv4 (Hd2.out.go (bstep (below_drew w2) hb4))).mono ?_); rintro e w5 ⟨rfl, hb5⟩)))
    all_goals (
      have hb : Below w2.heap.size w2 w5 := bstep (bstep (below_drew w2) hb4) hb5
      exact ⟨v4, rfl, hb⟩)
  case h2 =>
    rintro v1 w3 hb3
    have c0 := (BA2.out.go hb3).c0
    have HX := Lib.hid (Hq.out.go hb3); have BRX := Lib.hid (BR2.out.go hb3); have BX := Lib.hid (bstep B2.out hb3); have BA3 := Lib.hid (BA2.out.go hb3)
    clear hb3 Hq Hr BR2 BA2 B2 Hd2 P1 P2
    rcases Nat.lt_trichotomy (n % d + n % d) d with hlt | heq | hgt
    · have hc1 : cr = -1 := by rw [← Hcr.out]; unfold cmpN; rw [if_pos hlt]
      have Hf : Hid (roundN n d = n / d) := by show _ = _; unfold roundN; rw [if_neg (by omega)]
      rw [Hf.out] at HR
      have IN := Lib.hid (fun w' v h => integer_num (w := w') (va := v) (a := n / d) s h (by omega))
      generalize (s && decide (n / d ≠ 0)) = sz at *
      clear hlt
      subst hc1
      go_wp2_with fail
      refine (IN.out _ _ HX.out).mono ?_; rintro e w5 ⟨v5, rfl, hv5, hb5⟩
      obtain ⟨p5, q5, z5, p6, q6, z6, rfl, hx5, hx6⟩ := hv5.box
      have Hx5 := Lib.hid hx5; have Hx6 := Lib.hid hx6
      have BR5 := Lib.hid (BRX.out.go hb5); have B5 := Lib.hid (bstep BX.out hb5)
      clear hv5 hx5 hx6 hb5 c0
      obtain ⟨r0, r1, r2, f0, f1, f2⟩ := Box3.facts BR5.out
      go_wp2_with fail
      obtain ⟨e0, e1, e2, hret⟩ := box_ret (t := sz) BR5.out Hx5.out Hx6.out B5.out (by omega)
      refine bodyPost_ret ?_ rfl (HR.out _ _ hret)
      simp [results, Try.f82, go_sem, e0, e1, e2]
    · have hc1 : cr = 0 := by rw [← Hcr.out]; unfold cmpN; rw [if_neg (by omega), if_neg (by omega)]
      subst hc1
      by_cases hodd : n / d % 2 = 1
      · have Hf : Hid (roundN n d = n / d + 1) := by show _ = _; unfold roundN; rw [if_pos (.inr ⟨heq, hodd⟩)]
        rw [Hf.out] at HR
        have IN := Lib.hid (fun w' v h => integer_num (w := w') (va := v) (a := n / d + 1) s h (by omega))
        generalize (s && decide (n / d + 1 ≠ 0)) = sz at *
        have Hod : Hid (decide (n / d % 2 = 1) = true) := by show _ = _; simp [hodd]
        clear heq hodd
        go_wp2_with fail
        refine (isOdd_num HX.out (by omega)).mono ?_; rintro e w4 ⟨rfl, rfl⟩; rw [Hod.out]
        go_wp2_with fail
        refine (one_num _).mono ?_; rintro e w4 ⟨v4, rfl, hv4, hb4⟩
        have Hv4 := Lib.hid hv4; clear hv4
        go_wp2_with fail
        refine (plus_num (HX.out.go hb4) Hv4.out (by omega) (by omega)).mono ?_; rintro e w6 ⟨v6, rfl, hv6, hb6⟩
        have HX := Lib.hid hv6; have BRX := Lib.hid (BRX.out.go (bstep hb4 hb6)); have BX := Lib.hid (bstep BX.out (bstep hb4 hb6))
        have c0 := (BA3.out.go (bstep hb4 hb6)).c0
        clear hv6 hb6 hb4
        go_wp2_with fail
        refine (IN.out _ _ HX.out).mono ?_; rintro e w5 ⟨v5, rfl, hv5, hb5⟩
        obtain ⟨p5, q5, z5, p6, q6, z6, rfl, hx5, hx6⟩ := hv5.box
        have Hx5 := Lib.hid hx5; have Hx6 := Lib.hid hx6
        have BR5 := Lib.hid (BRX.out.go hb5); have B5 := Lib.hid (bstep BX.out hb5)
        clear hv5 hx5 hx6 hb5 c0
        obtain ⟨r0, r1, r2, f0, f1, f2⟩ := Box3.facts BR5.out
        go_wp2_with fail
        obtain ⟨e0, e1, e2, hret⟩ := box_ret (t := sz) BR5.out Hx5.out Hx6.out B5.out (by omega)
        refine bodyPost_ret ?_ rfl (HR.out _ _ hret)
        simp [results, Try.f82, go_sem, e0, e1, e2]
      · have Hf : Hid (roundN n d = n / d) := by show _ = _; unfold roundN; rw [if_neg (by omega)]
        rw [Hf.out] at HR
        have IN := Lib.hid (fun w' v h => integer_num (w := w') (va := v) (a := n / d) s h (by omega))
        generalize (s && decide (n / d ≠ 0)) = sz at *
        have Hod : Hid (decide (n / d % 2 = 1) = false) := by show _ = _; simp [hodd]
        clear heq hodd
        go_wp2_with fail
        refine (isOdd_num HX.out (by omega)).mono ?_; rintro e w4 ⟨rfl, rfl⟩; rw [Hod.out]
        go_wp2_with fail
        refine (IN.out _ _ HX.out).mono ?_; rintro e w5 ⟨v5, rfl, hv5, hb5⟩
        obtain ⟨p5, q5, z5, p6, q6, z6, rfl, hx5, hx6⟩ := hv5.box
        have Hx5 := Lib.hid hx5; have Hx6 := Lib.hid hx6
        have BR5 := Lib.hid (BRX.out.go hb5); have B5 := Lib.hid (bstep BX.out hb5)
        clear hv5 hx5 hx6 hb5 c0
        obtain ⟨r0, r1, r2, f0, f1, f2⟩ := Box3.facts BR5.out
        go_wp2_with fail
        obtain ⟨e0, e1, e2, hret⟩ := box_ret (t := sz) BR5.out Hx5.out Hx6.out B5.out (by omega)
        refine bodyPost_ret ?_ rfl (HR.out _ _ hret)
        simp [results, Try.f82, go_sem, e0, e1, e2]
    · have hc1 : cr = 1 := by rw [← Hcr.out]; unfold cmpN; rw [if_neg (by omega), if_pos hgt]
      have Hf : Hid (roundN n d = n / d + 1) := by show _ = _; unfold roundN; rw [if_pos (.inl hgt)]
      rw [Hf.out] at HR
      have IN := Lib.hid (fun w' v h => integer_num (w := w') (va := v) (a := n / d + 1) s h (by omega))
      generalize (s && decide (n / d + 1 ≠ 0)) = sz at *
      clear hgt
      subst hc1
      go_wp2_with fail
      refine (one_num _).mono ?_; rintro e w4 ⟨v4, rfl, hv4, hb4⟩
      have Hv4 := Lib.hid hv4; clear hv4
      go_wp2_with fail
      refine (plus_num (HX.out.go hb4) Hv4.out (by omega) (by omega)).mono ?_; rintro e w6 ⟨v6, rfl, hv6, hb6⟩
      have HX := Lib.hid hv6; have BRX := Lib.hid (BRX.out.go (bstep hb4 hb6)); have BX := Lib.hid (bstep BX.out (bstep hb4 hb6))
      have c0 := (BA3.out.go (bstep hb4 hb6)).c0
      clear hv6 hb6 hb4
      go_wp2_with fail
      refine (IN.out _ _ HX.out).mono ?_; rintro e w5 ⟨v5, rfl, hv5, hb5⟩
      obtain ⟨p5, q5, z5, p6, q6, z6, rfl, hx5, hx6⟩ := hv5.box
      have Hx5 := Lib.hid hx5; have Hx6 := Lib.hid hx6
      have BR5 := Lib.hid (BRX.out.go hb5); have B5 := Lib.hid (bstep BX.out hb5)
      clear hv5 hx5 hx6 hb5 c0
      obtain ⟨r0, r1, r2, f0, f1, f2⟩ := Box3.facts BR5.out
      go_wp2_with fail
      obtain ⟨e0, e1, e2, hret⟩ := box_ret (t := sz) BR5.out Hx5.out Hx6.out B5.out (by omega)
      refine bodyPost_ret ?_ rfl (HR.out _ _ hret)
      simp [results, Try.f82, go_sem, e0, e1, e2]
end Go.Proofs.Ytlkdahgfnfdakaa

namespace Go.Proofs.Ytlkdahgfnfdakaa
open Go.RowKit WN LM

theorem u64_wrap_neg (n : Int) (h : n < 0) (h2 : -9223372036854775808 ≤ n) : IntKind.u64.wrap n = n + 18446744073709551616 := by
  have e : IntKind.u64.wrap n = n % 18446744073709551616 := by
    unfold IntKind.wrap
    simp [IntKind.signed, IntKind.bits]
  rw [e]; omega
theorem u64_wrap_back (n : Int) (h : n < 0) (h2 : -9223372036854775808 ≤ n) : IntKind.u64.wrap (-(n + 18446744073709551616)) = (n.natAbs : Nat) := by
  have e : IntKind.u64.wrap (-(n + 18446744073709551616)) = (-(n + 18446744073709551616)) % 18446744073709551616 := by
    unfold IntKind.wrap
    simp [IntKind.signed, IntKind.bits]
  rw [e]; omega

set_option maxHeartbeats 2000000 in
set_option maxRecDepth 100000 in
theorem fromInt_num (w : World) (n : Int) (h1 : -9223372036854775808 ≤ n) (h2 : n ≤ 9223372036854775807) : Calls Try.prog 63 #[.int .i64 n] w (RetF w (decide (n < 0)) n.natAbs 1) := by
  have B1 : Below w.heap.size w (w.alloc (.cells #[.bool false, .slice none 0 0, .slice none 0 0] 55)) := below_alloc _ _
  have bR := Box3.new w (.bool false) (.slice none 0 0) (.slice none 0 0)
  have BR := Lib.hid bR; have HB1 := Lib.hid B1; clear bR B1
  go_enter Try.func63, Try.ntmps63
  by_cases hn : n < 0
  · have hnd : decide (n < 0) = true := by simp [hn]
    have e1 := Lib.hid (u64_wrap_neg n hn h1)
    have e2 := Lib.hid (u64_wrap_back n hn h1)
    have hz : n.natAbs ≠ 0 := by omega
    have IN := Lib.hid (fun w' v h => integer_num (w := w') (va := v) (a := n.natAbs) true h (by have := len_lt (n := n.natAbs) (k := 3) (by have : (1000000000 : Nat) ^ 3 = 1000000000000000000000000000 := rfl; omega); omega))
    have FU := Lib.hid (fun w' => fromUint_num n.natAbs (by omega) w')
    have hzd : (true && decide (n.natAbs ≠ 0)) = decide (n < 0) := by rw [hnd]; simp; omega
    rw [hzd] at IN
    rw [hnd] at IN ⊢
    clear hz hzd
    generalize n.natAbs = m at *
    go_wp2_with fail
    rw [e1.out, e2.out]
    refine (FU.out _).mono ?_; rintro e w2 ⟨v2, rfl, hv2, hb2⟩
    have Hv2 := Lib.hid hv2; clear hv2
    go_wp2_with fail
    refine (IN.out _ _ Hv2.out).mono ?_; rintro e w3 ⟨v3, rfl, hv3, hb3⟩
    obtain ⟨p5, q5, z5, p6, q6, z6, rfl, hx5, hx6⟩ := hv3.box
    have Hx5 := Lib.hid hx5; have Hx6 := Lib.hid hx6
    have BR5 := Lib.hid (BR.out.go (bstep hb2 hb3)); have B5 := Lib.hid (bstep HB1.out (bstep hb2 hb3))
    clear hv3 hx5 hx6 hb2 hb3
    obtain ⟨r0, r1, r2, f0, f1, f2⟩ := Box3.facts BR5.out
    go_wp2_with fail
    obtain ⟨e0, e1, e2, hret⟩ := box_ret (t := true) BR5.out Hx5.out Hx6.out B5.out (by omega)
    refine bodyPost_ret ?_ rfl hret
    simp [results, Try.f63, go_sem, e0, e1, e2]
  · have hnd : decide (n < 0) = false := by simp; omega
    obtain ⟨m, rfl⟩ : ∃ m : Nat, n = m := ⟨n.toNat, by omega⟩
    have IN := Lib.hid (fun w' v h => integer_num (w := w') (va := v) (a := m) false h (by have := len_lt (n := m) (k := 3) (by have : (1000000000 : Nat) ^ 3 = 1000000000000000000000000000 := rfl; omega); omega))
    have FU := Lib.hid (fun w' => fromUint_num m (by omega) w')
    rw [hnd]
    have e1 : Hid (IntKind.u64.wrap (m : Int) = m) := IntWalk.u64_in _ ⟨by omega, by omega⟩
    rw [show ((m : Int)).natAbs = m from rfl]
    go_wp2_with fail
    refine (FU.out _).mono ?_; rintro e w2 ⟨v2, rfl, hv2, hb2⟩
    have Hv2 := Lib.hid hv2; clear hv2
    go_wp2_with fail
    refine (IN.out _ _ Hv2.out).mono ?_; rintro e w3 ⟨v3, rfl, hv3, hb3⟩
    obtain ⟨p5, q5, z5, p6, q6, z6, rfl, hx5, hx6⟩ := hv3.box
    have Hx5 := Lib.hid hx5; have Hx6 := Lib.hid hx6
    have BR5 := Lib.hid (BR.out.go (bstep hb2 hb3)); have B5 := Lib.hid (bstep HB1.out (bstep hb2 hb3))
    clear hv3 hx5 hx6 hb2 hb3
    obtain ⟨r0, r1, r2, f0, f1, f2⟩ := Box3.facts BR5.out
    go_wp2_with fail
    obtain ⟨e0, e1, e2, hret⟩ := box_ret (t := false) BR5.out Hx5.out Hx6.out B5.out (by omega)
    refine bodyPost_ret ?_ rfl hret
    simp [results, Try.f63, go_sem, e0, e1, e2]
end Go.Proofs.Ytlkdahgfnfdakaa
