import Derived.Test.YtlkdahgfnfdakaaDig
namespace Go.Proofs.Ytlkdahgfnfdakaa
open Go.RowKit WN LM

theorem Num.shape {w : World} {v : Value} {n : Nat} (h : Num w v n) : ∃ oa k c, v = .slice oa k c := by
  obtain ⟨oa, c, _, rfl, _⟩ := h.open
  exact ⟨oa, _, c, rfl⟩

/-- v is a number of the program: its sign, its numerator, its denominator -/
def Frac (w : World) (v : Value) (s : Bool) (n d : Nat) : Prop := ∃ vn vd, v = .agg #[.bool s, vn, vd] ∧ Num w vn n ∧ Num w vd d
def RetF (w : World) (s : Bool) (n d : Nat) (e : Ending) (w' : World) : Prop := ∃ v, e = .returned v ∧ Frac w' v s n d ∧ Below w.heap.size w w'
theorem Frac.below {w w' : World} {v : Value} {s : Bool} {n d : Nat} (h : Frac w v s n d) {B : Nat} (hb : Below B w w') (hB : w.heap.size ≤ B) : Frac w' v s n d := by
  obtain ⟨vn, vd, rfl, h1, h2⟩ := h
  exact ⟨vn, vd, rfl, h1.below hb hB, h2.below hb hB⟩

/-- a box that holds a number -/
def Box3 (w : World) (p : Nat) (a b c : Value) : Prop := w.heap[p]? = some (.cells #[a, b, c] 55 (0, 0))
theorem Box3.below {w w' : World} {p : Nat} {a b c : Value} (h : Box3 w p a b c) {B : Nat} (hb : Below B w w') (hp : p < B) : Box3 w' p a b c := (hb.block p hp).trans h
theorem Box3.c0 {w : World} {p : Nat} {a b c : Value} (h : Box3 w p a b c) : w.cell? ⟨p, 0, none⟩ = some a := by rw [cell_of_row _ _ _ _ _ _ h]; rfl
theorem Box3.c1 {w : World} {p : Nat} {a b c : Value} (h : Box3 w p a b c) : w.cell? ⟨p, 1, none⟩ = some b := by rw [cell_of_row _ _ _ _ _ _ h]; rfl
theorem Box3.c2 {w : World} {p : Nat} {a b c : Value} (h : Box3 w p a b c) : w.cell? ⟨p, 2, none⟩ = some c := by rw [cell_of_row _ _ _ _ _ _ h]; rfl
theorem Box3.f {w : World} {p : Nat} {a b c : Value} (h : Box3 w p a b c) (k : Nat) : w.frozen? ⟨p, k, none⟩ = false := frozen_of_row _ _ k _ _ h
theorem Box3.facts {w : World} {p : Nat} {a b c : Value} (h : Box3 w p a b c) : w.cell? ⟨p, 0, none⟩ = some a ∧ w.cell? ⟨p, 1, none⟩ = some b ∧ w.cell? ⟨p, 2, none⟩ = some c ∧ w.frozen? ⟨p, 0, none⟩ = false ∧ w.frozen? ⟨p, 1, none⟩ = false ∧ w.frozen? ⟨p, 2, none⟩ = false := ⟨h.c0, h.c1, h.c2, h.f 0, h.f 1, h.f 2⟩
theorem Box3.cells {w : World} {p : Nat} {a b c : Value} (h : Box3 w p a b c) : w.cell? ⟨p, 0, none⟩ = some a ∧ w.cell? ⟨p, 1, none⟩ = some b ∧ w.cell? ⟨p, 2, none⟩ = some c := ⟨h.c0, h.c1, h.c2⟩
theorem Box3.lt {w : World} {p : Nat} {a b c : Value} (h : Box3 w p a b c) : p < w.heap.size := lt_of_block h
theorem Box3.new (w : World) (a b c : Value) : Box3 (w.alloc (.cells #[a, b, c] 55)) w.heap.size a b c := alloc_at _ _ _ rfl
theorem Box3.set {w : World} {p : Nat} {a b c : Value} (h : Box3 w p a b c) (a' b' c' : Value) : Box3 (((w.setCell ⟨p, 0, none⟩ a').setCell ⟨p, 1, none⟩ b').setCell ⟨p, 2, none⟩ c') p a' b' c' := by
  have h1 := heap_setCell_same w p 0 _ 55 a' h
  have h2 := heap_setCell_same _ p 1 _ 55 b' h1
  have h3 := heap_setCell_same _ p 2 _ 55 c' h2
  exact h3
theorem three_below {w w' : World} {B g : Nat} (b0 b1 b2 : Value) (h : Below B w w') (hg : B ≤ g) :
    Below B w (((w'.setCell ⟨g, 0, none⟩ b0).setCell ⟨g, 1, none⟩ b1).setCell ⟨g, 2, none⟩ b2) :=
  ((h.setCell (p := ⟨g, 0, none⟩) hg _).setCell (p := ⟨g, 1, none⟩) hg _).setCell (p := ⟨g, 2, none⟩) hg _

theorem Num.set3 {w : World} {v : Value} {n p : Nat} (h : Num w v n) {s : Bool} {o1 o2 : Option Addr} {k1 k2 c1 c2 : Nat} (hb : Box3 w p (.bool s) (.slice o1 k1 c1) (.slice o2 k2 c2)) (x y z : Value) :
    Num (((w.setCell ⟨p, 0, none⟩ x).setCell ⟨p, 1, none⟩ y).setCell ⟨p, 2, none⟩ z) v n := by
  obtain ⟨l, ⟨oa, ca, rfl, hc, hcell⟩, hl⟩ := h
  refine ⟨l, ⟨oa, ca, rfl, hc, fun i hi => ?_⟩, hl⟩
  obtain ⟨b, off, rfl, e⟩ := hcell i hi
  refine ⟨b, off, rfl, ?_⟩
  have hne : p ≠ b := by
    rintro rfl
    rw [cell_of_row _ _ _ _ _ _ hb] at e
    rcases Nat.lt_or_ge (off + i) 3 with h | h
    · rcases (show off + i = 0 ∨ off + i = 1 ∨ off + i = 2 by omega) with h | h | h <;> (rw [h] at e; simp at e)
    · rw [Array.getElem?_eq_none (by simpa using h)] at e; cases e
  rw [World.cell?_setCell_far _ _ _ _ hne, World.cell?_setCell_far _ _ _ _ hne, World.cell?_setCell_far _ _ _ _ hne]
  exact e

/-- the end of a function whose result stands in a box -/
theorem box_ret {w w' : World} {p : Nat} {s : Bool} {o1 o2 : Option Addr} {k1 k2 c1 c2 : Nat} (bx : Box3 w' p (.bool s) (.slice o1 k1 c1) (.slice o2 k2 c2)) {t : Bool} {vn vd : Value} {n d : Nat} (hn : Num w' vn n) (hd : Num w' vd d) (hb : Below w.heap.size w w') (hp : w.heap.size ≤ p) :
    (((w'.setCell ⟨p, 0, none⟩ (.bool t)).setCell ⟨p, 1, none⟩ vn).setCell ⟨p, 2, none⟩ vd).cell? ⟨p, 0, none⟩ = some (.bool t) ∧
    (((w'.setCell ⟨p, 0, none⟩ (.bool t)).setCell ⟨p, 1, none⟩ vn).setCell ⟨p, 2, none⟩ vd).cell? ⟨p, 1, none⟩ = some vn ∧
    (((w'.setCell ⟨p, 0, none⟩ (.bool t)).setCell ⟨p, 1, none⟩ vn).setCell ⟨p, 2, none⟩ vd).cell? ⟨p, 2, none⟩ = some vd ∧
    RetF w t n d (.returned (.agg #[.bool t, vn, vd])) (((w'.setCell ⟨p, 0, none⟩ (.bool t)).setCell ⟨p, 1, none⟩ vn).setCell ⟨p, 2, none⟩ vd) := by
  have h := bx.set (.bool t) vn vd
  exact ⟨h.c0, h.c1, h.c2, _, rfl, ⟨vn, vd, rfl, hn.set3 bx _ _ _, hd.set3 bx _ _ _⟩, three_below _ _ _ hb hp⟩

set_option maxHeartbeats 1000000 in
set_option maxRecDepth 100000 in
theorem integer_num {w : World} {va : Value} {a : Nat} (s : Bool) (ha : Num w va a) (la : Len a ≤ 10000000000) : Calls Try.prog 55 #[.bool s, va] w (RetF w (s && decide (a ≠ 0)) a 1) := by
  obtain ⟨oa, ka, ca, rfl⟩ := ha.shape
  have Ha := Lib.hid ha
  clear ha
  have b1 : Below w.heap.size w (w.alloc (.cells #[.bool false, .slice none 0 0, .slice none 0 0] 55)) := (Below.refl _ w).alloc (Nat.le_refl _) _
  have bx := Box3.new w (.bool false) (.slice none 0 0) (.slice none 0 0)
  have Ha1 := Lib.hid (Ha.out.below b1 (Nat.le_refl _))
  have Hsg : Hid (decide (a = 0) = !decide (a ≠ 0)) := by show _ = _; simp
  go_enter Try.func55, Try.ntmps55
  generalize hd : decide (a ≠ 0) = t at *
  have Hd := Lib.hid hd; clear hd
  cases s
  · go_wp2_with fail
    generalize w.alloc (.cells #[.bool false, .slice none 0 0, .slice none 0 0] 55) = w1 at *
    refine (one_num _).mono ?_; rintro e w2 ⟨v2, rfl, hv2, hb2⟩
    have bx2 := bx.below hb2 bx.lt
    obtain ⟨c0, c1, c2, f0, f1, f2⟩ := Box3.facts bx2
    have Bx2 := Lib.hid bx2; clear bx bx2
    obtain ⟨o2, k2, c2', rfl⟩ := hv2.shape
    have Hv2 := Lib.hid hv2; clear hv2
    go_wp2_with fail
    obtain ⟨e0, e1, e2, hret⟩ := box_ret (t := false) Bx2.out (Ha1.out.below hb2 (Nat.le_refl _)) Hv2.out (b1.trans (hb2.mono b1.size)) (Nat.le_refl _)
    refine bodyPost_ret ?_ rfl hret
    simp [results, Try.f55, go_sem, e0, e1, e2]
  · go_wp2_with fail
    generalize w.alloc (.cells #[.bool false, .slice none 0 0, .slice none 0 0] 55) = w1 at *
    refine (isZero_num Ha1.out la).mono ?_; rintro e w2 ⟨rfl, rfl⟩; rw [Hsg.out]
    go_wp2_with fail
    refine (one_num _).mono ?_; rintro e w2 ⟨v2, rfl, hv2, hb2⟩
    have bx2 := bx.below hb2 bx.lt
    obtain ⟨c0, c1, c2, f0, f1, f2⟩ := Box3.facts bx2
    have Bx2 := Lib.hid bx2; clear bx bx2
    obtain ⟨o2, k2, c2', rfl⟩ := hv2.shape
    have Hv2 := Lib.hid hv2; clear hv2
    go_wp2_with fail
    obtain ⟨e0, e1, e2, hret⟩ := box_ret (t := t) Bx2.out (Ha1.out.below hb2 (Nat.le_refl _)) Hv2.out (b1.trans (hb2.mono b1.size)) (Nat.le_refl _)
    refine bodyPost_ret ?_ rfl hret
    simp [results, Try.f55, go_sem, e0, e1, e2]
end Go.Proofs.Ytlkdahgfnfdakaa
