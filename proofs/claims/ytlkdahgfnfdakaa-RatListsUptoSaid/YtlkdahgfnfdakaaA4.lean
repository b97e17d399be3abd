import Derived.Test.YtlkdahgfnfdakaaA3
namespace Go.Proofs.Ytlkdahgfnfdakaa
open Go.RowKit WN LM

theorem Num.shape {w : World} {v : Value} {n : Nat} (h : Num w v n) : ∃ oa k c, v = .slice oa k c := by
  obtain ⟨oa, c, _, rfl, _⟩ := h.open
  exact ⟨oa, _, c, rfl⟩

/-- v is a number of the program: its sign, its numerator, its denominator -/
def Frac (w : World) (v : Value) (s : Bool) (n d : Nat) : Prop := ∃ vn vd, v = .agg #[.bool s, vn, vd] ∧ Num w vn n ∧ Num w vd d
def RetF (w : World) (s : Bool) (n d : Nat) (e : Ending) (w' : World) : Prop := ∃ v, e = .returned v ∧ Frac w' v s n d ∧ Below w.heap.size w w'
theorem Frac.below {w w' : World} {v : Value} {s : Bool} {n d : Nat} (h : Frac w v s n d) {B : Nat} (hb : Below B w w') (hB : w.heap.size ≤ B) : Frac w' v s n d := by
  obtain ⟨vn, vd, rfl, h1, h2⟩ := h
  exact ⟨vn, vd, rfl, h1.below hb hB, h2.below hb hB⟩

/-- a box that holds a number -/
def Box3 (w : World) (p : Nat) (a b c : Value) : Prop := w.heap[p]? = some (.cells #[a, b, c] 55 (0, 0))
theorem Box3.below {w w' : World} {p : Nat} {a b c : Value} (h : Box3 w p a b c) {B : Nat} (hb : Below B w w') (hp : p < B) : Box3 w' p a b c := (hb.block p hp).trans h
theorem Box3.c0 {w : World} {p : Nat} {a b c : Value} (h : Box3 w p a b c) : w.cell? ⟨p, 0, none⟩ = some a := by rw [cell_of_row _ _ _ _ _ _ h]; rfl
theorem Box3.c1 {w : World} {p : Nat} {a b c : Value} (h : Box3 w p a b c) : w.cell? ⟨p, 1, none⟩ = some b := by rw [cell_of_row _ _ _ _ _ _ h]; rfl
theorem Box3.c2 {w : World} {p : Nat} {a b c : Value} (h : Box3 w p a b c) : w.cell? ⟨p, 2, none⟩ = some c := by rw [cell_of_row _ _ _ _ _ _ h]; rfl
theorem Box3.f {w : World} {p : Nat} {a b c : Value} (h : Box3 w p a b c) (k : Nat) : w.frozen? ⟨p, k, none⟩ = false := frozen_of_row _ _ k _ _ h
theorem Box3.facts {w : World} {p : Nat} {a b c : Value} (h : Box3 w p a b c) : w.cell? ⟨p, 0, none⟩ = some a ∧ w.cell? ⟨p, 1, none⟩ = some b ∧ w.cell? ⟨p, 2, none⟩ = some c ∧ w.frozen? ⟨p, 0, none⟩ = false ∧ w.frozen? ⟨p, 1, none⟩ = false ∧ w.frozen? ⟨p, 2, none⟩ = false := ⟨h.c0, h.c1, h.c2, h.f 0, h.f 1, h.f 2⟩
theorem Box3.cells {w : World} {p : Nat} {a b c : Value} (h : Box3 w p a b c) : w.cell? ⟨p, 0, none⟩ = some a ∧ w.cell? ⟨p, 1, none⟩ = some b ∧ w.cell? ⟨p, 2, none⟩ = some c := ⟨h.c0, h.c1, h.c2⟩
theorem Box3.lt {w : World} {p : Nat} {a b c : Value} (h : Box3 w p a b c) : p < w.heap.size := lt_of_block h
theorem Box3.new (w : World) (a b c : Value) : Box3 (w.alloc (.cells #[a, b, c] 55)) w.heap.size a b c := alloc_at _ _ _ rfl
theorem Box3.set {w : World} {p : Nat} {a b c : Value} (h : Box3 w p a b c) (a' b' c' : Value) : Box3 (((w.setCell ⟨p, 0, none⟩ a').setCell ⟨p, 1, none⟩ b').setCell ⟨p, 2, none⟩ c') p a' b' c' := by
  have h1 := heap_setCell_same w p 0 _ 55 a' h
  have h2 := heap_setCell_same _ p 1 _ 55 b' h1
  have h3 := heap_setCell_same _ p 2 _ 55 c' h2
  exact h3
theorem three_below {w w' : World} {B g : Nat} (b0 b1 b2 : Value) (h : Below B w w') (hg : B ≤ g) :
    Below B w (((w'.setCell ⟨g, 0, none⟩ b0).setCell ⟨g, 1, none⟩ b1).setCell ⟨g, 2, none⟩ b2) :=
  ((h.setCell (p := ⟨g, 0, none⟩) hg _).setCell (p := ⟨g, 1, none⟩) hg _).setCell (p := ⟨g, 2, none⟩) hg _

theorem Num.set3 {w : World} {v : Value} {n p : Nat} (h : Num w v n) {s : Bool} {o1 o2 : Option Addr} {k1 k2 c1 c2 : Nat} (hb : Box3 w p (.bool s) (.slice o1 k1 c1) (.slice o2 k2 c2)) (x y z : Value) :
    Num (((w.setCell ⟨p, 0, none⟩ x).setCell ⟨p, 1, none⟩ y).setCell ⟨p, 2, none⟩ z) v n := by
  obtain ⟨l, ⟨oa, ca, rfl, hc, hcell⟩, hl⟩ := h
  refine ⟨l, ⟨oa, ca, rfl, hc, fun i hi => ?_⟩, hl⟩
  obtain ⟨b, off, rfl, e⟩ := hcell i hi
  refine ⟨b, off, rfl, ?_⟩
  have hne : p ≠ b := by
    rintro rfl
    rw [cell_of_row _ _ _ _ _ _ hb] at e
    rcases Nat.lt_or_ge (off + i) 3 with h | h
    · rcases (show off + i = 0 ∨ off + i = 1 ∨ off + i = 2 by omega) with h | h | h <;> (rw [h] at e; simp at e)
    · rw [Array.getElem?_eq_none (by simpa using h)] at e; cases e
  rw [World.cell?_setCell_far _ _ _ _ hne, World.cell?_setCell_far _ _ _ _ hne, World.cell?_setCell_far _ _ _ _ hne]
  exact e

/-- the end of a function whose result stands in a box -/
theorem box_ret {w w' : World} {p : Nat} {s : Bool} {o1 o2 : Option Addr} {k1 k2 c1 c2 : Nat} (bx : Box3 w' p (.bool s) (.slice o1 k1 c1) (.slice o2 k2 c2)) {t : Bool} {vn vd : Value} {n d : Nat} (hn : Num w' vn n) (hd : Num w' vd d) (hb : Below w.heap.size w w') (hp : w.heap.size ≤ p) :
    (((w'.setCell ⟨p, 0, none⟩ (.bool t)).setCell ⟨p, 1, none⟩ vn).setCell ⟨p, 2, none⟩ vd).cell? ⟨p, 0, none⟩ = some (.bool t) ∧
    (((w'.setCell ⟨p, 0, none⟩ (.bool t)).setCell ⟨p, 1, none⟩ vn).setCell ⟨p, 2, none⟩ vd).cell? ⟨p, 1, none⟩ = some vn ∧
    (((w'.setCell ⟨p, 0, none⟩ (.bool t)).setCell ⟨p, 1, none⟩ vn).setCell ⟨p, 2, none⟩ vd).cell? ⟨p, 2, none⟩ = some vd ∧
    RetF w t n d (.returned (.agg #[.bool t, vn, vd])) (((w'.setCell ⟨p, 0, none⟩ (.bool t)).setCell ⟨p, 1, none⟩ vn).setCell ⟨p, 2, none⟩ vd) := by
  have h := bx.set (.bool t) vn vd
  exact ⟨h.c0, h.c1, h.c2, _, rfl, ⟨vn, vd, rfl, hn.set3 bx _ _ _, hd.set3 bx _ _ _⟩, three_below _ _ _ hb hp⟩

set_option maxHeartbeats 1000000 in
set_option maxRecDepth 100000 in
theorem integer_num {w : World} {va : Value} {a : Nat} (s : Bool) (ha : Num w va a) (la : Len a ≤ 10000000000) : Calls Try.prog 55 #[.bool s, va] w (RetF w (s && decide (a ≠ 0)) a 1) := by
  obtain ⟨oa, ka, ca, rfl⟩ := ha.shape
  have Ha := Lib.hid ha
  clear ha
  have b1 : Below w.heap.size w (w.alloc (.cells #[.bool false, .slice none 0 0, .slice none 0 0] 55)) := (Below.refl _ w).alloc (Nat.le_refl _) _
  have bx := Box3.new w (.bool false) (.slice none 0 0) (.slice none 0 0)
  have Ha1 := Lib.hid (Ha.out.below b1 (Nat.le_refl _))
  have Hsg : Hid (decide (a = 0) = !decide (a ≠ 0)) := by show _ = _; simp
  go_enter Try.func55, Try.ntmps55
  generalize hd : decide (a ≠ 0) = t at *
  have Hd := Lib.hid hd; clear hd
  cases s
  · go_wp2_with fail
    generalize w.alloc (.cells #[.bool false, .slice none 0 0, .slice none 0 0] 55) = w1 at *
    refine (one_num _).mono ?_; rintro e w2 ⟨v2, rfl, hv2, hb2⟩
    have bx2 := bx.below hb2 bx.lt
    obtain ⟨c0, c1, c2, f0, f1, f2⟩ := Box3.facts bx2
    have Bx2 := Lib.hid bx2; clear bx bx2
    obtain ⟨o2, k2, c2', rfl⟩ := hv2.shape
    have Hv2 := Lib.hid hv2; clear hv2
    go_wp2_with fail
    obtain ⟨e0, e1, e2, hret⟩ := box_ret (t := false) Bx2.out (Ha1.out.below hb2 (Nat.le_refl _)) Hv2.out (b1.trans (hb2.mono b1.size)) (Nat.le_refl _)
    refine bodyPost_ret ?_ rfl hret
    simp [results, Try.f55, go_sem, e0, e1, e2]
  · go_wp2_with fail
    generalize w.alloc (.cells #[.bool false, .slice none 0 0, .slice none 0 0] 55) = w1 at *
    refine (isZero_num Ha1.out la).mono ?_; rintro e w2 ⟨rfl, rfl⟩; rw [Hsg.out]
    go_wp2_with fail
    refine (one_num _).mono ?_; rintro e w2 ⟨v2, rfl, hv2, hb2⟩
    have bx2 := bx.below hb2 bx.lt
    obtain ⟨c0, c1, c2, f0, f1, f2⟩ := Box3.facts bx2
    have Bx2 := Lib.hid bx2; clear bx bx2
    obtain ⟨o2, k2, c2', rfl⟩ := hv2.shape
    have Hv2 := Lib.hid hv2; clear hv2
    go_wp2_with fail
    obtain ⟨e0, e1, e2, hret⟩ := box_ret (t := t) Bx2.out (Ha1.out.below hb2 (Nat.le_refl _)) Hv2.out (b1.trans (hb2.mono b1.size)) (Nat.le_refl _)
    refine bodyPost_ret ?_ rfl hret
    simp [results, Try.f55, go_sem, e0, e1, e2]
end Go.Proofs.Ytlkdahgfnfdakaa

namespace Go.Proofs.Ytlkdahgfnfdakaa
open Go.RowKit WN LM

set_option maxHeartbeats 1000000 in
set_option maxRecDepth 100000 in
theorem fraction_num {w : World} {va vb : Value} {a b : Nat} (s : Bool) (ha : Num w va a) (hb : Num w vb b) (la : Len a ≤ 1000000000) (lb : Len b ≤ 1000000000) (b0 : 0 < b) :
    Calls Try.prog 107 #[.bool s, va, vb] w (RetF w (s && decide (a ≠ 0)) (a / Nat.gcd a b) (b / Nat.gcd a b)) := by
  have Ha := Lib.hid ha
  have Hb := Lib.hid hb
  clear ha hb
  have b1 : Below w.heap.size w (w.alloc (.cells #[.bool false, .slice none 0 0, .slice none 0 0] 55)) := (Below.refl _ w).alloc (Nat.le_refl _) _
  have bx := Box3.new w (.bool false) (.slice none 0 0) (.slice none 0 0)
  have Ha1 := Lib.hid (Ha.out.below b1 (Nat.le_refl _))
  have Hb1 := Lib.hid (Hb.out.below b1 (Nat.le_refl _))
  have hg : 0 < Nat.gcd a b := Nat.gcd_pos_of_pos_right _ b0
  have lg : Len (Nat.gcd a b) ≤ 1000000000 := Nat.le_trans (len_mono (Nat.gcd_le_right _ b0)) lb
  have l1 := len_mono (Nat.div_le_self a (Nat.gcd a b))
  have hz : (a / Nat.gcd a b = 0) ↔ a = 0 := by
    constructor
    · intro h
      have e := Nat.div_mul_cancel (Nat.gcd_dvd_left a b)
      rw [h, Nat.zero_mul] at e
      exact e.symm
    · rintro rfl; exact Nat.zero_div _
  have Hsg : Hid (decide (a / Nat.gcd a b = 0) = !decide (a ≠ 0)) := by show _ = _; by_cases h : a = 0 <;> simp [hz, h]
  have Hg := Lib.hid hg; clear hg hz
  go_enter Try.func107, Try.ntmps107
  generalize hd : decide (a ≠ 0) = t at *
  have Hd := Lib.hid hd; clear hd
  go_wp2_with fail
  generalize w.alloc (.cells #[.bool false, .slice none 0 0, .slice none 0 0] 55) = w1 at *
  refine (divisor_num Ha1.out Hb1.out la lb).mono ?_; rintro e w2 ⟨v2, rfl, hv2, hb2⟩
  have Hv2 := Lib.hid hv2; clear hv2
  have b2 := b1.trans (hb2.mono b1.size)
  generalize Nat.gcd a b = g at *
  go_wp2_with fail
  refine (over_num (Ha1.out.below hb2 (Nat.le_refl _)) Hv2.out la lg Hg.out).mono ?_; rintro e w3 ⟨v3, v3', rfl, hv3, -, hb3⟩
  obtain ⟨o3, k3, c3', rfl⟩ := hv3.shape
  have Hv3 := Lib.hid hv3; clear hv3
  have b3 := b2.trans (hb3.mono b2.size)
  go_wp2_with fail
  refine (over_num ((Hb1.out.below hb2 (Nat.le_refl _)).below hb3 (Nat.le_refl _)) (Hv2.out.below hb3 (Nat.le_refl _)) lb lg Hg.out).mono ?_; rintro e w4 ⟨v4, v4', rfl, hv4, -, hb4⟩
  obtain ⟨o4, k4, c4', rfl⟩ := hv4.shape
  have Hv4 := Lib.hid hv4; clear hv4
  have b4 := b3.trans (hb4.mono b3.size)
  have Hv34 := Lib.hid (Hv3.out.below hb4 (Nat.le_refl _))
  have bx4 := ((bx.below hb2 bx.lt).below hb3 (Nat.lt_of_lt_of_le bx.lt hb2.size)).below hb4 (Nat.lt_of_lt_of_le bx.lt (Nat.le_trans hb2.size hb3.size))
  obtain ⟨c0, c1, c2, f0, f1, f2⟩ := Box3.facts bx4
  have Bx4 := Lib.hid bx4; clear bx bx4
  cases s
  · go_wp2_with fail
    obtain ⟨e0, e1, e2, hret⟩ := box_ret (t := false) Bx4.out Hv34.out Hv4.out b4 (Nat.le_refl _)
    refine bodyPost_ret ?_ rfl hret
    simp [results, Try.f107, go_sem, e0, e1, e2]
  · go_wp2_with fail
    refine (isZero_num Hv34.out (by omega)).mono ?_; rintro e w5 ⟨rfl, rfl⟩; rw [Hsg.out]
    go_wp2_with fail
    obtain ⟨e0, e1, e2, hret⟩ := box_ret (t := t) Bx4.out Hv34.out Hv4.out b4 (Nat.le_refl _)
    refine bodyPost_ret ?_ rfl hret
    simp [results, Try.f107, go_sem, e0, e1, e2]

def sgn (s : Bool) (n : Nat) : Int := if s then -1 else if n = 0 then 0 else 1

/-- a number's box, new -/
theorem Frac.box {w : World} {v : Value} {s : Bool} {n d : Nat} (h : Frac w v s n d) : ∃ o1 k1 c1 o2 k2 c2, v = .agg #[.bool s, .slice o1 k1 c1, .slice o2 k2 c2] ∧ Num w (.slice o1 k1 c1) n ∧ Num w (.slice o2 k2 c2) d := by
  obtain ⟨vn, vd, rfl, h1, h2⟩ := h
  obtain ⟨o1, k1, c1, rfl⟩ := h1.shape
  obtain ⟨o2, k2, c2, rfl⟩ := h2.shape
  exact ⟨_, _, _, _, _, _, rfl, h1, h2⟩

set_option maxHeartbeats 1000000 in
set_option maxRecDepth 100000 in
theorem sign_num {w : World} {v : Value} {s : Bool} {n d : Nat} (h : Frac w v s n d) (ln : Len n ≤ 10000000000) : Calls Try.prog 75 #[v] w fun e w' => e = .returned (.int .i64 (sgn s n)) ∧ Below w.heap.size w w' := by
  obtain ⟨o1, k1, c1', o2, k2, c2', rfl, hn, hd⟩ := h.box
  clear h hd
  have b1 : Below w.heap.size w (w.alloc (.cells #[.bool s, .slice o1 k1 c1', .slice o2 k2 c2'] 55)) := (Below.refl _ w).alloc (Nat.le_refl _) _
  have bx := Box3.new w (.bool s) (.slice o1 k1 c1') (.slice o2 k2 c2')
  have Hn := Lib.hid (hn.below b1 (Nat.le_refl _)); clear hn
  obtain ⟨c0, c1, c2, f0, f1, f2⟩ := Box3.facts bx
  have Bx := Lib.hid bx; clear bx
  go_enter Try.func75, Try.ntmps75
  cases s
  · go_wp2_with fail
    generalize w.alloc (.cells #[.bool false, .slice o1 k1 c1', .slice o2 k2 c2'] 55) = w1 at *
    refine (isZero_num Hn.out ln).mono ?_; rintro e w5 ⟨rfl, rfl⟩
    by_cases h : n = 0
    · rw [show decide (n = 0) = true from by simp [h]]
      have Hh : Hid (sgn false n = 0) := by show _ = _; simp [sgn, h]
      clear h
      go_wp2_with fail
      go_ret
      exact ⟨by rw [Hh.out]; rfl, b1⟩
    · rw [show decide (n = 0) = false from by simp [h]]
      have Hh : Hid (sgn false n = 1) := by show _ = _; simp [sgn, h]
      clear h
      go_wp2_with fail
      go_ret
      exact ⟨by rw [Hh.out]; rfl, b1⟩
  · go_wp2_with fail
    go_ret
    exact ⟨rfl, b1⟩

set_option maxHeartbeats 1000000 in
set_option maxRecDepth 100000 in
theorem inverse_num {w : World} {v : Value} {s : Bool} {n d : Nat} (h : Frac w v s n d) : Calls Try.prog 65 #[v] w (RetF w s d n) := by
  obtain ⟨o1, k1, c1', o2, k2, c2', rfl, hn, hd⟩ := h.box
  clear h
  have Hn := Lib.hid hn; clear hn
  have Hd := Lib.hid hd; clear hd
  have b1 : Below w.heap.size w ((w.alloc (.cells #[.bool s, .slice o1 k1 c1', .slice o2 k2 c2'] 55)).alloc (.cells #[.bool s, .slice o2 k2 c2', .slice o1 k1 c1'] 55)) := ((Below.refl _ w).alloc (Nat.le_refl _) _).alloc (by simp) _
  have e : Box3 ((w.alloc (.cells #[.bool s, .slice o1 k1 c1', .slice o2 k2 c2'] 55)).alloc (.cells #[.bool s, .slice o2 k2 c2', .slice o1 k1 c1'] 55)) (w.heap.size + 1) (.bool s) (.slice o2 k2 c2') (.slice o1 k1 c1') := by
    have := Box3.new (w.alloc (.cells #[.bool s, .slice o1 k1 c1', .slice o2 k2 c2'] 55)) (.bool s) (.slice o2 k2 c2') (.slice o1 k1 c1')
    rwa [show (w.alloc (.cells #[.bool s, .slice o1 k1 c1', .slice o2 k2 c2'] 55)).heap.size = w.heap.size + 1 from by simp] at this
  have B1 := Lib.hid b1; clear b1
  have E := Lib.hid e; clear e
  go_enter Try.func65, Try.ntmps65
  go_wp2_with fail
  have e0 := E.out.c0
  have e1 := E.out.c1
  have e2 := E.out.c2
  refine bodyPost_ret (v := .agg #[.bool s, .slice o2 k2 c2', .slice o1 k1 c1']) ?_ rfl ⟨_, rfl, ⟨_, _, rfl, Hd.out.below B1.out (Nat.le_refl _), Hn.out.below B1.out (Nat.le_refl _)⟩, B1.out⟩
  simp [results, Try.f65, go_sem, e0, e1, e2]

set_option maxHeartbeats 1000000 in
set_option maxRecDepth 100000 in
theorem fits_num {w : World} {v : Value} {s : Bool} {n d : Nat} (h : Frac w v s n d) (ln : Len n ≤ 10000000000) (ld : Len d ≤ 10000000000) :
    Calls Try.prog 91 #[v] w fun e w' => e = .returned (.bool (decide (Dig n ≤ 300 ∧ Dig d ≤ 300))) ∧ Below w.heap.size w w' := by
  obtain ⟨o1, k1, c1', o2, k2, c2', rfl, hn, hd⟩ := h.box
  clear h
  have b1 : Below w.heap.size w (w.alloc (.cells #[.bool s, .slice o1 k1 c1', .slice o2 k2 c2'] 55)) := (Below.refl _ w).alloc (Nat.le_refl _) _
  have bx := Box3.new w (.bool s) (.slice o1 k1 c1') (.slice o2 k2 c2')
  have Hn := Lib.hid (hn.below b1 (Nat.le_refl _)); clear hn
  have Hd := Lib.hid (hd.below b1 (Nat.le_refl _)); clear hd
  obtain ⟨c0, c1, c2, f0, f1, f2⟩ := Box3.facts bx
  have Bx := Lib.hid bx; clear bx
  go_enter Try.func91, Try.ntmps91
  by_cases h1 : Dig n ≤ 300
  · have d1 : decide (((Dig n : Nat) : Int) ≤ 300) = true := by simp; omega
    have Hr : Hid (decide (Dig n ≤ 300 ∧ Dig d ≤ 300) = decide (((Dig d : Nat) : Int) ≤ 300)) := by
      show _ = _
      rw [decide_eq_decide]; omega
    clear h1
    go_wp2_with fail
    generalize w.alloc (.cells #[.bool s, .slice o1 k1 c1', .slice o2 k2 c2'] 55) = w1 at *
    refine (digits_num Hn.out ln).mono ?_; rintro e w5 ⟨rfl, rfl⟩
    go_wp2_with fail
    refine (digits_num Hd.out ld).mono ?_; rintro e w5 ⟨rfl, rfl⟩
    generalize hg : decide (((Dig d : Nat) : Int) ≤ 300) = t at *
    have Hg := Lib.hid hg; clear hg
    go_wp2_with fail
    go_ret
    exact ⟨by rw [Hr.out, ← Hg.out]; rfl, b1⟩
  · have d1 : decide (((Dig n : Nat) : Int) ≤ 300) = false := by simp; omega
    have Hr : Hid (decide (Dig n ≤ 300 ∧ Dig d ≤ 300) = false) := by
      show _ = _
      simp; omega
    clear h1
    go_wp2_with fail
    generalize w.alloc (.cells #[.bool s, .slice o1 k1 c1', .slice o2 k2 c2'] 55) = w1 at *
    refine (digits_num Hn.out ln).mono ?_; rintro e w5 ⟨rfl, rfl⟩
    go_wp2_with fail
    go_ret
    exact ⟨by rw [Hr.out]; rfl, b1⟩
end Go.Proofs.Ytlkdahgfnfdakaa

namespace Go.Proofs.Ytlkdahgfnfdakaa
open Go.RowKit WN LM

/-- the boxes of two arguments and of a result, new -/
theorem boxes3 (w : World) (a0 a1 a2 b0 b1 b2 r0 r1 r2 : Value) :
    Below w.heap.size w (((w.alloc (.cells #[a0, a1, a2] 55)).alloc (.cells #[b0, b1, b2] 55)).alloc (.cells #[r0, r1, r2] 55)) ∧
    Box3 (((w.alloc (.cells #[a0, a1, a2] 55)).alloc (.cells #[b0, b1, b2] 55)).alloc (.cells #[r0, r1, r2] 55)) w.heap.size a0 a1 a2 ∧
    Box3 (((w.alloc (.cells #[a0, a1, a2] 55)).alloc (.cells #[b0, b1, b2] 55)).alloc (.cells #[r0, r1, r2] 55)) (w.heap.size + 1) b0 b1 b2 ∧
    Box3 (((w.alloc (.cells #[a0, a1, a2] 55)).alloc (.cells #[b0, b1, b2] 55)).alloc (.cells #[r0, r1, r2] 55)) (w.heap.size + 2) r0 r1 r2 := by
  have s1 : (w.alloc (.cells #[a0, a1, a2] 55)).heap.size = w.heap.size + 1 := by simp
  have s2 : ((w.alloc (.cells #[a0, a1, a2] 55)).alloc (.cells #[b0, b1, b2] 55)).heap.size = w.heap.size + 2 := by simp
  refine ⟨(((Below.refl _ w).alloc (Nat.le_refl _) _).alloc (by omega) _).alloc (by omega) _, ?_, ?_, ?_⟩
  · exact (alloc_lt _ _ _ (by omega)).trans ((alloc_lt _ _ _ (by omega)).trans (Box3.new w a0 a1 a2))
  · exact (alloc_lt _ _ _ (by omega)).trans (by have := Box3.new (w.alloc (.cells #[a0, a1, a2] 55)) b0 b1 b2; rwa [s1] at this)
  · have := Box3.new ((w.alloc (.cells #[a0, a1, a2] 55)).alloc (.cells #[b0, b1, b2] 55)) r0 r1 r2; rwa [s2] at this
theorem boxes2 (w : World) (a0 a1 a2 b0 b1 b2 : Value) :
    Below w.heap.size w ((w.alloc (.cells #[a0, a1, a2] 55)).alloc (.cells #[b0, b1, b2] 55)) ∧
    Box3 ((w.alloc (.cells #[a0, a1, a2] 55)).alloc (.cells #[b0, b1, b2] 55)) w.heap.size a0 a1 a2 ∧
    Box3 ((w.alloc (.cells #[a0, a1, a2] 55)).alloc (.cells #[b0, b1, b2] 55)) (w.heap.size + 1) b0 b1 b2 := by
  have s1 : (w.alloc (.cells #[a0, a1, a2] 55)).heap.size = w.heap.size + 1 := by simp
  refine ⟨((Below.refl _ w).alloc (Nat.le_refl _) _).alloc (by omega) _, ?_, ?_⟩
  · exact (alloc_lt _ _ _ (by omega)).trans (Box3.new w a0 a1 a2)
  · have := Box3.new (w.alloc (.cells #[a0, a1, a2] 55)) b0 b1 b2; rwa [s1] at this

theorem Box3.go {w w' : World} {p : Nat} {a b c : Value} (h : Box3 w p a b c) (hb : Below w.heap.size w w') : Box3 w' p a b c := h.below hb h.lt
theorem Num.go {w w' : World} {v : Value} {n : Nat} (h : Num w v n) (hb : Below w.heap.size w w') : Num w' v n := h.below hb (Nat.le_refl _)
theorem bstep {w w1 w2 : World} (h : Below w.heap.size w w1) (k : Below w1.heap.size w1 w2) : Below w.heap.size w w2 := h.trans (k.mono h.size)
theorem below_alloc (w : World) (o : Obj) : Below w.heap.size w (w.alloc o) := (Below.refl _ w).alloc (Nat.le_refl _) o

set_option maxHeartbeats 2000000 in
set_option maxRecDepth 100000 in
theorem fracTimes_num {w : World} {v u : Value} {s t : Bool} {n d m c : Nat} (h : Frac w v s n d) (k : Frac w u t m c) (ln : Len n ≤ 1000000000) (ld : Len d ≤ 1000000000) (lm : Len m ≤ 1000000000) (lc : Len c ≤ 1000000000) (d0 : 0 < d) (c0 : 0 < c) :
    Calls Try.prog 64 #[v, u] w (RetF w (((s && decide (n ≠ 0)) != (t && decide (m ≠ 0))) && decide (n / Nat.gcd n c * (m / Nat.gcd m d) ≠ 0)) (n / Nat.gcd n c * (m / Nat.gcd m d)) (c / Nat.gcd n c * (d / Nat.gcd m d))) := by
  obtain ⟨o1, k1, c1', o2, k2, c2', rfl, hn, hd⟩ := h.box
  obtain ⟨o3, k3, c3', o4, k4, c4', rfl, hm, hc⟩ := k.box
  clear h k
  have d0' := Lib.hid d0; have c0' := Lib.hid c0; clear d0 c0
  obtain ⟨B1, bA, bB, bR⟩ := boxes3 w (.bool s) (.slice o1 k1 c1') (.slice o2 k2 c2') (.bool t) (.slice o3 k3 c3') (.slice o4 k4 c4') (.bool false) (.slice none 0 0) (.slice none 0 0)
  have Hn := Lib.hid (hn.go B1); have Hd := Lib.hid (hd.go B1); have Hm := Lib.hid (hm.go B1); have Hc := Lib.hid (hc.go B1)
  clear hn hd hm hc
  obtain ⟨c0, c1, c2, f0, f1, f2⟩ := Box3.facts bA
  obtain ⟨d0, d1, d2⟩ := Box3.cells bB
  have BA := Lib.hid bA; have BB := Lib.hid bB; have BR := Lib.hid bR; have HB1 := Lib.hid B1
  clear bA bB bR B1 f0 f1 f2
  suffices main : ∀ R : Ending → World → Prop, Hid (∀ e w', RetF w (((s && decide (n ≠ 0)) != (t && decide (m ≠ 0))) && decide (n / Nat.gcd n c * (m / Nat.gcd m d) ≠ 0)) (n / Nat.gcd n c * (m / Nat.gcd m d)) (c / Nat.gcd n c * (d / Nat.gcd m d)) e w' → R e w') → Calls Try.prog 64 #[.agg #[.bool s, .slice o1 k1 c1', .slice o2 k2 c2'], .agg #[.bool t, .slice o3 k3 c3', .slice o4 k4 c4']] w R from main _ (fun _ _ h => h)
  intro R HR
  have F1 := Lib.hid (fraction_num s Hn.out Hc.out ln lc c0'.out)
  have F2 := Lib.hid (fun w' hb => fraction_num (w := w') t (Hm.out.go hb) (Hd.out.go hb) lm ld d0'.out)
  have lx1 := len_mono (Nat.div_le_self n (Nat.gcd n c)); have lx2 := len_mono (Nat.div_le_self c (Nat.gcd n c))
  have ly1 := len_mono (Nat.div_le_self m (Nat.gcd m d)); have ly2 := len_mono (Nat.div_le_self d (Nat.gcd m d))
  generalize (s && decide (n ≠ 0)) = sx at *
  generalize (t && decide (m ≠ 0)) = sy at *
  generalize n / Nat.gcd n c = X1 at *
  generalize c / Nat.gcd n c = X2 at *
  generalize m / Nat.gcd m d = Y1 at *
  generalize d / Nat.gcd m d = Y2 at *
  go_enter Try.func64, Try.ntmps64
  go_wp2_with fail
  generalize ((w.alloc (.cells #[.bool s, .slice o1 k1 c1', .slice o2 k2 c2'] 55)).alloc (.cells #[.bool t, .slice o3 k3 c3', .slice o4 k4 c4'] 55)).alloc (.cells #[.bool false, .slice none 0 0, .slice none 0 0] 55) = w1 at *
  refine F1.out.mono ?_
  rintro e w2 ⟨vx, rfl, hx, hb2⟩
  clear c0 c1 c2 d0 d1 d2
  obtain ⟨p1, q1, z1, p2, q2, z2, rfl, hx1, hx2⟩ := hx.box
  have bXb := below_alloc w2 (.cells #[.bool sx, .slice p1 q1 z1, .slice p2 q2 z2] 55)
  have step2 := Lib.hid (bstep hb2 bXb)
  have BX := Lib.hid (Box3.new w2 (.bool sx) (.slice p1 q1 z1) (.slice p2 q2 z2))
  have HX1 := Lib.hid (hx1.go bXb); have HX2 := Lib.hid (hx2.go bXb)
  have c0 := (BA.out.go step2.out).c0
  have c1 := (BA.out.go step2.out).c1
  have c2 := (BA.out.go step2.out).c2
  obtain ⟨d0, d1, d2⟩ := Box3.cells (BB.out.go step2.out)
  clear bXb hx1 hx2 hb2 hx
  go_wp2_with fail
  generalize hg2 : w2.alloc (.cells #[.bool sx, .slice p1 q1 z1, .slice p2 q2 z2] 55) = w2' at *
  refine (F2.out _ step2.out).mono ?_
  rintro e w3 ⟨vy, rfl, hy, hb3⟩
  clear c0 c1 c2 d0 d1 d2
  obtain ⟨p3, q3, z3, p4, q4, z4, rfl, hy1, hy2⟩ := hy.box
  have bYb := below_alloc w3 (.cells #[.bool sy, .slice p3 q3 z3, .slice p4 q4 z4] 55)
  have step3 := Lib.hid (bstep hb3 bYb)
  have BY := Lib.hid (Box3.new w3 (.bool sy) (.slice p3 q3 z3) (.slice p4 q4 z4))
  have HY1 := Lib.hid (hy1.go bYb); have HY2 := Lib.hid (hy2.go bYb)
  have c0 := (BX.out.go step3.out).c0
  have c1 := (BX.out.go step3.out).c1
  have c2 := (BX.out.go step3.out).c2
  clear bYb hy1 hy2 hb3 hy
  go_wp2_with fail
  have T1 := times_num (HX1.out.go step3.out) HY1.out (by omega) (by omega)
  have by0 := BY.out.c0
  have by1 := BY.out.c1
  have by2 := BY.out.c2
  generalize hg3 : w3.alloc (.cells #[.bool sy, .slice p3 q3 z3, .slice p4 q4 z4] 55) = w3' at *
  refine T1.mono ?_
  rintro e w4 ⟨v4, rfl, h4, hb4⟩
  obtain ⟨p5, q5, z5, rfl⟩ := h4.shape
  have H4 := Lib.hid h4; clear h4 T1
  have HB4 := Lib.hid hb4
  clear c0 c1 c2 by0 by1 by2
  have c0 := (BX.out.go (bstep step3.out hb4)).c0
  have c1 := (BX.out.go (bstep step3.out hb4)).c1
  have c2 := (BX.out.go (bstep step3.out hb4)).c2
  have d0 := (BY.out.go hb4).c0
  have d1 := (BY.out.go hb4).c1
  have d2 := (BY.out.go hb4).c2
  clear hb4
  go_wp2_with fail
  refine (times_num (HX2.out.go (bstep step3.out HB4.out)) (HY2.out.go HB4.out) (by omega) (by omega)).mono ?_
  rintro e w5 ⟨v5, rfl, h5, hb5⟩
  obtain ⟨p6, q6, z6, rfl⟩ := h5.shape
  have H5 := Lib.hid h5; clear h5
  have HB5 := Lib.hid hb5
  have H45 := Lib.hid (H4.out.go hb5)
  clear c0 c1 c2 d0 d1 d2
  have step5 := Lib.hid (bstep (bstep step2.out step3.out) (bstep HB4.out hb5))
  have br := BR.out.go step5.out
  have c0 := (BX.out.go (bstep step3.out (bstep HB4.out hb5))).c0
  have d0 := (BY.out.go (bstep HB4.out hb5)).c0
  obtain ⟨r0, r1, r2, f0, f1, f2⟩ := Box3.facts br
  have BR5 := Lib.hid br
  have B5 := Lib.hid (bstep HB1.out step5.out)
  clear hb5 br hg2 hg3
  have Hdec : Hid (decide (X1 * Y1 = 0) = !decide (X1 * Y1 ≠ 0)) := by show _ = _; simp
  have lz := len_mul X1 Y1
  cases sx <;> cases sy
  all_goals first
    | (go_wp2_with fail
       obtain ⟨e0, e1, e2, hret⟩ := box_ret (t := false) BR5.out H45.out H5.out B5.out (by omega)
       refine bodyPost_ret ?_ rfl (HR.out _ _ hret)
       simp [results, Try.f64, go_sem, e0, e1, e2])
    | (go_wp2_with fail
       refine (isZero_num H45.out (by omega)).mono ?_; rintro e w6 ⟨rfl, rfl⟩; rw [Hdec.out]
       generalize hd : decide (X1 * Y1 ≠ 0) = t' at *
       have Hd' := Lib.hid hd; clear hd
       go_wp2_with fail
       obtain ⟨e0, e1, e2, hret⟩ := box_ret (t := t') BR5.out H45.out H5.out B5.out (by omega)
       refine bodyPost_ret ?_ rfl (HR.out _ _ hret)
       simp [results, Try.f64, go_sem, e0, e1, e2])
end Go.Proofs.Ytlkdahgfnfdakaa

namespace Go.Proofs.Ytlkdahgfnfdakaa
open Go.RowKit WN LM

theorem Num.drew {w : World} {v : Value} {n : Nat} (h : Num w v n) : Num w.drew v n := h.go (Below.refl _ _).drew
theorem below_drew (w : World) : Below w.heap.size w w.drew := (Below.refl _ _).drew

theorem Frac.drew {w : World} {v : Value} {s : Bool} {n d : Nat} (h : Frac w v s n d) : Frac w.drew v s n d := h.below (B := w.heap.size) (Below.refl _ _).drew (Nat.le_refl _)
theorem RetF.drew {w w' : World} {s : Bool} {n d : Nat} {e : Ending} (h : RetF w s n d e w') : RetF w s n d e w'.drew := by
  obtain ⟨v, rfl, h, hb⟩ := h
  exact ⟨v, rfl, h.drew, hb.drew⟩

set_option maxHeartbeats 2000000 in
set_option maxRecDepth 100000 in
theorem negated_num {w : World} {v : Value} {s : Bool} {n d : Nat} (h : Frac w v s n d) (ln : Len n ≤ 10000000000) : Calls Try.prog 114 #[v] w (RetF w (!s && decide (n ≠ 0)) n d) := by
  obtain ⟨o1, k1, c1', o2, k2, c2', rfl, hn, hd⟩ := h.box
  clear h
  obtain ⟨B1, bA, bR⟩ := boxes2 w (.bool s) (.slice o1 k1 c1') (.slice o2 k2 c2') (.bool false) (.slice none 0 0) (.slice none 0 0)
  have Hn := Lib.hid (hn.go B1); have Hd := Lib.hid (hd.go B1)
  clear hn hd
  have Hdec : Hid (decide (n = 0) = !decide (n ≠ 0)) := by show _ = _; simp
  go_enter Try.func114, Try.ntmps114
  generalize hdd : decide (n ≠ 0) = t at *
  have Hdd := Lib.hid hdd; clear hdd
  go_wp2_with fail
  have BA := Lib.hid bA; have BR := Lib.hid bR; have HB1 := Lib.hid B1
  clear bA bR B1
  generalize (w.alloc (.cells #[.bool s, .slice o1 k1 c1', .slice o2 k2 c2'] 55)).alloc (.cells #[.bool false, .slice none 0 0, .slice none 0 0] 55) = w1 at *
  have c0 := BA.out.c0
  have c1 := BA.out.c1
  have c2 := BA.out.c2
  obtain ⟨r0, r1, r2, f0, f1, f2⟩ := Box3.facts BR.out
  cases s
  · go_region_held (fun w' => w'.cell? ⟨w.heap.size, 0, none⟩ = some (.bool false) ∧ w'.cell? ⟨w.heap.size, 1, none⟩ = some (.slice o1 k1 c1') ∧ w'.cell? ⟨w.heap.size, 2, none⟩ = some (.slice o2 k2 c2'))
      (first | exact ⟨c0, c1, c2⟩ | assumption | (simp [*, World.cell?_setCell_far]))
      ((go_at_call 98; refine (isZero_num Hn.out.drew ln).mono ?_; rintro e w5 ⟨rfl, rfl⟩; rw [Hdec.out]))
    go_wp2_with fail
    obtain ⟨e0, e1, e2, hret⟩ := box_ret (t := t) BR.out Hn.out Hd.out HB1.out (by omega)
    refine bodyPost_ret ?_ rfl hret.drew
    simp [results, Try.f114, go_sem, e0, e1, e2]
  · go_region
    go_wp2_with fail
    obtain ⟨e0, e1, e2, hret⟩ := box_ret (t := false) BR.out Hn.out Hd.out HB1.out (by omega)
    refine bodyPost_ret ?_ rfl hret.drew
    simp [results, Try.f114, go_sem, e0, e1, e2]
end Go.Proofs.Ytlkdahgfnfdakaa

namespace Go.Proofs.Ytlkdahgfnfdakaa
open Go.RowKit WN LM

theorem keep3 {w w' : World} {a b c : Addr} {x y z : Value} (h : w.cell? a = some x ∧ w.cell? b = some y ∧ w.cell? c = some z) (hb : Below w.heap.size w w') : w'.cell? a = some x ∧ w'.cell? b = some y ∧ w'.cell? c = some z :=
  ⟨(hb.cell (World.block_lt_of_cell? w a h.1)).trans h.1, (hb.cell (World.block_lt_of_cell? w b h.2.1)).trans h.2.1, (hb.cell (World.block_lt_of_cell? w c h.2.2)).trans h.2.2⟩

theorem keepSt {w : World} {a b c : Addr} {x y z X Y Z : Value} {p : Nat} (h : w.cell? a = some x ∧ w.cell? b = some y ∧ w.cell? c = some z) (ha : p ≠ a.block) (hb : p ≠ b.block) (hc : p ≠ c.block) :
    (((w.setCell ⟨p, 0, none⟩ X).setCell ⟨p, 1, none⟩ Y).setCell ⟨p, 2, none⟩ Z).cell? a = some x ∧ (((w.setCell ⟨p, 0, none⟩ X).setCell ⟨p, 1, none⟩ Y).setCell ⟨p, 2, none⟩ Z).cell? b = some y ∧ (((w.setCell ⟨p, 0, none⟩ X).setCell ⟨p, 1, none⟩ Y).setCell ⟨p, 2, none⟩ Z).cell? c = some z := by
  refine ⟨?_, ?_, ?_⟩
  · rw [World.cell?_setCell_far _ _ _ _ ha, World.cell?_setCell_far _ _ _ _ ha, World.cell?_setCell_far _ _ _ _ ha]; exact h.1
  · rw [World.cell?_setCell_far _ _ _ _ hb, World.cell?_setCell_far _ _ _ _ hb, World.cell?_setCell_far _ _ _ _ hb]; exact h.2.1
  · rw [World.cell?_setCell_far _ _ _ _ hc, World.cell?_setCell_far _ _ _ _ hc, World.cell?_setCell_far _ _ _ _ hc]; exact h.2.2

/-- two integers with signs, added: is it below 0, how large is it -/
def addS (s : Bool) (n : Nat) (t : Bool) (m : Nat) : Bool := if s = t then s else if n < m then t else s
def addN (s : Bool) (n : Nat) (t : Bool) (m : Nat) : Nat := if s = t then n + m else if n < m then m - n else n - m

set_option maxHeartbeats 4000000 in
set_option maxRecDepth 100000 in
theorem plusSame_num {w : World} {v u : Value} {s : Bool} {n d m c : Nat} (h : Frac w v s n d) (k : Frac w u s m c) (ln : Len n ≤ 4000000000) (lm : Len m ≤ 4000000000) :
    Calls Try.prog 111 #[v, u] w (RetF w (s && decide (n + m ≠ 0)) (n + m) 1) := by
  obtain ⟨o1, k1, c1', o2, k2, c2', rfl, hn, hd⟩ := h.box
  obtain ⟨o3, k3, c3', o4, k4, c4', rfl, hm, hc⟩ := k.box
  clear h k
  obtain ⟨B1, bA, bB, bR⟩ := boxes3 w (.bool s) (.slice o1 k1 c1') (.slice o2 k2 c2') (.bool s) (.slice o3 k3 c3') (.slice o4 k4 c4') (.bool false) (.slice none 0 0) (.slice none 0 0)
  have Hn := Lib.hid (hn.go B1); have Hm := Lib.hid (hm.go B1)
  clear hn hd hm hc
  have la := len_add n m
  have P55 := Lib.hid (fun w' v h => integer_num (w := w') (va := v) (a := n + m) s h (by omega))
  have P0 := Lib.hid (fun w' a b => plus_num (w := w') (va := .slice o1 k1 c1') (vb := .slice o3 k3 c3') (a := n) (b := m) a b (by omega) (by omega))
  generalize hdd : decide (n + m ≠ 0) = tt at *
  clear hdd la
  generalize n + m = nm at *
  go_enter Try.func111, Try.ntmps111
  have hss : (s == s) = true := by simp
  go_wp2_with fail
  have BA := Lib.hid bA; have BB := Lib.hid bB; have BR := Lib.hid bR; have HB1 := Lib.hid B1
  clear bA bB bR B1
  generalize ((w.alloc (.cells #[.bool s, .slice o1 k1 c1', .slice o2 k2 c2'] 55)).alloc (.cells #[.bool s, .slice o3 k3 c3', .slice o4 k4 c4'] 55)).alloc (.cells #[.bool false, .slice none 0 0, .slice none 0 0] 55) = w1 at *
  have c0 := BA.out.c0
  have c1 := BA.out.c1
  have d1 := BB.out.c1
  have P := Lib.hid (P0.out _ Hn.out.drew Hm.out.drew)
  go_region_held (fun w' => w'.cell? ⟨w.heap.size, 0, none⟩ = some (.bool s) ∧ w'.cell? ⟨w.heap.size, 1, none⟩ = some (.slice o1 k1 c1') ∧ w'.cell? ⟨w.heap.size + 1, 1, none⟩ = some (.slice o3 k3 c3'))
      (first | exact ⟨c0, c1, d1⟩ | exact keep3 (by assumption) hb5 | exact keep3 (by assumption) hb4 | exact keepSt (by assumption) (by dsimp only; omega) (by dsimp only; omega) (by dsimp only; omega))
      ((first
        | (go_at_call 116; refine P.out.mono ?_; rintro e w4 ⟨v4, rfl, hv4, hb4⟩)
        | (go_at_call 55; refine (P55.out _ _ hv4).mono ?_; rintro e w5 ⟨v5, rfl, hv5, hb5⟩; obtain ⟨p5, q5, z5, p6, q6, z6, rfl, hx5, hx6⟩ := hv5.box; have br := BR.out.go (bstep (below_drew w1) (bstep hb4 hb5)); obtain ⟨r0, r1, r2, f0, f1, f2⟩ := Box3.facts br)))
  go_wp2_with fail
  obtain ⟨e0, e1, e2, hret⟩ := box_ret (t := (s && tt)) br hx5 hx6 (bstep HB1.out (bstep (below_drew w1) (bstep hb4 hb5))) (by omega)
  refine bodyPost_ret ?_ rfl hret
  simp [results, Try.f111, go_sem, e0, e1, e2]
end Go.Proofs.Ytlkdahgfnfdakaa

namespace Go.Proofs.Ytlkdahgfnfdakaa
open Go.RowKit WN LM

theorem Box3.far {w : World} {p q : Nat} {a b c x y z : Value} (h : Box3 w p a b c) (hq : p ≠ q) : Box3 (((w.setCell ⟨q, 0, none⟩ x).setCell ⟨q, 1, none⟩ y).setCell ⟨q, 2, none⟩ z) p a b c := by
  have e : (((w.setCell ⟨q, 0, none⟩ x).setCell ⟨q, 1, none⟩ y).setCell ⟨q, 2, none⟩ z).heap[p]? = w.heap[p]? := by
    rw [heap_setCell_other _ _ _ _ hq, heap_setCell_other _ _ _ _ hq, heap_setCell_other _ _ _ _ hq]
  exact e.trans h

/-- two boxes change their numbers -/
theorem swapped {w w2 : World} {p q r : Nat} (hpq : p ≠ q) (hr1 : r ≠ p) (hr2 : r ≠ q) (hp : w.heap.size ≤ p) (hq : w.heap.size ≤ q) {s t : Bool} {o1 o2 o3 o4 : Option Addr} {k1 k2 k3 k4 c1 c2 c3 c4 n m : Nat} {x y z : Value}
    (bA : Box3 w2 p (.bool s) (.slice o1 k1 c1) (.slice o2 k2 c2)) (bB : Box3 w2 q (.bool t) (.slice o3 k3 c3) (.slice o4 k4 c4)) (bR : Box3 w2 r x y z) (hb : Below w.heap.size w w2) (hn : Num w2 (.slice o1 k1 c1) n) (hm : Num w2 (.slice o3 k3 c3) m) :
    ∃ w3, ((((((w2.setCell ⟨p, 0, none⟩ (.bool t)).setCell ⟨p, 1, none⟩ (.slice o3 k3 c3)).setCell ⟨p, 2, none⟩ (.slice o4 k4 c4)).setCell ⟨q, 0, none⟩ (.bool s)).setCell ⟨q, 1, none⟩ (.slice o1 k1 c1)).setCell ⟨q, 2, none⟩ (.slice o2 k2 c2)) = w3 ∧
      Box3 w3 p (.bool t) (.slice o3 k3 c3) (.slice o4 k4 c4) ∧ Box3 w3 q (.bool s) (.slice o1 k1 c1) (.slice o2 k2 c2) ∧ Box3 w3 r x y z ∧ Below w.heap.size w w3 ∧ Num w3 (.slice o1 k1 c1) n ∧ Num w3 (.slice o3 k3 c3) m :=
  ⟨_, rfl, (bA.set _ _ _).far hpq, (bB.far (Ne.symm hpq)).set _ _ _, (bR.far hr1).far hr2, three_below _ _ _ (three_below _ _ _ hb hp) hq, (hn.set3 bA _ _ _).set3 (bB.far (Ne.symm hpq)) _ _ _, (hm.set3 bA _ _ _).set3 (bB.far (Ne.symm hpq)) _ _ _⟩

set_option maxHeartbeats 4000000 in
set_option maxRecDepth 100000 in
theorem plusOther_num {w : World} {v u : Value} {s : Bool} {n d m c : Nat} (h : Frac w v s n d) (k : Frac w u (!s) m c) (ln : Len n ≤ 4000000000) (lm : Len m ≤ 4000000000) :
    Calls Try.prog 111 #[v, u] w (if n < m then RetF w ((!s) && decide (m - n ≠ 0)) (m - n) 1 else RetF w (s && decide (n - m ≠ 0)) (n - m) 1) := by
  obtain ⟨o1, k1, c1', o2, k2, c2', rfl, hn, hd⟩ := h.box
  obtain ⟨o3, k3, c3', o4, k4, c4', rfl, hm, hc⟩ := k.box
  clear h k
  obtain ⟨B1, bA, bB, bR⟩ := boxes3 w (.bool s) (.slice o1 k1 c1') (.slice o2 k2 c2') (.bool (!s)) (.slice o3 k3 c3') (.slice o4 k4 c4') (.bool false) (.slice none 0 0) (.slice none 0 0)
  have Hn := Lib.hid (hn.go B1); have Hm := Lib.hid (hm.go B1)
  clear hn hd hm hc
  have la := len_mono (Nat.sub_le n m)
  have lb := len_mono (Nat.sub_le m n)
  have hss : (s == !s) = false := by cases s <;> rfl
  by_cases hlt : n < m
  · rw [if_pos hlt]
    have Hcm : Hid (cmpN n m = -1) := by show _ = _; unfold cmpN; rw [if_pos hlt]
    have P55 := Lib.hid (fun w' v h => integer_num (w := w') (va := v) (a := m - n) (!s) h (by omega))
    have P0 := Lib.hid (fun w' a b => minus_num (w := w') (va := .slice o3 k3 c3') (vb := .slice o1 k1 c1') (a := m) (b := n) a b (by omega) (Nat.le_of_lt hlt))
    have PC := Lib.hid (compare_num Hn.out Hm.out (by omega) (by omega))
    generalize hdd : decide (m - n ≠ 0) = tt at *
    clear hdd la lb hlt
    generalize m - n = nm at *
    go_enter Try.func111, Try.ntmps111
    go_wp2_with fail
    have BA := Lib.hid bA; have BB := Lib.hid bB; have BR := Lib.hid bR; have HB1 := Lib.hid B1
    clear bA bB bR B1
    generalize ((w.alloc (.cells #[.bool s, .slice o1 k1 c1', .slice o2 k2 c2'] 55)).alloc (.cells #[.bool (!s), .slice o3 k3 c3', .slice o4 k4 c4'] 55)).alloc (.cells #[.bool false, .slice none 0 0, .slice none 0 0] 55) = w1 at *
    refine PC.out.mono ?_; rintro e w2 ⟨rfl, hb2⟩; rw [Hcm.out]
    have BA2 := Lib.hid (BA.out.go hb2); have BB2 := Lib.hid (BB.out.go hb2); have BR2 := Lib.hid (BR.out.go hb2); have HB2 := Lib.hid (bstep HB1.out hb2)
    have Hn2 := Lib.hid (Hn.out.go hb2); have Hm2 := Lib.hid (Hm.out.go hb2)
    clear PC hb2
    have c0 := BA2.out.c0
    have c1 := BA2.out.c1
    have c2 := BA2.out.c2
    have d0 := BB2.out.c0
    have d1 := BB2.out.c1
    have d2 := BB2.out.c2
    have f0 := BA2.out.f 0
    have f1 := BA2.out.f 1
    have f2 := BA2.out.f 2
    have g0 := BB2.out.f 0
    have g1 := BB2.out.f 1
    have g2 := BB2.out.f 2
    go_wp2_with fail
    obtain ⟨w3, hw3, bA3, bB3, bR3, hb3, hn3, hm3⟩ := swapped (p := w.heap.size) (q := w.heap.size + 1) (r := w.heap.size + 2) (by omega) (by omega) (by omega) (Nat.le_refl _) (by omega) BA2.out BB2.out BR2.out HB2.out Hn2.out Hm2.out
    rw [hw3]
    have BA3 := Lib.hid bA3; have BB3 := Lib.hid bB3; have BR3 := Lib.hid bR3; have HB3 := Lib.hid hb3; have Hn3 := Lib.hid hn3; have Hm3 := Lib.hid hm3
    clear hw3 bA3 bB3 bR3 hb3 hn3 hm3 c0 c1 c2 d0 d1 d2 f0 f1 f2 g0 g1 g2 BA2 BB2 BR2 HB2 Hn2 Hm2
    have c0 := BA3.out.c0
    have c1 := BA3.out.c1
    have d1 := BB3.out.c1
    have P := Lib.hid (P0.out _ Hm3.out.drew Hn3.out.drew)
    go_region_held (fun w' => w'.cell? ⟨w.heap.size, 0, none⟩ = some (.bool (!s)) ∧ w'.cell? ⟨w.heap.size, 1, none⟩ = some (.slice o3 k3 c3') ∧ w'.cell? ⟨w.heap.size + 1, 1, none⟩ = some (.slice o1 k1 c1'))
      (first | exact ⟨c0, c1, d1⟩ | exact keep3 (by assumption) hb5 | exact keep3 (by assumption) hb4 | exact keepSt (by assumption) (by dsimp only; omega) (by dsimp only; omega) (by dsimp only; omega))
      ((first
        | (go_at_call 133; refine P.out.mono ?_; rintro e w4 ⟨v4, rfl, hv4, hb4⟩)
        | (go_at_call 55; refine (P55.out _ _ hv4).mono ?_; rintro e w5 ⟨v5, rfl, hv5, hb5⟩; obtain ⟨p5, q5, z5, p6, q6, z6, rfl, hx5, hx6⟩ := hv5.box; have br := BR3.out.go (bstep (below_drew w3) (bstep hb4 hb5)); obtain ⟨r0, r1, r2, f0, f1, f2⟩ := Box3.facts br)))
    go_wp2_with fail
    obtain ⟨e0, e1, e2, hret⟩ := box_ret (t := ((!s) && tt)) br hx5 hx6 (bstep HB3.out (bstep (below_drew w3) (bstep hb4 hb5))) (by omega)
    refine bodyPost_ret ?_ rfl hret
    simp [results, Try.f111, go_sem, e0, e1, e2]
  · rw [if_neg hlt]
    have Hcm : Hid (0 ≤ cmpN n m) := by show _ ≤ _; unfold cmpN; rw [if_neg hlt]; split <;> omega
    have P55 := Lib.hid (fun w' v h => integer_num (w := w') (va := v) (a := n - m) s h (by omega))
    have P0 := Lib.hid (fun w' a b => minus_num (w := w') (va := .slice o1 k1 c1') (vb := .slice o3 k3 c3') (a := n) (b := m) a b (by omega) (Nat.le_of_not_lt hlt))
    have PC := Lib.hid (compare_num Hn.out Hm.out (by omega) (by omega))
    generalize hdd : decide (n - m ≠ 0) = tt at *
    clear hdd la lb hlt
    generalize n - m = nm at *
    generalize cmpN n m = cm at *
    have hcd : decide (cm < 0) = false := by have := Hcm.out; simp; omega
    go_enter Try.func111, Try.ntmps111
    go_wp2_with fail
    have BA := Lib.hid bA; have BB := Lib.hid bB; have BR := Lib.hid bR; have HB1 := Lib.hid B1
    clear bA bB bR B1
    generalize ((w.alloc (.cells #[.bool s, .slice o1 k1 c1', .slice o2 k2 c2'] 55)).alloc (.cells #[.bool (!s), .slice o3 k3 c3', .slice o4 k4 c4'] 55)).alloc (.cells #[.bool false, .slice none 0 0, .slice none 0 0] 55) = w1 at *
    refine PC.out.mono ?_; rintro e w2 ⟨rfl, hb2⟩
    have BA2 := Lib.hid (BA.out.go hb2); have BB2 := Lib.hid (BB.out.go hb2); have BR2 := Lib.hid (BR.out.go hb2); have HB2 := Lib.hid (bstep HB1.out hb2)
    have Hn2 := Lib.hid (Hn.out.go hb2); have Hm2 := Lib.hid (Hm.out.go hb2)
    clear PC hb2
    go_wp2_with fail
    have c0 := BA2.out.c0
    have c1 := BA2.out.c1
    have d1 := BB2.out.c1
    have P := Lib.hid (P0.out _ Hn2.out.drew Hm2.out.drew)
    go_region_held (fun w' => w'.cell? ⟨w.heap.size, 0, none⟩ = some (.bool s) ∧ w'.cell? ⟨w.heap.size, 1, none⟩ = some (.slice o1 k1 c1') ∧ w'.cell? ⟨w.heap.size + 1, 1, none⟩ = some (.slice o3 k3 c3'))
      (first | exact ⟨c0, c1, d1⟩ | exact keep3 (by assumption) hb5 | exact keep3 (by assumption) hb4 | exact keepSt (by assumption) (by dsimp only; omega) (by dsimp only; omega) (by dsimp only; omega))
      ((first
        | (go_at_call 133; refine P.out.mono ?_; rintro e w4 ⟨v4, rfl, hv4, hb4⟩)
        | (go_at_call 55; refine (P55.out _ _ hv4).mono ?_; rintro e w5 ⟨v5, rfl, hv5, hb5⟩; obtain ⟨p5, q5, z5, p6, q6, z6, rfl, hx5, hx6⟩ := hv5.box; have br := BR2.out.go (bstep (below_drew w2) (bstep hb4 hb5)); obtain ⟨r0, r1, r2, f0, f1, f2⟩ := Box3.facts br)))
    go_wp2_with fail
    obtain ⟨e0, e1, e2, hret⟩ := box_ret (t := (s && tt)) br hx5 hx6 (bstep HB2.out (bstep (below_drew w2) (bstep hb4 hb5))) (by omega)
    refine bodyPost_ret ?_ rfl hret
    simp [results, Try.f111, go_sem, e0, e1, e2]

theorem plusSigned_num {w : World} {v u : Value} {s t : Bool} {n d m c : Nat} (h : Frac w v s n d) (k : Frac w u t m c) (ln : Len n ≤ 4000000000) (lm : Len m ≤ 4000000000) :
    Calls Try.prog 111 #[v, u] w (RetF w (addS s n t m && decide (addN s n t m ≠ 0)) (addN s n t m) 1) := by
  by_cases hst : s = t
  · subst hst
    have := plusSame_num h k ln lm
    unfold addS addN
    rw [if_pos rfl, if_pos rfl]
    exact this
  · have ht : t = !s := by cases s <;> cases t <;> simp_all
    subst ht
    have := plusOther_num h k ln lm
    unfold addS addN
    rw [if_neg hst, if_neg hst]
    by_cases hlt : n < m
    · rw [if_pos hlt] at this; rw [if_pos hlt, if_pos hlt]; exact this
    · rw [if_neg hlt] at this; rw [if_neg hlt, if_neg hlt]; exact this
end Go.Proofs.Ytlkdahgfnfdakaa
