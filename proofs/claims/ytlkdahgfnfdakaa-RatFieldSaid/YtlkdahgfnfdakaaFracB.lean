import Derived.Test.YtlkdahgfnfdakaaFrac
namespace Go.Proofs.Ytlkdahgfnfdakaa
open Go.RowKit WN LM

set_option maxHeartbeats 1000000 in
set_option maxRecDepth 100000 in
theorem fraction_num {w : World} {va vb : Value} {a b : Nat} (s : Bool) (ha : Num w va a) (hb : Num w vb b) (la : Len a ≤ 1000000000) (lb : Len b ≤ 1000000000) (b0 : 0 < b) :
    Calls Try.prog 107 #[.bool s, va, vb] w (RetF w (s && decide (a ≠ 0)) (a / Nat.gcd a b) (b / Nat.gcd a b)) := by
  have Ha := Lib.hid ha
  have Hb := Lib.hid hb
  clear ha hb
  have b1 : Below w.heap.size w (w.alloc (.cells #[.bool false, .slice none 0 0, .slice none 0 0] 55)) := (Below.refl _ w).alloc (Nat.le_refl _) _
  have bx := Box3.new w (.bool false) (.slice none 0 0) (.slice none 0 0)
  have Ha1 := Lib.hid (Ha.out.below b1 (Nat.le_refl _))
  have Hb1 := Lib.hid (Hb.out.below b1 (Nat.le_refl _))
  have hg : 0 < Nat.gcd a b := Nat.gcd_pos_of_pos_right _ b0
  have lg : Len (Nat.gcd a b) ≤ 1000000000 := Nat.le_trans (len_mono (Nat.gcd_le_right _ b0)) lb
  have l1 := len_mono (Nat.div_le_self a (Nat.gcd a b))
  have hz : (a / Nat.gcd a b = 0) ↔ a = 0 := by
    constructor
    · intro h
      have e := Nat.div_mul_cancel (Nat.gcd_dvd_left a b)
      rw [h, Nat.zero_mul] at e
      exact e.symm
    · rintro rfl; exact Nat.zero_div _
  have Hsg : Hid (decide (a / Nat.gcd a b = 0) = !decide (a ≠ 0)) := by show _ = _; by_cases h : a = 0 <;> simp [hz, h]
  have Hg := Lib.hid hg; clear hg hz
  go_enter Try.func107, Try.ntmps107
  generalize hd : decide (a ≠ 0) = t at *
  have Hd := Lib.hid hd; clear hd
  go_wp2_with fail
  generalize w.alloc (.cells #[.bool false, .slice none 0 0, .slice none 0 0] 55) = w1 at *
  refine (divisor_num Ha1.out Hb1.out la lb).mono ?_; rintro e w2 ⟨v2, rfl, hv2, hb2⟩
  have Hv2 := Lib.hid hv2; clear hv2
  have b2 := b1.trans (hb2.mono b1.size)
  generalize Nat.gcd a b = g at *
  go_wp2_with fail
  refine (over_num (Ha1.out.below hb2 (Nat.le_refl _)) Hv2.out la lg Hg.out).mono ?_; rintro e w3 ⟨v3, v3', rfl, hv3, -, hb3⟩
  obtain ⟨o3, k3, c3', rfl⟩ := hv3.shape
  have Hv3 := Lib.hid hv3; clear hv3
  have b3 := b2.trans (hb3.mono b2.size)
  go_wp2_with fail
  refine (over_num ((Hb1.out.below hb2 (Nat.le_refl _)).below hb3 (Nat.le_refl _)) (Hv2.out.below hb3 (Nat.le_refl _)) lb lg Hg.out).mono ?_; rintro e w4 ⟨v4, v4', rfl, hv4, -, hb4⟩
  obtain ⟨o4, k4, c4', rfl⟩ := hv4.shape
  have Hv4 := Lib.hid hv4; clear hv4
  have b4 := b3.trans (hb4.mono b3.size)
  have Hv34 := Lib.hid (Hv3.out.below hb4 (Nat.le_refl _))
  have bx4 := ((bx.below hb2 bx.lt).below hb3 (Nat.lt_of_lt_of_le bx.lt hb2.size)).below hb4 (Nat.lt_of_lt_of_le bx.lt (Nat.le_trans hb2.size hb3.size))
  obtain ⟨c0, c1, c2, f0, f1, f2⟩ := Box3.facts bx4
  have Bx4 := Lib.hid bx4; clear bx bx4
  cases s
  · go_wp2_with fail
    obtain ⟨e0, e1, e2, hret⟩ := box_ret (t := false) Bx4.out Hv34.out Hv4.out b4 (Nat.le_refl _)
    refine bodyPost_ret ?_ rfl hret
    simp [results, Try.f107, go_sem, e0, e1, e2]
  · go_wp2_with fail
    refine (isZero_num Hv34.out (by omega)).mono ?_; rintro e w5 ⟨rfl, rfl⟩; rw [Hsg.out]
    go_wp2_with fail
    obtain ⟨e0, e1, e2, hret⟩ := box_ret (t := t) Bx4.out Hv34.out Hv4.out b4 (Nat.le_refl _)
    refine bodyPost_ret ?_ rfl hret
    simp [results, Try.f107, go_sem, e0, e1, e2]

def sgn (s : Bool) (n : Nat) : Int := if s then -1 else if n = 0 then 0 else 1

/-- a number's box, new -/
theorem Frac.box {w : World} {v : Value} {s : Bool} {n d : Nat} (h : Frac w v s n d) : ∃ o1 k1 c1 o2 k2 c2, v = .agg #[.bool s, .slice o1 k1 c1, .slice o2 k2 c2] ∧ Num w (.slice o1 k1 c1) n ∧ Num w (.slice o2 k2 c2) d := by
  obtain ⟨vn, vd, rfl, h1, h2⟩ := h
  obtain ⟨o1, k1, c1, rfl⟩ := h1.shape
  obtain ⟨o2, k2, c2, rfl⟩ := h2.shape
  exact ⟨_, _, _, _, _, _, rfl, h1, h2⟩

set_option maxHeartbeats 1000000 in
set_option maxRecDepth 100000 in
theorem sign_num {w : World} {v : Value} {s : Bool} {n d : Nat} (h : Frac w v s n d) (ln : Len n ≤ 10000000000) : Calls Try.prog 75 #[v] w fun e w' => e = .returned (.int .i64 (sgn s n)) ∧ Below w.heap.size w w' := by
  obtain ⟨o1, k1, c1', o2, k2, c2', rfl, hn, hd⟩ := h.box
  clear h hd
  have b1 : Below w.heap.size w (w.alloc (.cells #[.bool s, .slice o1 k1 c1', .slice o2 k2 c2'] 55)) := (Below.refl _ w).alloc (Nat.le_refl _) _
  have bx := Box3.new w (.bool s) (.slice o1 k1 c1') (.slice o2 k2 c2')
  have Hn := Lib.hid (hn.below b1 (Nat.le_refl _)); clear hn
  obtain ⟨c0, c1, c2, f0, f1, f2⟩ := Box3.facts bx
  have Bx := Lib.hid bx; clear bx
  go_enter Try.func75, Try.ntmps75
  cases s
  · go_wp2_with fail
    generalize w.alloc (.cells #[.bool false, .slice o1 k1 c1', .slice o2 k2 c2'] 55) = w1 at *
    refine (isZero_num Hn.out ln).mono ?_; rintro e w5 ⟨rfl, rfl⟩
    by_cases h : n = 0
    · rw [show decide (n = 0) = true from by simp [h]]
      have Hh : Hid (sgn false n = 0) := by show _ = _; simp [sgn, h]
      clear h
      go_wp2_with fail
      go_ret
      exact ⟨by rw [Hh.out]; rfl, b1⟩
    · rw [show decide (n = 0) = false from by simp [h]]
      have Hh : Hid (sgn false n = 1) := by show _ = _; simp [sgn, h]
      clear h
      go_wp2_with fail
      go_ret
      exact ⟨by rw [Hh.out]; rfl, b1⟩
  · go_wp2_with fail
    go_ret
    exact ⟨rfl, b1⟩

set_option maxHeartbeats 1000000 in
set_option maxRecDepth 100000 in
theorem inverse_num {w : World} {v : Value} {s : Bool} {n d : Nat} (h : Frac w v s n d) : Calls Try.prog 65 #[v] w (RetF w s d n) := by
  obtain ⟨o1, k1, c1', o2, k2, c2', rfl, hn, hd⟩ := h.box
  clear h
  have Hn := Lib.hid hn; clear hn
  have Hd := Lib.hid hd; clear hd
  have b1 : Below w.heap.size w ((w.alloc (.cells #[.bool s, .slice o1 k1 c1', .slice o2 k2 c2'] 55)).alloc (.cells #[.bool s, .slice o2 k2 c2', .slice o1 k1 c1'] 55)) := ((Below.refl _ w).alloc (Nat.le_refl _) _).alloc (by simp) _
  have e : Box3 ((w.alloc (.cells #[.bool s, .slice o1 k1 c1', .slice o2 k2 c2'] 55)).alloc (.cells #[.bool s, .slice o2 k2 c2', .slice o1 k1 c1'] 55)) (w.heap.size + 1) (.bool s) (.slice o2 k2 c2') (.slice o1 k1 c1') := by
    have := Box3.new (w.alloc (.cells #[.bool s, .slice o1 k1 c1', .slice o2 k2 c2'] 55)) (.bool s) (.slice o2 k2 c2') (.slice o1 k1 c1')
    rwa [show (w.alloc (.cells #[.bool s, .slice o1 k1 c1', .slice o2 k2 c2'] 55)).heap.size = w.heap.size + 1 from by simp] at this
  have B1 := Lib.hid b1; clear b1
  have E := Lib.hid e; clear e
  go_enter Try.func65, Try.ntmps65
  go_wp2_with fail
  have e0 := E.out.c0
  have e1 := E.out.c1
  have e2 := E.out.c2
  refine bodyPost_ret (v := .agg #[.bool s, .slice o2 k2 c2', .slice o1 k1 c1']) ?_ rfl ⟨_, rfl, ⟨_, _, rfl, Hd.out.below B1.out (Nat.le_refl _), Hn.out.below B1.out (Nat.le_refl _)⟩, B1.out⟩
  simp [results, Try.f65, go_sem, e0, e1, e2]

set_option maxHeartbeats 1000000 in
set_option maxRecDepth 100000 in
theorem fits_num {w : World} {v : Value} {s : Bool} {n d : Nat} (h : Frac w v s n d) (ln : Len n ≤ 10000000000) (ld : Len d ≤ 10000000000) :
    Calls Try.prog 91 #[v] w fun e w' => e = .returned (.bool (decide (Dig n ≤ 300 ∧ Dig d ≤ 300))) ∧ Below w.heap.size w w' := by
  obtain ⟨o1, k1, c1', o2, k2, c2', rfl, hn, hd⟩ := h.box
  clear h
  have b1 : Below w.heap.size w (w.alloc (.cells #[.bool s, .slice o1 k1 c1', .slice o2 k2 c2'] 55)) := (Below.refl _ w).alloc (Nat.le_refl _) _
  have bx := Box3.new w (.bool s) (.slice o1 k1 c1') (.slice o2 k2 c2')
  have Hn := Lib.hid (hn.below b1 (Nat.le_refl _)); clear hn
  have Hd := Lib.hid (hd.below b1 (Nat.le_refl _)); clear hd
  obtain ⟨c0, c1, c2, f0, f1, f2⟩ := Box3.facts bx
  have Bx := Lib.hid bx; clear bx
  go_enter Try.func91, Try.ntmps91
  by_cases h1 : Dig n ≤ 300
  · have d1 : decide (((Dig n : Nat) : Int) ≤ 300) = true := by simp; omega
    have Hr : Hid (decide (Dig n ≤ 300 ∧ Dig d ≤ 300) = decide (((Dig d : Nat) : Int) ≤ 300)) := by
      show _ = _
      rw [decide_eq_decide]; omega
    clear h1
    go_wp2_with fail
    generalize w.alloc (.cells #[.bool s, .slice o1 k1 c1', .slice o2 k2 c2'] 55) = w1 at *
    refine (digits_num Hn.out ln).mono ?_; rintro e w5 ⟨rfl, rfl⟩
    go_wp2_with fail
    refine (digits_num Hd.out ld).mono ?_; rintro e w5 ⟨rfl, rfl⟩
    generalize hg : decide (((Dig d : Nat) : Int) ≤ 300) = t at *
    have Hg := Lib.hid hg; clear hg
    go_wp2_with fail
    go_ret
    exact ⟨by rw [Hr.out, ← Hg.out]; rfl, b1⟩
  · have d1 : decide (((Dig n : Nat) : Int) ≤ 300) = false := by simp; omega
    have Hr : Hid (decide (Dig n ≤ 300 ∧ Dig d ≤ 300) = false) := by
      show _ = _
      simp; omega
    clear h1
    go_wp2_with fail
    generalize w.alloc (.cells #[.bool s, .slice o1 k1 c1', .slice o2 k2 c2'] 55) = w1 at *
    refine (digits_num Hn.out ln).mono ?_; rintro e w5 ⟨rfl, rfl⟩
    go_wp2_with fail
    go_ret
    exact ⟨by rw [Hr.out]; rfl, b1⟩
end Go.Proofs.Ytlkdahgfnfdakaa
