/- What the walks of package rat's laws share: guards within guards, and the order of the rational numbers as Cmp and Sign return it. -/
import Derived.Test.YtlkdahgfnfdakaaBase
namespace Go.Proofs.Ytlkdahgfnfdakaa
open Go Go.RowKit Go.Shelf WN LM

theorem and_t {a b : Bool} (h : a = true) : (a && b) = b := by subst h; rfl
theorem and_f {a b : Bool} (h : a = false) : (a && b) = false := by subst h; rfl
theorem or_t {a b : Bool} (h : a = true) : (a || b) = true := by subst h; rfl
theorem or_f {a b : Bool} (h : a = false) : (a || b) = b := by subst h; rfl
theorem wantV_pos {g : Bool} {v : Value} (h : g = true) : wantV g v = v := by subst h; rfl
theorem wantV_neg {g : Bool} {v : Value} (h : g = false) : wantV g v = undef := by subst h; rfl
theorem wantV_eq {g : Bool} {u v : Value} (h : g = true) (e : u = v) : u = wantV g v := by subst h; exact e
theorem wanted_none {ops : Array Oper} {o : Oper} {a : Act} {j : Nat} {want : Bool} {t : Tmp} (hg : o.guard = some (j, want)) (ht : dstAt ops j = some t) (h : a.tmps[t]?.getD undef = undef) : Region.wanted o (yielded ops a.tmps) = false := by
  unfold dstAt at ht
  cases hh : a.tmps[t]? with
  | none =>
    simp only [Region.wanted, hg, yielded, ht, Option.bind_some, hh]
    cases want <;> rfl
  | some x =>
    rw [hh] at h
    obtain rfl : x = undef := h
    simp only [Region.wanted, hg, yielded, ht, Option.bind_some, hh]
    cases want <;> rfl
section
variable {P : Program} {ops : Array Oper} {Q : Exit → Act → World → Prop} {o : Oper} {a : Act} {w : World} {K : Act → World → Prop} {j : Nat} {p b : Bool} {t : Tmp}
theorem guard_t (hg : o.guard = some (j, true)) (ht : dstAt ops j = some t) (h : a.tmps[t]?.getD undef = .bool b) (h1 : b = true → o.wp P a w K Q) (h2 : b = false → K (a.put o.dst undef) w) :
    if Region.wanted o (yielded ops a.tmps) = true then o.wp P a w K Q else K (a.put o.dst undef) w :=
  guard_by hg ht h h1 (fun hn => h2 (by simpa using hn))
theorem guard_f (hg : o.guard = some (j, false)) (ht : dstAt ops j = some t) (h : a.tmps[t]?.getD undef = .bool b) (h1 : b = false → o.wp P a w K Q) (h2 : (!b) = false → K (a.put o.dst undef) w) :
    if Region.wanted o (yielded ops a.tmps) = true then o.wp P a w K Q else K (a.put o.dst undef) w :=
  guard_by hg ht h h1 (fun hn => h2 (by simpa using hn))
theorem guard_tt (hg : o.guard = some (j, true)) (ht : dstAt ops j = some t) (h : a.tmps[t]?.getD undef = wantV p (.bool b)) (h1 : p = true → b = true → o.wp P a w K Q) (h2 : (p && b) = false → K (a.put o.dst undef) w) :
    if Region.wanted o (yielded ops a.tmps) = true then o.wp P a w K Q else K (a.put o.dst undef) w := by
  cases p
  · rw [wanted_none hg ht h]
    exact h2 rfl
  · exact guard_by hg ht h (h1 rfl) (fun hn => h2 (by simpa using hn))
theorem guard_ff (hg : o.guard = some (j, false)) (ht : dstAt ops j = some t) (h : a.tmps[t]?.getD undef = wantV p (.bool b)) (h1 : p = true → b = false → o.wp P a w K Q) (h2 : (p && !b) = false → K (a.put o.dst undef) w) :
    if Region.wanted o (yielded ops a.tmps) = true then o.wp P a w K Q else K (a.put o.dst undef) w := by
  cases p
  · rw [wanted_none hg ht h]
    exact h2 rfl
  · exact guard_by hg ht h (h1 rfl) (fun hn => h2 (by simpa using hn))
end

/-- the order -/
def cmpR (x y : Rat) : Int := if x < y then -1 else if x = y then 0 else 1
theorem cmpR_three (x y : Rat) : cmpR x y = -1 ∨ cmpR x y = 0 ∨ cmpR x y = 1 := by
  unfold cmpR
  split
  · left; rfl
  · split
    · right; left; rfl
    · right; right; rfl
theorem cmpR_of {x y : Rat} {i : Int} (h3 : i = -1 ∨ i = 0 ∨ i = 1) (h1 : i < 0 ↔ x < y) (h2 : i = 0 ↔ x = y) : cmpR x y = i := by
  unfold cmpR
  by_cases a : x < y
  · rw [if_pos a]; have := h1.2 a; omega
  · rw [if_neg a]
    by_cases b : x = y
    · rw [if_pos b]; exact (h2.2 b).symm
    · rw [if_neg b]
      have k1 : ¬ i < 0 := fun h => a (h1.1 h)
      have k2 : ¬ i = 0 := fun h => b (h2.1 h)
      omega
theorem cmpR_neg {x y : Rat} : cmpR x y < 0 ↔ x < y := by
  unfold cmpR
  constructor
  · intro h
    by_cases a : x < y
    · exact a
    · rw [if_neg a] at h; split at h <;> omega
  · intro h; rw [if_pos h]; omega
theorem cmpR_zero {x y : Rat} : cmpR x y = 0 ↔ x = y := by
  unfold cmpR
  constructor
  · intro h
    by_cases a : x < y
    · rw [if_pos a] at h; omega
    · rw [if_neg a] at h
      by_cases b : x = y
      · exact b
      · rw [if_neg b] at h; omega
  · rintro rfl
    rw [if_neg Rat.lt_irrefl, if_pos rfl]
theorem cmpR_pos {x y : Rat} : 0 < cmpR x y ↔ y < x := by
  have h3 := cmpR_three x y
  have h1 := @cmpR_neg x y
  have h2 := @cmpR_zero x y
  rcases Rat.le_total (a := x) (b := y) with h | h
  · constructor
    · intro hp
      exfalso
      rcases Rat.le_iff_lt_or_eq.1 h with h | h
      · have := h1.2 h; omega
      · have := h2.2 h; omega
    · intro hp
      exact absurd hp (Rat.not_lt.2 h)
  · constructor
    · intro hp
      rcases Rat.le_iff_lt_or_eq.1 h with h | h
      · exact h
      · have := h2.2 h.symm; omega
    · intro hp
      have k1 : ¬ cmpR x y < 0 := fun hh => (Rat.not_lt.2 h) (h1.1 hh)
      have k2 : ¬ cmpR x y = 0 := fun hh => by
        have := h2.1 hh
        subst this
        exact Rat.lt_irrefl hp
      omega
theorem cmpR_le {x y : Rat} : cmpR x y ≤ 0 ↔ x ≤ y := by
  have := @cmpR_pos x y
  rw [← Rat.not_lt, ← this]; omega
theorem cmpR_ge {x y : Rat} : 0 ≤ cmpR x y ↔ y ≤ x := by
  have := @cmpR_neg x y
  rw [← Rat.not_lt, ← this]; omega
theorem cmpT_isV {a b : ByteArray} {x y : Rat} (ha : IsV a x) (hb : IsV b y) : cmpT a b = (cmpR x y, 0) := by
  obtain ⟨p, hp, rfl⟩ := ha
  obtain ⟨q, hq, rfl⟩ := hb
  have e : cmpT a b = cmpF p q := by unfold cmpT twoG; rw [hp, hq]
  rw [e, cmpR_of (cmpQ_three p q) (cmpQ_lt (readQ_can hp) (readQ_can hq)) (cmpQ_eq (readQ_can hp) (readQ_can hq))]
  rfl
theorem toR_neg {q : Q3} (hq : Can q) : toR q < 0 ↔ q.1 = true := by
  rw [Rat.lt_iff, toR_num hq, toR_den hq]
  show sgi q.1 q.2.1 * 1 < 0 * _ ↔ _
  unfold sgi
  have := hq.2.2
  cases h : q.1
  · simp
  · have := this h; simp; omega
theorem signT_cmp {a : ByteArray} {x : Rat} (ha : IsV a x) : signT a = (cmpR x 0, 0) := by
  obtain ⟨p, hp, rfl⟩ := ha
  have cp := readQ_can hp
  have e : signT a = (signQ p, 0) := by unfold signT oneG; rw [hp]
  rw [e, cmpR_of (i := signQ p) ?_ ?_ ?_]
  · unfold signQ sgn
    cases p.1
    · by_cases h : p.2.1 = 0 <;> simp [h]
    · simp
  · rw [toR_neg cp]
    unfold signQ sgn
    cases p.1
    · by_cases h : p.2.1 = 0 <;> simp [h]
    · simp
  · rw [toR_zero cp]; exact sgn_zero cp.2.2
theorem cmpR_swap (x y : Rat) : cmpR y x = -cmpR x y := by
  refine cmpR_of ?_ ?_ ?_
  · rcases cmpR_three x y with h | h | h <;> rw [h] <;> simp
  · rw [← cmpR_pos]; omega
  · constructor
    · intro h; exact (cmpR_zero.1 (by omega)).symm
    · intro h; have := cmpR_zero.2 h.symm; omega
theorem cmpR_add (x y z : Rat) : cmpR (x + z) (y + z) = cmpR x y := by
  refine cmpR_of (cmpR_three x y) ?_ ?_
  · rw [cmpR_neg]; constructor <;> intro h <;> grind
  · rw [cmpR_zero]; constructor <;> intro h <;> grind
theorem cmpR_sub (x y : Rat) : cmpR (x - y) 0 = cmpR x y := by
  refine cmpR_of (cmpR_three x y) ?_ ?_
  · rw [cmpR_neg]; constructor <;> intro h <;> grind
  · rw [cmpR_zero]; constructor <;> intro h <;> grind
theorem mul_lt_pos {x y z : Rat} (hz : 0 < z) : x * z < y * z ↔ x < y := by
  constructor
  · intro h
    exact Rat.not_le.1 fun k => (Rat.not_lt.2 (Rat.mul_le_mul_of_nonneg_right k (Rat.le_of_lt hz))) h
  · intro h
    exact Rat.mul_lt_mul_of_pos_right h hz
theorem mul_eq_ne {x y z : Rat} (hz : z ≠ 0) : x * z = y * z ↔ x = y := by
  constructor
  · intro h
    have := congrArg (· * z⁻¹) h
    simp only [Rat.mul_assoc, Rat.mul_inv_cancel z hz, Rat.mul_one] at this
    exact this
  · rintro rfl; rfl
theorem cmpR_mul (x y z : Rat) : cmpR (x * z) (y * z) = cmpR x y * cmpR z 0 := by
  rcases cmpR_three z 0 with h | h | h
  · have hz : z < 0 := cmpR_neg.1 (by omega)
    have hn : 0 < -z := by grind
    have hne : z ≠ 0 := by rintro rfl; exact Rat.lt_irrefl hz
    rw [h]
    refine cmpR_of ?_ ?_ ?_
    · rcases cmpR_three x y with h | h | h <;> rw [h] <;> simp
    · have e : (cmpR x y * -1 < 0) ↔ 0 < cmpR x y := by omega
      rw [e, cmpR_pos, ← mul_lt_pos hn]
      constructor <;> intro h <;> grind
    · have e : (cmpR x y * -1 = 0) ↔ cmpR x y = 0 := by omega
      rw [e, cmpR_zero, mul_eq_ne hne]
  · have hz : z = 0 := cmpR_zero.1 h
    subst hz
    rw [h, Rat.mul_zero, Rat.mul_zero, Int.mul_zero]
    exact cmpR_zero.2 rfl
  · have hz : 0 < z := cmpR_pos.1 (by omega)
    have hne : z ≠ 0 := by rintro rfl; exact Rat.lt_irrefl hz
    rw [h, Int.mul_one]
    refine cmpR_of (cmpR_three x y) ?_ ?_
    · rw [cmpR_neg, mul_lt_pos hz]
    · rw [cmpR_zero, mul_eq_ne hne]
theorem toList_eqv {a b : ByteArray} {x y : Rat} (ha : IsV a x) (hb : IsV b y) : (a.toList == b.toList) = (cmpR x y == 0) := by
  by_cases h : x = y
  · subst h
    obtain rfl := ha.inj hb
    rw [cmpR_zero.2 rfl]; simp
  · have h0 : ¬ cmpR x y = 0 := fun k => h (cmpR_zero.1 k)
    have h1 : ¬ a.toList = b.toList := by
      intro k
      rw [ByteArray.toList_eq, ByteArray.toList_eq] at k
      have e4 : a.data = b.data := Array.toList_inj.1 k
      have : a = b := by cases a; cases b; simp only at e4; rw [e4]
      subst this
      exact h (ha.val hb)
    rw [beq_false_of_ne h1, beq_false_of_ne h0]
end Go.Proofs.Ytlkdahgfnfdakaa
