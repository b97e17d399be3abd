/- The reference's simplest: the mathematics. -/
import Derived.Test.YtlkdahgfnfdakaaRefZ1
import Derived.Test.YtlkdahgfnfdakaaFaceD
namespace Go.Proofs.Ytlkdahgfnfdakaa
open Go Go.RowKit Go.Shelf WN LM

theorem low_cop {s : Bool} {n d : Nat} (h : Nat.Coprime n d) : lowQ s n d = (s && decide (n ≠ 0), n, d) := by
  unfold lowQ
  rw [show Nat.gcd n d = 1 from h, Nat.div_one, Nat.div_one]
theorem cop_sub {x y k : Nat} (h : Nat.Coprime x y) (hk : k * y ≤ x) : Nat.Coprime (x - k * y) y := by
  have h1 : Nat.gcd (x - k * y) y ∣ x := by
    have := Nat.dvd_add (Nat.gcd_dvd_left (x - k * y) y) (Nat.dvd_trans (Nat.gcd_dvd_right (x - k * y) y) (Nat.dvd_mul_left y k))
    rwa [Nat.sub_add_cancel hk] at this
  have h2 := Nat.dvd_gcd h1 (Nat.gcd_dvd_right (x - k * y) y)
  rw [show Nat.gcd x y = 1 from h] at h2
  exact Nat.dvd_one.1 h2
theorem cop_add {x y k : Nat} (h : Nat.Coprime x y) : Nat.Coprime (k * y + x) y := by
  have h1 : Nat.gcd (k * y + x) y ∣ x := by
    have hg := Nat.gcd_dvd_left (k * y + x) y
    have hy := Nat.dvd_trans (Nat.gcd_dvd_right (k * y + x) y) (Nat.dvd_mul_left y k)
    exact (Nat.dvd_add_right hy).1 hg
  have h2 := Nat.dvd_gcd h1 (Nat.gcd_dvd_right (k * y + x) y)
  rw [show Nat.gcd x y = 1 from h] at h2
  exact Nat.dvd_one.1 h2
theorem can_pos {x y : Nat} (hy : 0 < y) (h : Nat.Coprime x y) : Can (false, x, y) := ⟨hy, h, by intro h; cases h⟩
theorem can_int (k : Nat) : Can (false, k, 1) := can_pos Nat.one_pos (Nat.gcd_one_right k)
theorem add_whole {k x y : Nat} (hy : 0 < y) (h : Nat.Coprime x y) : addQ (false, k, 1) (false, x, y) = (false, k * y + x, y) := by
  rw [← low_add (can_int k) (can_pos hy h)]
  show lowQ (addS false (k * y) false (x * 1)) (addN false (k * y) false (x * 1)) (1 * y) = _
  rw [add_same.1, add_same.2, Nat.mul_one, Nat.one_mul, low_cop (cop_add h)]
  rfl
theorem sub_whole {k x y : Nat} (hy : 0 < y) (h : Nat.Coprime x y) (hk : k * y ≤ x) : subQ (false, x, y) (false, k, 1) = (false, x - k * y, y) := by
  rw [show subQ (false, x, y) (false, k, 1) = plusQ (false, x, y) (negQ (false, k, 1)) from (plus_eq (can_pos hy h) (negQ_spec (can_int k)).1).symm]
  show lowQ (addS false (x * 1) (!false && decide (k ≠ 0)) (k * y)) (addN false (x * 1) (!false && decide (k ≠ 0)) (k * y)) (y * 1) = _
  rw [Nat.mul_one, Nat.mul_one]
  by_cases h0 : k = 0
  · subst h0
    rw [show (!false && decide (0 ≠ 0)) = false from rfl, add_same.1, add_same.2, Nat.zero_mul, Nat.add_zero, Nat.sub_zero, low_cop h]
    rfl
  · have e : (!false && decide (k ≠ 0)) = true := by simp [h0]
    rw [e]
    have hne : false ≠ true := by decide
    rw [(add_diff hne).1, (add_diff hne).2, if_neg (by omega), if_neg (by omega), low_cop (cop_sub h hk)]
    rfl
theorem inv_pos {x y : Nat} (hx : 0 < x) (hy : 0 < y) (h : Nat.Coprime x y) : divQ oneQ (false, x, y) = (false, y, x) := by
  have h9 := divQ_spec can_oneQ (can_pos hy h) (show x ≠ 0 by omega)
  have h8 := invQ_spec (can_pos hy h) (show x ≠ 0 by omega)
  refine toR_inj h9.1 h8.1 ?_
  rw [h9.2, show toR (false, y, x) = (toR (false, x, y))⁻¹ from h8.2]
  have : toR oneQ = 1 := rfl
  rw [this, Rat.div_def, Rat.one_mul]
theorem floor_pos (a b : Nat) : floorQ (false, a, b) = (false, a / b, 1) := rfl
theorem cmp_pos {x y z t : Nat} : (cmpQ (false, x, y) (false, z, t) = 0 ↔ x * t = z * y) ∧ (cmpQ (false, x, y) (false, z, t) ≤ 0 ↔ x * t ≤ z * y) := by
  rw [cmpQ_sign]
  have e : ((sgi false x * (t : Int) - sgi false z * (y : Int))) = ((x * t : Nat) : Int) - ((z * y : Nat) : Int) := by
    rw [Int.natCast_mul, Int.natCast_mul]; rfl
  constructor
  · show ((sgi false x * (t : Int) - sgi false z * (y : Int))).sign = 0 ↔ _
    rw [e, Int.sign_eq_zero_iff_zero]; omega
  · show ((sgi false x * (t : Int) - sgi false z * (y : Int))).sign ≤ 0 ↔ _
    rw [e]
    rcases Int.lt_trichotomy (((x * t : Nat) : Int) - ((z * y : Nat) : Int)) 0 with h | h | h
    · rw [Int.sign_eq_neg_one_of_neg h]; omega
    · rw [h]; simp only [Int.sign_zero]; omega
    · rw [Int.sign_eq_one_of_pos h]; omega
theorem simpl_can : ∀ (N a b c d : Nat), b + d ≤ N → 0 < a → 0 < b → 0 < d → a * d ≤ c * b → 0 < (simpl a b c d).1 ∧ 0 < (simpl a b c d).2 ∧ Nat.Coprime (simpl a b c d).1 (simpl a b c d).2
  | 0, a, b, c, d, hN, ha, hb, hd, h => by omega
  | N + 1, a, b, c, d, hN, ha, hb, hd, h => by
    by_cases h1 : a % b = 0
    · rw [simpl_exact h1]
      refine ⟨?_, Nat.one_pos, Nat.gcd_one_right _⟩
      have e := Nat.div_add_mod a b
      rcases Nat.eq_zero_or_pos (a / b) with h0 | h0
      · rw [h0, Nat.mul_zero] at e; omega
      · exact h0
    · have h4 := Nat.mod_lt a hb
      by_cases h2 : (a / b + 1) * d ≤ c
      · rw [simpl_next h1 h2]
        exact ⟨Nat.succ_pos _, Nat.one_pos, Nat.gcd_one_right _⟩
      · rw [simpl_rec hb h1 (by omega)]
        obtain ⟨g1, g2⟩ := simpl_between hb hd h h1
        have g3 : c - a / b * d < d := by rw [Nat.add_mul, Nat.one_mul] at h2; omega
        obtain ⟨r1, r2, r3⟩ := simpl_can N d (c - a / b * d) b (a % b) (by omega) hd (by omega) (by omega) (by rw [Nat.mul_comm d]; exact g2)
        generalize simpl d (c - a / b * d) b (a % b) = r at *
        exact ⟨by show 0 < a / b * r.1 + r.2; omega, r1, cop_add (Nat.Coprime.symm r3)⟩
theorem mod_sub (a b : Nat) : a - a / b * b = a % b := by
  have := Nat.div_add_mod a b
  rw [Nat.mul_comm] at this; omega
/-- what one round of simplest meets -/
structure SimR (a b c d : Nat) : Prop where
  low : floorQ (false, a, b) = (false, a / b, 1)
  at0 : cmpQ (false, a / b, 1) (false, a, b) = 0 ↔ a % b = 0
  up : addQ (false, a / b, 1) oneQ = (false, a / b + 1, 1)
  next : cmpQ (false, a / b + 1, 1) (false, c, d) ≤ 0 ↔ (a / b + 1) * d ≤ c
  more : a % b ≠ 0 → a / b * d < c ∧ subQ (false, c, d) (false, a / b, 1) = (false, c - a / b * d, d) ∧ divQ oneQ (false, c - a / b * d, d) = (false, d, c - a / b * d) ∧
    subQ (false, a, b) (false, a / b, 1) = (false, a % b, b) ∧ divQ oneQ (false, a % b, b) = (false, b, a % b) ∧
    Can (false, c - a / b * d, d) ∧ Can (false, a % b, b) ∧ Can (false, d, c - a / b * d) ∧ Can (false, b, a % b)
theorem simR {a b c d : Nat} (hb : 0 < b) (hd : 0 < d) (h1 : Nat.Coprime a b) (h2 : Nat.Coprime c d) (h : a * d ≤ c * b) : SimR a b c d where
  low := floor_pos a b
  at0 := by
    rw [cmp_pos.1, Nat.mul_one]
    have := Nat.div_add_mod a b
    rw [Nat.mul_comm] at this; omega
  up := by
    have := add_whole (k := a / b) (x := 1) (y := 1) Nat.one_pos (Nat.gcd_one_right 1)
    rw [Nat.mul_one] at this
    exact this
  next := by rw [cmp_pos.2, Nat.mul_one]
  more := fun hm => by
    obtain ⟨g1, g2⟩ := simpl_between hb hd h hm
    have k1 := cop_sub h2 (Nat.le_of_lt g1)
    have k0 : a / b * b ≤ a := Nat.div_mul_le_self a b
    have k2 := cop_sub h1 k0
    have e1 := sub_whole hb h1 k0
    rw [mod_sub] at k2 e1
    exact ⟨g1, sub_whole hd h2 (Nat.le_of_lt g1), inv_pos (by omega) hd k1, e1, inv_pos (by omega) hb k2, can_pos hd k1, can_pos hb k2, can_pos (by omega) (Nat.Coprime.symm k1), can_pos (by omega) (Nat.Coprime.symm k2)⟩
end Go.Proofs.Ytlkdahgfnfdakaa
