/- The reference's Round and Pow of texts: the mathematics. -/
import Derived.Test.YtlkdahgfnfdakaaRefY
import Derived.Test.YtlkdahgfnfdakaaLawL
namespace Go.Proofs.Ytlkdahgfnfdakaa
open Go Go.RowKit Go.Shelf WN LM

theorem sgi_low {S : Bool} {M D : Nat} : sgi (lowQ S M D).1 (lowQ S M D).2.1 = sgi S (M / Nat.gcd M D) := by
  show sgi (S && decide (M ≠ 0)) (M / Nat.gcd M D) = _
  by_cases h0 : M = 0
  · subst h0; simp [sgi]
  · simp [h0]
theorem cmp_low {S t : Bool} {M D m c : Nat} (h : 0 < D) : cmpQ (lowQ S M D) (t, m, c) = (sgi S M * c - sgi t m * D).sign := by
  have hg : 0 < Nat.gcd M D := Nat.gcd_pos_of_pos_right _ h
  have hn := Nat.div_mul_cancel (Nat.gcd_dvd_left M D)
  have hd := Nat.div_mul_cancel (Nat.gcd_dvd_right M D)
  rw [cmpQ_sign, sgi_low]
  show (sgi S (M / Nat.gcd M D) * (c : Int) - sgi t m * ((D / Nat.gcd M D : Nat) : Int)).sign = _
  have e1 : sgi S M = sgi S (M / Nat.gcd M D) * (Nat.gcd M D : Nat) := by rw [← sgi_mul, hn]
  have e2 : (D : Int) = ((D / Nat.gcd M D : Nat) : Int) * (Nat.gcd M D : Nat) := by rw [← Int.natCast_mul, hd]
  generalize Nat.gcd M D = g at *
  generalize sgi S (M / g) = A at *
  generalize ((D / g : Nat) : Int) = B at *
  rw [e1, e2]
  have e3 : A * (g : Int) * c - sgi t m * (B * (g : Int)) = (A * c - sgi t m * B) * (g : Int) := by
    rw [Int.sub_mul, Int.mul_right_comm, Int.mul_assoc (sgi t m)]
  rw [e3, Int.sign_mul, Int.sign_eq_one_of_pos (by omega : (0 : Int) < (g : Int)), Int.mul_one]

def oneQ : Q3 := (false, 1, 1)
def halfQ : Q3 := (false, 1, 2)
theorem can_oneQ : Can oneQ := ⟨by decide, by decide, by intro h; cases h⟩
theorem can_halfQ : Can halfQ := ⟨by decide, by decide, by intro h; cases h⟩
theorem can_twoQ : Can (false, 2, 1) := ⟨by decide, by decide, by intro h; cases h⟩
theorem can_floorQ (p : Q3) : Can (floorQ p) := by
  obtain ⟨s, n, d⟩ := p
  show Can (s && decide (floorN s n d ≠ 0), floorN s n d, 1)
  refine ⟨Nat.one_pos, Nat.gcd_one_right _, ?_⟩
  intro h
  simp at h
  exact h.2
theorem can_roundQ (p : Q3) : Can (roundQ p) := by
  refine ⟨Nat.one_pos, Nat.gcd_one_right _, ?_⟩
  intro h
  have h : (p.1 && decide (roundN p.2.1 p.2.2 ≠ 0)) = true := h
  simp at h
  exact h.2
def restQ (p : Q3) : Q3 := plusQ p (negQ (floorQ p))
theorem rest_cmp {p : Q3} (hp : Can p) : cmpQ (restQ p) halfQ = (2 * (sgi p.1 p.2.1 - sgi p.1 (floorN p.1 p.2.1 p.2.2) * p.2.2) - p.2.2).sign := by
  obtain ⟨s, n, d⟩ := p
  unfold restQ plusQ halfQ
  have e : negQ (floorQ (s, n, d)) = (!(s && decide (floorN s n d ≠ 0)) && decide (floorN s n d ≠ 0), floorN s n d, 1) := rfl
  rw [e]
  have hd : 0 < d := hp.1
  show cmpQ (lowQ (addS s (n * 1) (!(s && decide (floorN s n d ≠ 0)) && decide (floorN s n d ≠ 0)) (floorN s n d * d)) (addN s (n * 1) (!(s && decide (floorN s n d ≠ 0)) && decide (floorN s n d ≠ 0)) (floorN s n d * d)) (d * 1)) (false, 1, 2) = (2 * (sgi s n - sgi s (floorN s n d) * (d : Int)) - (d : Int)).sign
  generalize floorN s n d = N
  rw [Nat.mul_one, Nat.mul_one, cmp_low hd, add_int, sgi_mul (!(s && decide (N ≠ 0)) && decide (N ≠ 0)), neg_sgi, sgi_dec]
  congr 1
  have e2 : sgi false 1 = 1 := rfl
  rw [e2]
  generalize sgi s N = F
  rw [Int.neg_mul]
  generalize F * (d : Int) = X
  show (sgi s n + -X) * 2 - 1 * (d : Int) = 2 * (sgi s n - X) - (d : Int)
  omega
theorem half_even {s : Bool} {N : Nat} : (lowQ (s != false) (N * 1) (1 * 2)).2.2 = 1 ↔ N % 2 = 0 := by
  show 1 * 2 / Nat.gcd (N * 1) (1 * 2) = 1 ↔ _
  rw [Nat.mul_one, Nat.one_mul]
  rcases Nat.mod_two_eq_zero_or_one N with h | h
  · have : Nat.gcd N 2 = 2 := Nat.gcd_eq_right (Nat.dvd_of_mod_eq_zero h)
    rw [this]; omega
  · have : Nat.gcd N 2 = 1 := by rw [Nat.gcd_comm, Nat.gcd_rec, h, Nat.gcd_one_left]
    rw [this]; omega
def oddQ (p : Q3) : Bool := !decide ((divQ (floorQ p) (false, 2, 1)).2.2 = 1)
theorem odd_eq (p : Q3) : oddQ p = decide (floorN p.1 p.2.1 p.2.2 % 2 = 1) := by
  unfold oddQ
  rw [← low_div (can_floorQ p) can_twoQ (by decide)]
  have h := half_even (s := (floorQ p).1) (N := floorN p.1 p.2.1 p.2.2)
  have e : (lowQ ((floorQ p).1 != (false, 2, 1).1) ((floorQ p).2.1 * (false, 2, 1).2.2) ((floorQ p).2.2 * (false, 2, 1).2.1)).2.2 = (lowQ ((floorQ p).1 != false) (floorN p.1 p.2.1 p.2.2 * 1) (1 * 2)).2.2 := rfl
  rw [e]
  generalize (lowQ ((floorQ p).1 != false) (floorN p.1 p.2.1 p.2.2 * 1) (1 * 2)).2.2 = y at *
  generalize floorN p.1 p.2.1 p.2.2 = N at *
  rcases Nat.mod_two_eq_zero_or_one N with h1 | h1
  · rw [decide_eq_true (h.2 h1), h1]; rfl
  · rw [decide_eq_false (fun h2 => by have := h.1 h2; omega), h1]; rfl
theorem round_int {s : Bool} {n d : Nat} (hd : 0 < d) (hs : s = true → n ≠ 0) : sgi s (roundN n d) = if 0 < 2 * (sgi s n - sgi s (floorN s n d) * d) - d ∨ (2 * (sgi s n - sgi s (floorN s n d) * d) - d = 0 ∧ floorN s n d % 2 = 1) then sgi s (floorN s n d) + 1 else sgi s (floorN s n d) := by
  have hm := Nat.div_add_mod n d
  have hl := Nat.mod_lt n hd
  have hmI : (n : Int) = d * (n / d : Nat) + (n % d : Nat) := by exact_mod_cast hm.symm
  unfold roundN floorN
  generalize n / d = q at *
  generalize n % d = r at *
  cases s
  · have e1 : sgi false n = (n : Int) := rfl
    have e2 : ∀ x, sgi false x = (x : Int) := fun _ => rfl
    rw [e2, e2, e2]
    have e3 : (if (false && decide (r ≠ 0)) = true then q + 1 else q) = q := rfl
    rw [e3, hmI, Int.mul_comm (d : Int)]
    have e4 : 2 * ((q : Int) * d + (r : Int) - q * d) - d = 2 * r - d := by omega
    rw [e4]
    split <;> split <;> omega
  · have e2 : ∀ x, sgi true x = -(x : Int) := fun _ => rfl
    rw [e2, e2, e2]
    by_cases h0 : r = 0
    · subst h0
      have e3 : (if (true && decide (0 ≠ 0)) = true then q + 1 else q) = q := rfl
      simp only [ne_eq, not_true_eq_false, decide_false, Bool.and_false, Bool.false_eq_true, if_false]
      rw [hmI, Int.mul_comm (d : Int)]
      have e4 : 2 * (-((q : Int) * d + ((0 : Nat) : Int)) - -(q : Int) * d) - d = - d := by rw [Int.neg_mul]; omega
      rw [e4]
      split <;> split <;> omega
    · simp only [ne_eq, h0, not_false_eq_true, decide_true, Bool.and_self, if_true]
      rw [hmI, Int.mul_comm (d : Int)]
      have e4 : 2 * (-((q : Int) * d + (r : Int)) - -((q + 1 : Nat) : Int) * d) - d = d - 2 * r := by
        rw [Int.neg_mul, Int.natCast_add, Int.add_mul]; omega
      rw [e4]
      split <;> split <;> omega
def upQ (p : Q3) : Bool := decide (0 < cmpQ (restQ p) halfQ) || (decide (cmpQ (restQ p) halfQ = 0) && oddQ p)
theorem sign_pos_iff (x : Int) : 0 < x.sign ↔ 0 < x := by
  rcases Int.lt_trichotomy x 0 with h | h | h
  · rw [Int.sign_eq_neg_one_of_neg h]; omega
  · rw [h]; simp
  · rw [Int.sign_eq_one_of_pos h]; omega
theorem round_ref {p : Q3} (hp : Can p) : roundQ p = if upQ p then addQ (floorQ p) oneQ else floorQ p := by
  have ha := addQ_spec (can_floorQ p) can_oneQ
  have hr := round_int hp.1 hp.2.2
  have e0 : toR (roundQ p) = ((sgi p.1 (roundN p.2.1 p.2.2) : Int) : Rat) := by
    rw [← mkRat_one]; unfold toR
    show mkRat (sgi (p.1 && decide (roundN p.2.1 p.2.2 ≠ 0)) (roundN p.2.1 p.2.2)) 1 = _
    rw [sgi_dec]
  have e1 : toR (floorQ p) = ((sgi p.1 (floorN p.1 p.2.1 p.2.2) : Int) : Rat) := by
    rw [← mkRat_one]; unfold toR
    show mkRat (sgi (p.1 && decide (floorN p.1 p.2.1 p.2.2 ≠ 0)) (floorN p.1 p.2.1 p.2.2)) 1 = _
    rw [sgi_dec]
  have e2 : toR oneQ = ((1 : Int) : Rat) := by rw [← mkRat_one]; rfl
  have hu : upQ p = true ↔ (0 < 2 * (sgi p.1 p.2.1 - sgi p.1 (floorN p.1 p.2.1 p.2.2) * p.2.2) - p.2.2 ∨ (2 * (sgi p.1 p.2.1 - sgi p.1 (floorN p.1 p.2.1 p.2.2) * p.2.2) - p.2.2 = 0 ∧ floorN p.1 p.2.1 p.2.2 % 2 = 1)) := by
    unfold upQ
    rw [rest_cmp hp, odd_eq]
    simp only [Bool.or_eq_true, Bool.and_eq_true, decide_eq_true_eq, Int.sign_eq_zero_iff_zero]
    rw [sign_pos_iff]
  by_cases h : upQ p = true
  · rw [if_pos h]
    rw [if_pos (hu.1 h)] at hr
    refine toR_inj (can_roundQ p) ha.1 ?_
    rw [ha.2, e0, hr, e1, e2, Rat.intCast_add]
  · rw [if_neg h]
    rw [if_neg (fun h2 => h (hu.2 h2))] at hr
    refine toR_inj (can_roundQ p) (can_floorQ p) ?_
    rw [e0, hr, e1]
end Go.Proofs.Ytlkdahgfnfdakaa
