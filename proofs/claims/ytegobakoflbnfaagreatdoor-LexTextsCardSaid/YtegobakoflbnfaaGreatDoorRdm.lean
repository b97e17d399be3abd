/- The reference's Decimal. -/
import Derived.Test.YtegobakoflbnfaaGreatDoorRq
namespace Go.Proofs.YtegobakoflbnfaaGreatDoor
open Go Go.RowKit

/-- the decimal so far: the whole, and k places of r / d -/
def outK (n d k : Nat) : List UInt8 := Lib.decDigits (n / d) ++ (if k = 0 then [] else [46] ++ padL (n % d * 10 ^ k / d) k)
/-- what is left behind k places -/
def rk (n d k : Nat) : Nat := n % d * 10 ^ k % d
theorem rk_zero (n d : Nat) : rk n d 0 = n % d := by unfold rk; rw [Nat.pow_zero, Nat.mul_one, Nat.mod_mod]
theorem rk_succ (n d k : Nat) : rk n d (k + 1) = 10 * rk n d k % d := by
  unfold rk
  rw [Nat.pow_succ, ← Nat.mul_assoc, Nat.mul_comm _ 10, Nat.mul_mod, Nat.mul_mod 10 (_ % d), Nat.mod_mod]
theorem quo_succ (n d k : Nat) (hd : 0 < d) : n % d * 10 ^ (k + 1) / d = 10 * (n % d * 10 ^ k / d) + 10 * rk n d k / d := by
  unfold rk
  have h := Nat.div_add_mod (n % d * 10 ^ k) d
  have e : n % d * 10 ^ (k + 1) = 10 * (n % d * 10 ^ k % d) + d * (10 * (n % d * 10 ^ k / d)) := by
    rw [Nat.pow_succ, ← Nat.mul_assoc]
    have h2 : d * (10 * (n % d * 10 ^ k / d)) = 10 * (d * (n % d * 10 ^ k / d)) := by rw [← Nat.mul_assoc, Nat.mul_comm d 10, Nat.mul_assoc]
    rw [h2]; omega
  rw [e, Nat.add_mul_div_left _ _ hd]; omega
theorem pad_snoc {M g k : Nat} (hk : 0 < k) (hg : g < 10) (hM : M < 10 ^ k) : padL (10 * M + g) (k + 1) = padL M k ++ [UInt8.ofNat (48 + g)] := by
  unfold padL
  rw [rep_noughts, rep_noughts]
  by_cases h0 : M = 0
  · subst h0
    rw [Nat.mul_zero, Nat.zero_add, dec_small hg, dec_small (by omega : 0 < 10)]
    obtain ⟨k, rfl⟩ : ∃ j, k = j + 1 := ⟨k - 1, by omega⟩
    show List.replicate (k + 1 + 1 - 1) 48 ++ _ = List.replicate (k + 1 - 1) 48 ++ [48] ++ _
    rw [Nat.add_sub_cancel, Nat.add_sub_cancel, List.replicate_succ']
  · have h10 : ¬ 10 * M + g < 10 := by omega
    rw [dec_step _ h10, show (10 * M + g) / 10 = M by omega, show (10 * M + g) % 10 = g by omega, List.length_append, List.length_singleton]
    rw [show k + 1 - ((Lib.decDigits M).length + 1) = k - (Lib.decDigits M).length by omega, List.append_assoc]
theorem outK_succ {n d k : Nat} (hd : 0 < d) : outK n d (k + 1) = outK n d k ++ (if k = 0 then [46] else []) ++ [UInt8.ofNat (48 + 10 * rk n d k / d)] := by
  have hr : rk n d k < d := Nat.mod_lt _ hd
  have hg : 10 * rk n d k / d < 10 := (Nat.div_lt_iff_lt_mul hd).2 (by omega)
  have hm : n % d < d := Nat.mod_lt _ hd
  unfold outK
  rw [if_neg (by omega : ¬ k + 1 = 0), quo_succ n d k hd]
  by_cases h0 : k = 0
  · subst h0
    rw [if_pos rfl, if_pos rfl, List.append_nil, Nat.pow_zero, Nat.mul_one, Nat.div_eq_of_lt hm, Nat.mul_zero, Nat.zero_add]
    have : padL (10 * rk n d 0 / d) (0 + 1) = [UInt8.ofNat (48 + 10 * rk n d 0 / d)] := by
      unfold padL
      rw [dec_small hg]; rfl
    rw [this]; simp
  · rw [if_neg h0, if_neg h0, pad_snoc (by omega) hg]
    · simp
    · refine (Nat.div_lt_iff_lt_mul hd).2 ?_
      rw [Nat.mul_comm]
      exact Nat.mul_lt_mul_of_pos_left hm (Nat.pow_pos (by decide))
theorem outK_len (n d k : Nat) (hd : 0 < d) (h : (Lib.decDigits (n / d)).length ≤ 15) (hk : k ≤ 15) : (outK n d k).length ≤ 40 := by
  unfold outK
  by_cases h0 : k = 0
  · rw [if_pos h0, List.append_nil]; omega
  · rw [if_neg h0]
    obtain ⟨k, rfl⟩ : ∃ j, k = j + 1 := ⟨k - 1, by omega⟩
    have hM : n % d * 10 ^ (k + 1) / d < 10 ^ (k + 1) := by
      refine (Nat.div_lt_iff_lt_mul hd).2 ?_
      rw [Nat.mul_comm]
      exact Nat.mul_lt_mul_of_pos_left (Nat.mod_lt _ hd) (Nat.pow_pos (by decide))
    rw [List.length_append, List.length_append, pad_len hM]
    simp only [List.length_singleton]; omega
/-- where the loop ends -/
theorem dec_end {l : List UInt8} {n d k : Nat} (hq : QA.readQ l = some (false, n, d)) (hl : (Lib.decDigits (n / d)).length ≤ 15) (hk : k ≤ 15) (hlast : rk n d k = 0) (hall : ∀ j, j < k → rk n d j ≠ 0) : refDec l = some (outK n d k) := by
  obtain ⟨-, -, hd0, hc, -, -⟩ := QA.readQ_spec hq
  unfold refDec
  rw [hq]
  simp only []
  rw [if_neg (by intro h; rcases h with h | h; · cases h
                 · omega)]
  by_cases h0 : k = 0
  · subst h0
    rw [rk_zero] at hlast
    rw [if_pos hlast]
    unfold outK
    rw [if_pos rfl, List.append_nil]
  · have h1 := hall 0 (by omega)
    rw [rk_zero] at h1
    rw [if_neg h1]
    have hco : Nat.gcd d (n % d) = 1 := by
      rw [Nat.gcd_comm, ← Nat.gcd_rec, Nat.gcd_comm]; exact hc
    have hiff : ∀ j, rk n d j = 0 ↔ 10 ^ j % d = 0 := fun j => by
      unfold rk
      constructor
      · intro h
        exact Nat.mod_eq_zero_of_dvd ((Nat.Coprime.dvd_of_dvd_mul_left hco) (Nat.dvd_of_mod_eq_zero h))
      · intro h
        exact Nat.mod_eq_zero_of_dvd (Nat.dvd_mul_left_of_dvd (Nat.dvd_of_mod_eq_zero h) _)
    have hp : decPl d = some k := pl_some (by omega) (fun q hq h => hall q hq ((hiff q).2 h)) ((hiff k).1 hlast)
    rw [hp]
    show some (Lib.decDigits (n / d) ++ [46] ++ padL (n % d * (10 ^ k / d)) k) = some (outK n d k)
    unfold outK
    rw [if_neg h0, Nat.mul_div_assoc _ (Nat.dvd_of_mod_eq_zero ((hiff k).1 hlast)), List.append_assoc]
theorem dec_far {l : List UInt8} {n d : Nat} (hq : QA.readQ l = some (false, n, d)) (hall : ∀ j, j < 16 → rk n d j ≠ 0) : refDec l = none := by
  obtain ⟨-, -, hd0, hc, -, -⟩ := QA.readQ_spec hq
  unfold refDec
  rw [hq]
  simp only []
  split
  · rfl
  · have h1 := hall 0 (by omega)
    rw [rk_zero] at h1
    rw [if_neg h1]
    have hp : decPl d = none := by
      refine pl_none fun q hq h => hall q hq ?_
      unfold rk
      exact Nat.mod_eq_zero_of_dvd (Nat.dvd_mul_left_of_dvd (Nat.dvd_of_mod_eq_zero h) _)
    rw [hp]
theorem dec_long {l : List UInt8} {n d : Nat} (hq : QA.readQ l = some (false, n, d)) (h : 15 < (Lib.decDigits (n / d)).length) : refDec l = none := by
  unfold refDec
  rw [hq]
  simp only []
  rw [if_pos (Or.inr h)]
theorem dec_neg {l : List UInt8} {n d : Nat} (hq : QA.readQ l = some (true, n, d)) : refDec l = none := by
  unfold refDec
  rw [hq]
  show (if (true = true ∨ _) then none else _) = none
  rw [if_pos (Or.inl rfl)]
theorem dec_no {l : List UInt8} (hq : QA.readQ l = none) : refDec l = none := by
  unfold refDec
  rw [hq]
/-- A / B is r / d in lowest terms -/
def Lw (d r A B : Nat) : Prop := ∃ g, 0 < g ∧ A * g = r ∧ B * g = d
theorem Lw.of {d r n m g : Nat} (hd : 0 < d) (hg : 0 < g) (h1 : n * g = r) (h2 : m * g = d) : Lw d r (n / Nat.gcd n m) (m / Nat.gcd n m) := by
  have hm : 0 < m := by
    rcases Nat.eq_zero_or_pos m with h | h
    · rw [h, Nat.zero_mul] at h2; omega
    · exact h
  refine ⟨Nat.gcd n m * g, Nat.mul_pos (Nat.gcd_pos_of_pos_right _ hm) hg, ?_, ?_⟩
  · rw [← Nat.mul_assoc, Nat.div_mul_cancel (Nat.gcd_dvd_left _ _), h1]
  · rw [← Nat.mul_assoc, Nat.div_mul_cancel (Nat.gcd_dvd_right _ _), h2]
theorem Lw.pos {d r A B : Nat} (h : Lw d r A B) (hd : 0 < d) : 0 < B := by
  obtain ⟨g, hg, -, h2⟩ := h
  rcases Nat.eq_zero_or_pos B with h | h
  · rw [h, Nat.zero_mul] at h2; omega
  · exact h
theorem Lw.zero {d r A B : Nat} (h : Lw d r A B) : A = 0 ↔ r = 0 := by
  obtain ⟨g, hg, h1, -⟩ := h
  constructor
  · intro h; rw [← h1, h, Nat.zero_mul]
  · intro h
    rw [h] at h1
    rcases Nat.mul_eq_zero.1 h1 with h | h
    · exact h
    · omega
theorem Lw.le {d r A B : Nat} (h : Lw d r A B) : A ≤ r ∧ B ≤ d := by
  obtain ⟨g, hg, h1, h2⟩ := h
  exact ⟨by rw [← h1]; exact Nat.le_mul_of_pos_right _ hg, by rw [← h2]; exact Nat.le_mul_of_pos_right _ hg⟩
theorem Lw.div {d r A B : Nat} (h : Lw d r A B) : A / B = r / d := by
  obtain ⟨g, hg, h1, h2⟩ := h
  rw [← h1, ← h2, Nat.mul_div_mul_right _ _ hg]
theorem Lw.times {d r A B : Nat} (h : Lw d r A B) (hd : 0 < d) : Lw d (10 * r) (A * 10 / Nat.gcd (A * 10) (B * 1)) (B * 1 / Nat.gcd (A * 10) (B * 1)) := by
  obtain ⟨g, hg, h1, h2⟩ := h
  exact Lw.of hd hg (by rw [Nat.mul_right_comm, h1, Nat.mul_comm]) (by rw [Nat.mul_one, h2])
theorem Lw.rest {d r A B : Nat} (h : Lw d r A B) (hd : 0 < d) : Lw d (r % d) (A % B / Nat.gcd (A % B) B) (B / Nat.gcd (A % B) B) := by
  obtain ⟨g, hg, h1, h2⟩ := h
  exact Lw.of hd hg (by rw [← h1, ← h2, Nat.mul_mod_mul_right]) h2
namespace QA
theorem sub_floor {n d : Nat} (hd : 0 < d) : plusQ (false, n, d) (negQ (false, n / d, 1)) = (false, n % d / Nat.gcd (n % d) d, d / Nat.gcd (n % d) d) := by
  have hle : n / d * d ≤ n := Nat.div_mul_le_self _ _
  have hm : n - n / d * d = n % d := by
    have := Nat.div_add_mod' n d
    omega
  by_cases h0 : n / d = 0
  · have hn : n % d = n := Nat.mod_eq_of_lt (by
      rcases Nat.lt_or_ge n d with h | h
      · exact h
      · have := Nat.div_pos h hd; omega)
    rw [h0, hn]
    show lowQ (addS false (n * 1) (!false && decide ((0 : Nat) ≠ 0)) (0 * d)) (addN false (n * 1) (!false && decide ((0 : Nat) ≠ 0)) (0 * d)) (d * 1) = _
    unfold addS addN
    simp [lowQ]
  · have ht : (!false && decide (n / d ≠ 0)) = true := by simp [h0]
    show lowQ (addS false (n * 1) (!false && decide (n / d ≠ 0)) (n / d * d)) (addN false (n * 1) (!false && decide (n / d ≠ 0)) (n / d * d)) (d * 1) = _
    rw [ht]
    unfold addS addN
    rw [if_neg Bool.false_ne_true, if_neg (by omega : ¬ n * 1 < n / d * d), if_neg Bool.false_ne_true, Nat.mul_one, Nat.mul_one, hm]
    have hlt : ¬ n < n / d * d := by omega
    simp [lowQ, hlt]
theorem floor_false (n d : Nat) : floorQ (false, n, d) = (false, n / d, 1) := rfl
theorem one_text (m : Nat) : ratText false m 1 = Lib.decDigits m := by
  unfold ratText
  rw [if_pos rfl, decT_dec]; simp
end QA
end Go.Proofs.YtegobakoflbnfaaGreatDoor
