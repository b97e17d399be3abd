/- What is read can be written: decimals. -/
import Derived.Test.YtegobakoflbnfaaDoorM7
import Derived.Test.YtegobakoflbnfaaDoorNm
namespace Go.Proofs.YtegobakoflbnfaaDoor
open Go Go.RowKit

theorem dec_step (n : Nat) (h : ¬ n < 10) : Lib.decDigits n = Lib.decDigits (n / 10) ++ [UInt8.ofNat (48 + n % 10)] := by
  rw [Lib.decDigits, dif_neg h]
theorem dg_byte {d : Nat} (h : d < 10) : (UInt8.ofNat (48 + d)).toNat = 48 + d := by
  rw [UInt8.toNat_ofNat']; omega
theorem dec_all : ∀ (n : Nat), Dig (Lib.decDigits n) ∧ Lib.decDigits n ≠ [] ∧ dv (Lib.decDigits n) = n := by
  intro n
  induction n using Nat.strongRecOn with
  | _ n ih =>
    by_cases h : n < 10
    · rw [Lib.decDigits_one h]
      refine ⟨fun b hb => ?_, by simp, ?_⟩
      · rw [List.mem_singleton] at hb
        subst hb
        rw [dg_byte h]; omega
      · unfold dv dvA
        rw [List.foldl_cons, List.foldl_nil, dg_byte h]; omega
    · obtain ⟨h1, h2, h3⟩ := ih (n / 10) (by omega)
      rw [dec_step n h]
      refine ⟨dig_append h1 (fun b hb => ?_), by simp, ?_⟩
      · rw [List.mem_singleton] at hb
        subst hb
        rw [dg_byte (by omega)]; omega
      · unfold dv dvA at h3 ⊢
        rw [List.foldl_append, h3, List.foldl_cons, List.foldl_nil, dg_byte (by omega)]; omega
theorem dec_dig (n : Nat) : Dig (Lib.decDigits n) := (dec_all n).1
theorem dec_ne (n : Nat) : Lib.decDigits n ≠ [] := (dec_all n).2.1
theorem dv_dec (n : Nat) : dv (Lib.decDigits n) = n := (dec_all n).2.2
theorem dec_len : ∀ (k n : Nat), n < 10 ^ (k + 1) → (Lib.decDigits n).length ≤ k + 1
  | 0, n, h => by
    rw [Lib.decDigits_one (by simpa using h)]; exact Nat.le_refl _
  | k + 1, n, h => by
    by_cases h10 : n < 10
    · rw [Lib.decDigits_one h10]; simp
    · rw [dec_step n h10, List.length_append]
      have := dec_len k (n / 10) (by rw [Nat.pow_succ] at h; omega)
      simp only [List.length_singleton]; omega
theorem dvA_add (l : List UInt8) : ∀ a : Nat, dvA a l = a * 10 ^ l.length + dv l := by
  induction l with
  | nil => intro a; unfold dv; rw [dvA_nil, dvA_nil]; simp
  | cons c r ih =>
    intro a
    unfold dv
    rw [dvA_cons, dvA_cons, ih, ih (0 * 10 + (c.toNat - 48)), List.length_cons, Nat.pow_succ, Nat.add_mul, Nat.add_mul, Nat.mul_assoc a, Nat.mul_comm 10]
    omega
theorem dv_app (a b : List UInt8) : dv (a ++ b) = dv a * 10 ^ b.length + dv b := by
  unfold dv
  unfold dvA
  rw [List.foldl_append]
  exact dvA_add b _
theorem rep_noughts (n : Nat) : Lib.repeatL [48] n = List.replicate n 48 := by
  induction n with
  | zero => rfl
  | succ n ih =>
    have e : Lib.repeatL [48] (n + 1) = [48] ++ Lib.repeatL [48] n := rfl
    rw [e, ih, List.replicate_succ]; rfl
theorem dv_noughts : ∀ (n : Nat) (l : List UInt8), dv (List.replicate n 48 ++ l) = dv l
  | 0, l => rfl
  | n + 1, l => by rw [List.replicate_succ, List.cons_append, dv_zero, dv_noughts n l]
theorem pad_dig (n d : Nat) : Dig (padL n d) := by
  unfold padL
  rw [rep_noughts]
  exact dig_append (dig_noughts _) (dec_dig n)
theorem dv_pad (n d : Nat) : dv (padL n d) = n := by
  unfold padL
  rw [rep_noughts, dv_noughts, dv_dec]
theorem pad_len {n d : Nat} (h : n < 10 ^ (d + 1)) : (padL n (d + 1)).length = d + 1 := by
  have := dec_len d n h
  unfold padL
  rw [List.length_append, Lib.repeatL_length]
  simp only [List.length_singleton]
  omega
theorem pu_dig {l : List UInt8} (h : Dig l) (hne : l ≠ []) (hl : l.length ≤ 18) : puO l = some (dv l) := by
  unfold puO
  rw [parse_dig h hne hl]
/-- the digits of a number of at most 30 are read as that number -/
theorem words_long {N : Nat} (h : N < 1000000000000000000000000000000) : wordsO (longL N) = some N := by
  have h15 : (10 : Nat) ^ 15 = 1000000000000000 := by decide
  have hN := Nat.div_add_mod N 1000000000000000
  unfold longL
  by_cases h0 : N / 1000000000000000 = 0
  · rw [if_pos h0]
    have hlo : N % 1000000000000000 = N := by omega
    rw [hlo]
    have hl := dec_len 14 N (by rw [show 14 + 1 = 15 from rfl, h15]; omega)
    unfold wordsO
    rw [if_neg (by omega), show (Lib.decDigits N).length - 15 = 0 by omega, List.take_zero, List.drop_zero]
    have e1 : puO [48] = some 0 := pu_dig (l := [48]) (by intro b hb; rw [List.mem_singleton] at hb; subst hb; decide) (by simp) (by simp)
    rw [e1, pu_dig (dec_dig N) (dec_ne N) (by omega), dv_dec]
    simp
  · rw [if_neg h0]
    have hhi : N / 1000000000000000 < 10 ^ 15 := by rw [h15]; omega
    have hl := dec_len 14 (N / 1000000000000000) hhi
    have hp := pad_len (n := N % 1000000000000000) (d := 14) (by rw [show 14 + 1 = 15 from rfl, h15]; omega)
    have hp' : (padL (N % 1000000000000000) 15).length = 15 := hp
    have hlen : (Lib.decDigits (N / 1000000000000000) ++ padL (N % 1000000000000000) 15).length - 15 = (Lib.decDigits (N / 1000000000000000)).length := by rw [List.length_append, hp']; omega
    unfold wordsO
    rw [if_neg (by rw [List.length_append, hp']; omega), hlen, List.take_left, List.drop_left]
    have e1 : puO (48 :: Lib.decDigits (N / 1000000000000000)) = some (N / 1000000000000000) := by
      rw [pu_dig (fun b hb => by
        rcases List.mem_cons.1 hb with h | h
        · subst h; decide
        · exact dec_dig _ b h) (by simp) (by rw [List.length_cons]; omega), dv_zero, dv_dec]
    rw [e1, pu_dig (pad_dig _ _) (by intro h9; rw [h9] at hp'; simp at hp') (by omega), dv_pad]
    show some (N / 1000000000000000 * 1000000000000000 + N % 1000000000000000) = some N
    congr 1
    omega
end Go.Proofs.YtegobakoflbnfaaDoor
