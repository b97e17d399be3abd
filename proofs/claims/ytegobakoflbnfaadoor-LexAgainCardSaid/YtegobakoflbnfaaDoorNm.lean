/- Decimals with noughts at either end. -/
import Derived.Test.YtegobakoflbnfaaDoorM2
import Derived.Test.YtegobakoflbnfaaDoorNum
namespace Go.Proofs.YtegobakoflbnfaaDoor
open Go Go.RowKit

theorem dig_in {b : UInt8} (h : 48 ≤ b.toNat ∧ b.toNat ≤ 57) : inC digC b = true := by
  have := u8_all (p := fun c => !(decide (48 ≤ c.toNat) && decide (c.toNat ≤ 57)) || inC digC c) (by decide +kernel) b
  simpa [h.1, h.2] using this
theorem dig_all {l : List UInt8} (h : Dig l) : l.all (inC digC) = true := by
  rw [List.all_eq_true]
  exact fun b hb => dig_in (h b hb)
theorem pre_dig {l r : List UInt8} (h : Dig l) : pre (inC digC) (l ++ 46 :: r) = l.length := by
  rw [pre_app _ _ _ (dig_all h), pre_no _ _ _ (by decide +kernel)]; rfl
theorem pre_dig_all {l : List UInt8} (h : Dig l) : pre (inC digC) l = l.length := by
  have := pre_app (inC digC) l [] (dig_all h)
  rw [List.append_nil] at this
  rw [this]; rfl
theorem dig_class {b : UInt8} (h : 48 ≤ b.toNat ∧ b.toNat ≤ 57) : classN b.toNat = 4 := by
  have := u8_all (p := fun c => !(decide (48 ≤ c.toNat) && decide (c.toNat ≤ 57)) || (classN c.toNat == 4)) (by decide +kernel) b
  simpa [h.1, h.2] using this
/-- a decimal alone is one token -/
theorem scan_dec {l r : List UInt8} (hl : Dig l) (hr : Dig r) (hln : l ≠ []) (hrn : r ≠ []) (h1 : l.length ≤ 15) (h2 : r.length ≤ 15) :
    scanT ⟨(l ++ 46 :: r).toArray⟩ = ([(3, ⟨(fracL l r).toArray⟩, 0)], 0, 0) := by
  have hsz : (⟨(l ++ 46 :: r).toArray⟩ : ByteArray).size = l.length + 1 + r.length := by
    show (l ++ 46 :: r).toArray.size = _
    rw [List.size_toArray, List.length_append, List.length_cons]; omega
  rw [scan_eq _ (by omega)]
  show sc 0 (l ++ 46 :: r) = _
  obtain ⟨b, l', rfl⟩ : ∃ b t, l = b :: t := by cases l with | nil => exact absurd rfl hln | cons b t => exact ⟨b, t, rfl⟩
  have hb := hl b (List.mem_cons_self ..)
  have hcl := dig_class hb
  have hg : gapT (b :: l' ++ 46 :: r) = 0 := by
    have hw : isWs b = false := by
      have := u8_all (p := fun c => !(decide (48 ≤ c.toNat) && decide (c.toNat ≤ 57)) || !isWs c) (by decide +kernel) b
      simpa [hb.1, hb.2] using this
    have h47 : (b == 47) = false := by
      rw [beq_eq_false_iff_ne]; rintro rfl
      exact absurd hb.1 (by decide)
    rw [gap_g, List.cons_append, gG, hw, h47]; rfl
  have hr0 : 0 < r.length := List.length_pos_iff.2 hrn
  have hdr : (b :: l' ++ 46 :: r).drop ((b :: l').length + 1) = r := by rw [← List.drop_drop, List.drop_left]; rfl
  have hpl : placesT (b :: l' ++ 46 :: r) (b :: l').length = r.length := by
    unfold placesT
    rw [List.drop_left, hp_cons, hdr, pre_dig_all hr]; rfl
  have ht : tk0 (b :: l' ++ 46 :: r) = (3, ⟨(fracL (b :: l') r).toArray⟩, (b :: l').length + (1 + r.length)) := by
    rw [tk0_eq]
    have hc : clL (b :: l' ++ 46 :: r) = 4 := hcl
    rw [hc, if_neg (by decide), if_pos rfl]
    unfold numL
    rw [pre_dig hl, hpl, if_neg (by omega), List.take_left, hdr, List.take_length]
    unfold numLen
    rw [if_pos hr0]
  have hlen : (b :: l' ++ 46 :: r).length = (b :: l').length + (1 + r.length) := by rw [List.length_append, List.length_cons (a := 46)]; omega
  rw [sc_tok (t := (3, ⟨(fracL (b :: l') r).toArray⟩, (b :: l').length + (1 + r.length))) (by rw [hg, hlen]; omega) (by rw [hg]; exact ht) (by show (b :: l').length + (1 + r.length) ≠ 0; omega)]
  rw [hg, Nat.zero_add, Nat.zero_add, ← hlen, List.drop_length, sc_end rfl]
  rfl
theorem dv_zero (l : List UInt8) : dv (48 :: l) = dv l := by
  unfold dv
  rw [dvA_cons]; rfl
theorem dvA_snoc (a : Nat) (l : List UInt8) : dvA a (l ++ [48]) = dvA a l * 10 := by
  unfold dvA
  rw [List.foldl_append]
  simp
theorem dv_snoc (l : List UInt8) : dv (l ++ [48]) = dv l * 10 := dvA_snoc 0 l
theorem frac_head (l r : List UInt8) : fracL (48 :: l) r = fracL l r := by
  unfold fracL
  rw [dv_zero]
theorem frac_tail (l r : List UInt8) : fracL l (r ++ [48]) = fracL l r := by
  unfold fracL
  rw [dv_snoc, List.length_append, List.length_singleton, Nat.pow_succ, Nat.gcd_mul_right]
  have h10 : 0 < 10 := by decide
  rw [Nat.mul_div_mul_right _ _ h10, Nat.mul_div_mul_right _ _ h10]
theorem frac_heads (l r : List UInt8) : ∀ n : Nat, fracL (List.replicate n 48 ++ l) r = fracL l r
  | 0 => rfl
  | n + 1 => by rw [List.replicate_succ, List.cons_append, frac_head, frac_heads l r n]
theorem frac_tails (l r : List UInt8) : ∀ n : Nat, fracL l (r ++ List.replicate n 48) = fracL l r
  | 0 => by rw [List.replicate_zero, List.append_nil]
  | n + 1 => by rw [List.replicate_succ', ← List.append_assoc, frac_tail, frac_tails l r n]
theorem dig_noughts (n : Nat) : Dig (List.replicate n 48) := by
  intro b hb
  obtain ⟨_, rfl⟩ := List.mem_replicate.1 hb
  decide
theorem dig_append {a b : List UInt8} (ha : Dig a) (hb : Dig b) : Dig (a ++ b) := by
  intro x hx
  rcases List.mem_append.1 hx with h | h
  · exact ha x h
  · exact hb x h
theorem dgB_dig {s : ByteArray} (h : dgB s = true) : Dig s.data.toList ∧ s.data.toList ≠ [] := by
  unfold dgB at h
  rw [Bool.and_eq_true, List.all_eq_true, decide_eq_true_eq] at h
  refine ⟨fun b hb => ?_, fun h0 => ?_⟩
  · have := h.1 b hb
    unfold isDg at this
    simpa using this
  · have h1 : s.data.toList.length = s.size := Array.length_toList
    rw [h0] at h1
    simp at h1
    omega
end Go.Proofs.YtegobakoflbnfaaDoor
