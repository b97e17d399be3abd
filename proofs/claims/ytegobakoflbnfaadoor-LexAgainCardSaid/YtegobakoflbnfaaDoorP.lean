/- fraction: the number that a decimal is. -/
import Derived.Test.YtegobakoflbnfaaDoorO
import Derived.Test.YtegobakoflbnfaaDoorL
import Derived.Lib.SmallJoins
namespace Go.Proofs.YtegobakoflbnfaaDoor
open Go Go.RowKit

def Dig (l : List UInt8) : Prop := ∀ b ∈ l, 48 ≤ b.toNat ∧ b.toNat ≤ 57
def dvA (a : Nat) (l : List UInt8) : Nat := l.foldl (fun a c => a * 10 + (c.toNat - 48)) a
theorem dvA_nil (a : Nat) : dvA a [] = a := by unfold dvA; exact List.foldl_nil
theorem dvA_cons (a : Nat) (c : UInt8) (r : List UInt8) : dvA a (c :: r) = dvA (a * 10 + (c.toNat - 48)) r := by unfold dvA; exact List.foldl_cons ..
def dv (l : List UInt8) : Nat := dvA 0 l
theorem dvA_lt (l : List UInt8) : ∀ (a : Nat), Dig l → dvA a l < (a + 1) * 10 ^ l.length := by
  induction l with
  | nil => intro a _; rw [dvA_nil]; simp
  | cons c r ih =>
    intro a h
    have hc := h c (List.mem_cons_self ..)
    have := ih (a * 10 + (c.toNat - 48)) (fun b hb => h b (List.mem_cons_of_mem _ hb))
    rw [dvA_cons]
    refine Nat.lt_of_lt_of_le this ?_
    rw [List.length_cons, Nat.pow_succ, Nat.mul_comm (10 ^ r.length) 10, ← Nat.mul_assoc]
    exact Nat.mul_le_mul_right _ (by omega)
theorem dv_lt {l : List UInt8} (h : Dig l) : dv l < 10 ^ l.length := by
  have := dvA_lt l 0 h
  rw [Nat.zero_add, Nat.one_mul] at this
  exact this
theorem parseM_ok (l : List UInt8) : ∀ (a : Nat), Dig l → (a + 1) * 10 ^ l.length ≤ 1000000000000000000 → Lib.parseUintM 18446744073709551615 a l = .ok (dvA a l) := by
  induction l with
  | nil => intro a _ _; rfl
  | cons c r ih =>
    intro a h hb
    have hc := h c (List.mem_cons_self ..)
    have hp : 0 < 10 ^ r.length := Nat.pow_pos (by decide)
    rw [List.length_cons, Nat.pow_succ, Nat.mul_comm (10 ^ r.length) 10, ← Nat.mul_assoc] at hb
    have h1 : (a + 1) * 10 ≤ (a + 1) * 10 * 10 ^ r.length := Nat.le_mul_of_pos_right _ hp
    have h2 : (a * 10 + (c.toNat - 48) + 1) * 10 ^ r.length ≤ (a + 1) * 10 * 10 ^ r.length := Nat.mul_le_mul_right _ (by omega)
    rw [Lib.parseUintM, if_pos hc, if_neg (by omega), if_neg (by omega), dvA_cons]
    exact ih _ (fun b hb => h b (List.mem_cons_of_mem _ hb)) (by omega)
theorem parse_dig {l : List UInt8} (h : Dig l) (hne : l ≠ []) (hl : l.length ≤ 18) : Lib.parseUintB 64 l = .ok (dv l) := by
  have hp : 10 ^ l.length ≤ 10 ^ 18 := Nat.pow_le_pow_right (by decide) hl
  have h18 : (10 : Nat) ^ 18 = 1000000000000000000 := by decide
  rw [Lib.parseUintB, if_neg hne, show 2 ^ 64 - 1 = 18446744073709551615 by decide, parseM_ok l 0 h (by omega)]
  rfl
theorem ib_none : ∀ {l : List UInt8} {c : UInt8}, (∀ b ∈ l, b ≠ c) → Lib.indexByte l c = -1
  | [], c, _ => rfl
  | b :: l, c, h => by
    have hb := h b (List.mem_cons_self ..)
    have := ib_none (l := l) (c := c) (fun x hx => h x (List.mem_cons_of_mem _ hx))
    rw [Lib.indexByte, if_neg (by simpa using hb), this]; rfl
theorem ib_at : ∀ {l r : List UInt8} {c : UInt8}, (∀ b ∈ l, b ≠ c) → Lib.indexByte (l ++ c :: r) c = l.length
  | [], r, c, _ => by simp [Lib.indexByte]
  | b :: l, r, c, h => by
    have hb := h b (List.mem_cons_self ..)
    have := ib_at (l := l) (r := r) (c := c) (fun x hx => h x (List.mem_cons_of_mem _ hx))
    rw [List.cons_append, Lib.indexByte, if_neg (by simpa using hb), this, if_neg (by rw [beq_iff_eq]; omega), List.length_cons]
    omega
theorem cut_no {l : List UInt8} {c : UInt8} (h : ∀ b ∈ l, b ≠ c) : Lib.cut l [c] = (l, [], false) := by
  unfold Lib.cut
  rw [Lib.index_one, ib_none h, if_neg (by decide)]
theorem cut_at {l r : List UInt8} {c : UInt8} (h : ∀ b ∈ l, b ≠ c) : Lib.cut (l ++ c :: r) [c] = (l, r, true) := by
  unfold Lib.cut
  rw [Lib.index_one, ib_at h, if_pos (by omega)]
  simp
theorem dig_ne {l : List UInt8} (h : Dig l) {c : UInt8} (hc : c.toNat < 48 ∨ 57 < c.toNat) : ∀ b ∈ l, b ≠ c := by
  rintro b hb rfl
  have := h b hb
  omega
/-- a decimal's text -/
def decL (l r : List UInt8) : List UInt8 := if r = [] then l else l ++ 46 :: r
theorem cut_dec {l r : List UInt8} (h : Dig l) : (Lib.cut (decL l r) [46]).1 = l ∧ (Lib.cut (decL l r) [46]).2.1 = r := by
  unfold decL
  split
  · rename_i hr; subst hr
    rw [cut_no (dig_ne h (.inl (by decide)))]; exact ⟨rfl, rfl⟩
  · rw [cut_at (dig_ne h (.inl (by decide)))]; exact ⟨rfl, rfl⟩
def fracL (l r : List UInt8) : List UInt8 :=
  if 10 ^ r.length / Nat.gcd (10 ^ r.length) (dv r) = 1 then Lib.decDigits (dv l)
  else longL (dv l * (10 ^ r.length / Nat.gcd (10 ^ r.length) (dv r)) + dv r / Nat.gcd (10 ^ r.length) (dv r)) ++ [47] ++ Lib.decDigits (10 ^ r.length / Nat.gcd (10 ^ r.length) (dv r))
theorem longL_len {n : Nat} (hn : n < 18446744073709551616000000000000000) : (longL n).length ≤ 60 := by
  have h1 := dec_le20 (n := n % 1000000000000000) (by omega)
  have h2 := dec_le20 (n := n / 1000000000000000) (by omega)
  have h3 := padL_len (n := n % 1000000000000000) (d := 15) (by omega) (Nat.le_refl _)
  unfold longL
  split
  · omega
  · rw [List.length_append]; omega
theorem pu_any {w : World} {l : List UInt8} (h : Dig l) (hne : l ≠ []) (hl : l.length ≤ 18) (W : World) : Calls Tryd.prog 43 #[.string ⟨l.toArray⟩, .int .i64 10, .int .i64 64] W fun e w' => e = .returned (.tuple #[.int .u64 ((dv l : Nat) : Int), .nilIface]) ∧ Below W.heap.size W w' := by
  refine (Tryd.strconv_ParseUint_10_at64_ok ⟨l.toArray⟩ (by simp [ByteArray.size]; omega) (dv l) (parse_dig h hne hl) W).mono ?_
  rintro e w' ⟨rfl, rfl | rfl⟩
  · exact ⟨rfl, Below.refl _ _⟩
  · exact ⟨rfl, Joins.below_bytesWorld _ _ _ _ (Nat.le_refl _)⟩
theorem quo_u64 {a b : Nat} (ha : a < 18446744073709551616) : IntKind.u64.wrap ((a : Int) / (b : Int)) = ((a / b : Nat) : Int) := by
  rw [show (a : Int) / (b : Int) = ((a / b : Nat) : Int) from rfl]
  have := Nat.div_le_self a b
  exact wu64 (by omega)

set_option maxHeartbeats 4000000 in
set_option maxRecDepth 100000 in
theorem fraction_any (w : World) (d : ByteArray) (l r : List UInt8) (hd : d.data.toList = decL l r) (hl : Dig l) (hr : Dig r) (hln : l ≠ []) (hll : l.length ≤ 15) (hrl : r.length ≤ 15) (hm : MaxL w) (ht : Pow10 w) : Calls Tryd.prog 55 #[.string d] w fun e w' => e = .returned (.string ⟨(fracL l r).toArray⟩) ∧ Below w.heap.size w w' := by
  have hds : d.size ≤ 31 := by
    have : d.data.toList.length = d.size := Array.length_toList
    rw [hd] at this
    unfold decL at this
    split at this
    · omega
    · simp at this; omega
  have CT : Hid (Calls Tryd.prog 36 #[.string d, .string ⟨#[46]⟩] w fun e w' => e = .returned (.tuple #[.string ⟨l.toArray⟩, .string ⟨r.toArray⟩, .bool (Lib.cut (decL l r) [46]).2.2]) ∧ Below w.heap.size w w') := by
    obtain ⟨m, hm'⟩ := hm
    refine (Tryd.strings_Cut d ⟨#[46]⟩ m w (by omega) hm').mono ?_
    rintro e w' ⟨rfl, n, rfl⟩
    refine ⟨?_, below_drewN _ _ n⟩
    rw [hd, show (⟨#[46]⟩ : ByteArray).data.toList = [46] from rfl, (cut_dec hl).1, (cut_dec hl).2]
  obtain ⟨found, hfound⟩ : ∃ f, f = (Lib.cut (decL l r) [46]).2.2 := ⟨_, rfl⟩
  rw [← hfound] at CT
  have PL := Lib.hid (fun W => pu_any (w := w) hl hln (by omega) W)
  have hr0 : Dig (48 :: r) := by
    intro b hb
    rcases List.mem_cons.1 hb with rfl | hb
    · decide
    · exact hr b hb
  have PR0 := Lib.hid (fun W => pu_any (w := w) hr0 (by simp) (by simp; omega) W)
  have e0 : dv (48 :: r) = dv r := rfl
  rw [e0] at PR0
  have hbl : (⟨#[48]⟩ : ByteArray) ++ ⟨r.toArray⟩ = ⟨(48 :: r).toArray⟩ := ba_app [48] r
  have PR : Hid (∀ W, Calls Tryd.prog 43 #[.string ((⟨#[48]⟩ : ByteArray) ++ ⟨r.toArray⟩), .int .i64 10, .int .i64 64] W fun e w' => e = .returned (.tuple #[.int .u64 ((dv r : Nat) : Int), .nilIface]) ∧ Below W.heap.size W w') := by rw [hbl]; exact PR0
  have hP := dv_lt hr
  have hW := dv_lt hl
  have hp15 : 10 ^ r.length ≤ 10 ^ 15 := Nat.pow_le_pow_right (by decide) hrl
  have hq15 : 10 ^ l.length ≤ 10 ^ 15 := Nat.pow_le_pow_right (by decide) hll
  have h15 : (10 : Nat) ^ 15 = 1000000000000000 := by decide
  have PW := Lib.hid (fun W => power_any W r.length hrl)
  have hFE : fracL l r = if 10 ^ r.length / Nat.gcd (10 ^ r.length) (dv r) = 1 then Lib.decDigits (dv l)
      else longL (dv l * (10 ^ r.length / Nat.gcd (10 ^ r.length) (dv r)) + dv r / Nat.gcd (10 ^ r.length) (dv r)) ++ [47] ++ Lib.decDigits (10 ^ r.length / Nat.gcd (10 ^ r.length) (dv r)) := rfl
  have hBp : 0 < 10 ^ r.length := Nat.pow_pos (by decide)
  obtain ⟨A, hA⟩ : ∃ A, A = dv l := ⟨_, rfl⟩
  obtain ⟨P, hPe⟩ : ∃ P, P = dv r := ⟨_, rfl⟩
  obtain ⟨B, hB⟩ : ∃ B, B = 10 ^ r.length := ⟨_, rfl⟩
  rw [← hA] at PL hFE hW
  rw [← hPe] at PR hFE hP
  rw [← hB] at PW hFE hP hBp hp15
  obtain ⟨F, hF⟩ : ∃ F, F = fracL l r := ⟨_, rfl⟩
  rw [← hF] at hFE ⊢
  have hPb : P < 18446744073709551616 := by omega
  have hBb : B < 18446744073709551616 := by omega
  have hAb : A < 1000000000000000 := by omega
  have DV := Lib.hid (fun W => divisor_any W B P hPb)
  have hgp : 0 < Nat.gcd B P := Nat.gcd_pos_of_pos_left _ hBp
  obtain ⟨g, hg⟩ : ∃ g, g = Nat.gcd B P := ⟨_, rfl⟩
  rw [← hg] at DV hFE hgp
  have hg0 : ¬ (g : Int) = 0 := by omega
  have Q1 : Hid (IntKind.u64.wrap ((P : Int) / (g : Int)) = ((P / g : Nat) : Int)) := quo_u64 hPb
  have Q2 : Hid (IntKind.u64.wrap ((B : Int) / (g : Int)) = ((B / g : Nat) : Int)) := quo_u64 hBb
  have hP2 : P / g ≤ P := Nat.div_le_self _ _
  have hB2 : B / g ≤ B := Nat.div_le_self _ _
  obtain ⟨P2, hP2e⟩ : ∃ x, x = P / g := ⟨_, rfl⟩
  obtain ⟨B2, hB2e⟩ : ∃ x, x = B / g := ⟨_, rfl⟩
  rw [← hP2e] at Q1 hFE hP2
  rw [← hB2e] at Q2 hFE hB2
  have hN : A * B2 + P2 < 18446744073709551616000000000000000 := by
    have : A * B2 ≤ 1000000000000000 * 1000000000000000 := Nat.mul_le_mul (by omega) (by omega)
    have h30 : 1000000000000000 * 1000000000000000 = 1000000000000000000000000000000 := by decide
    omega
  have hB2b : B2 < 18446744073709551616 := by omega
  have FA : Hid (∀ W, Below w.heap.size w W → Calls Tryd.prog 46 #[.int .u64 (A : Int), .int .i64 10] W fun e w' => e = .returned (.string ⟨(Lib.decDigits A).toArray⟩) ∧ Below W.heap.size W w') := fun W hb => fmt_any W A (by omega) (ht.go hb)
  have FB : Hid (∀ W, Below w.heap.size w W → Calls Tryd.prog 46 #[.int .u64 (B2 : Int), .int .i64 10] W fun e w' => e = .returned (.string ⟨(Lib.decDigits B2).toArray⟩) ∧ Below W.heap.size W w') := fun W hb => fmt_any W B2 hB2b (ht.go hb)
  have LO : Hid (∀ W, Below w.heap.size w W → Calls Tryd.prog 69 #[.int .u64 (A : Int), .int .u64 (B2 : Int), .int .u64 (P2 : Int)] W fun e w' => e = .returned (.string ⟨(longL (A * B2 + P2)).toArray⟩) ∧ Below W.heap.size W w') := fun W hb => long_any W A B2 P2 (by omega) hB2b (by omega) hN (ht.go hb)
  have hs1 := longL_len hN
  have hs2 := dec_le20 hB2b
  obtain ⟨sl, hsl⟩ : ∃ s, s = (⟨(longL (A * B2 + P2)).toArray⟩ : ByteArray) := ⟨_, rfl⟩
  obtain ⟨sb, hsb⟩ : ∃ s, s = (⟨(Lib.decDigits B2).toArray⟩ : ByteArray) := ⟨_, rfl⟩
  have hsls : sl.size ≤ 60 := by rw [hsl]; exact hs1
  have hsbs : sb.size ≤ 20 := by rw [hsb]; exact hs2
  rw [← hsl] at LO
  rw [← hsb] at FB
  have HSL := Lib.hid hsl; have HSB := Lib.hid hsb
  obtain ⟨rb, hrb⟩ : ∃ s, s = (⟨r.toArray⟩ : ByteArray) := ⟨_, rfl⟩
  have hrbs : rb.size = r.length := by rw [hrb]; simp [ByteArray.size]
  have hrb15 : rb.size ≤ 15 := by omega
  rw [← hrb] at CT PR
  rw [← hrbs] at PW
  have HFE := Lib.hid hFE
  clear hbl e0 PR0 hr0 hd hl hr hln hll hrl hm ht hds hP hW hp15 hq15 h15 hFE hBp hA hPe hB hF hPb hBb hAb hgp hg hP2 hB2 hP2e hB2e hN hB2b hs1 hs2 hsl hsb hrb hrbs hfound
  by_cases h1 : B2 = 1
  · have HR : Hid (F = Lib.decDigits A) := by show _ = _; rw [HFE.out, if_pos h1]
    have h1' : (IntKind.u64.wrap ((B : Int) / (g : Int)) == 1) = true := by rw [Q2.out, beq_iff_eq]; omega
    clear h1
    go_enter Tryd.func55, Tryd.ntmps55
    go_wp2_with fail
    refine CT.out.mono ?_; rintro e w2 ⟨rfl, hb⟩
    have HB := Lib.hid hb; clear hb
    go_wp2_with fail
    refine (PL.out _).mono ?_; rintro e w3 ⟨rfl, hb⟩
    have HB2 := Lib.hid (bstep HB.out hb); clear hb HB
    go_wp2_with fail
    refine (PR.out _).mono ?_; rintro e w4 ⟨rfl, hb⟩
    have HB := Lib.hid (bstep HB2.out hb); clear hb HB2
    go_wp2_with fail
    refine (PW.out _).mono ?_; rintro e w5 ⟨rfl, rfl⟩
    go_wp2_with fail
    refine (DV.out _).mono ?_; rintro e w6 ⟨rfl, hb⟩
    have HB2 := Lib.hid (bstep HB.out hb); clear hb HB
    go_wp2_with fail
    refine (FA.out _ HB2.out).mono ?_; rintro e w7 ⟨rfl, hb⟩
    have HB := Lib.hid (bstep HB2.out hb); clear hb HB2
    go_wp2_with fail
    go_ret
    exact ⟨by rw [HR.out]; rfl, HB.out⟩
  · have HR : Hid (F = longL (A * B2 + P2) ++ [47] ++ Lib.decDigits B2) := by show _ = _; rw [HFE.out, if_neg h1]
    have h1' : (IntKind.u64.wrap ((B : Int) / (g : Int)) == 1) = false := by rw [Q2.out, beq_eq_false_iff_ne]; omega
    clear h1
    go_enter Tryd.func55, Tryd.ntmps55
    go_wp2_with fail
    refine CT.out.mono ?_; rintro e w2 ⟨rfl, hb⟩
    have HB := Lib.hid hb; clear hb
    go_wp2_with fail
    refine (PL.out _).mono ?_; rintro e w3 ⟨rfl, hb⟩
    have HB2 := Lib.hid (bstep HB.out hb); clear hb HB
    go_wp2_with fail
    refine (PR.out _).mono ?_; rintro e w4 ⟨rfl, hb⟩
    have HB := Lib.hid (bstep HB2.out hb); clear hb HB2
    go_wp2_with fail
    refine (PW.out _).mono ?_; rintro e w5 ⟨rfl, rfl⟩
    go_wp2_with fail
    refine (DV.out _).mono ?_; rintro e w6 ⟨rfl, hb⟩
    have HB2 := Lib.hid (bstep HB.out hb); clear hb HB
    go_wp2_with fail
    rw [Q1.out, Q2.out]
    refine (LO.out _ HB2.out).mono ?_; rintro e w7 ⟨rfl, hb⟩
    have HB := Lib.hid (bstep HB2.out hb); clear hb HB2
    go_wp2_with fail
    refine (FB.out _ HB.out).mono ?_; rintro e w8 ⟨rfl, hb⟩
    have HB2 := Lib.hid (bstep HB.out hb); clear hb HB
    go_wp2_with fail
    go_ret
    exact ⟨by rw [HR.out, ← ba_app, ← ba_app, ← HSL.out, ← HSB.out]; rfl, HB2.out⟩
end Go.Proofs.YtegobakoflbnfaaDoor
