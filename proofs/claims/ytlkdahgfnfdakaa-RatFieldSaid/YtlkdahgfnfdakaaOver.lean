import Derived.Test.YtlkdahgfnfdakaaNum
namespace Go.Proofs.Ytlkdahgfnfdakaa
open Go.RowKit WN

theorem Num.open {w : World} {v : Value} {n : Nat} (h : Num w v n) : ∃ oa cap l, v = .slice oa (Len n) cap ∧ Rep w .u32 (.slice oa (Len n) cap) l ∧ Canon 1000000000 l ∧ val 1000000000 l = n ∧ l.length = Len n := by
  obtain ⟨l, hr, hc, hv⟩ := h
  have e := Num.len (w := w) hc hv
  obtain ⟨oa, cap, rfl, _⟩ := id hr
  rw [e] at hr ⊢
  exact ⟨oa, cap, l, rfl, hr, hc, hv, e⟩

theorem len_pos {n : Nat} (h : 0 < n) : 0 < Len n := by
  rcases Nat.eq_zero_or_pos (Len n) with h0 | h0
  · have := lt_len n; rw [h0] at this; simp at this; omega
  · exact h0
theorem len_one_lt {n : Nat} (h : Len n ≤ 1) : n < 1000000000 := by
  have := lt_len n
  exact Nat.lt_of_lt_of_le this (Nat.le_trans (Nat.pow_le_pow_right (by omega) h) (by simp))

/-- a number of one word, new -/
theorem num_lit (w : World) (s : Nat) (h0 : 0 < s) (h9 : s < 1000000000) : Num (w.alloc (.cells #[.int .u32 (s : Nat)] 117)) (.slice (some ⟨w.heap.size, 0, none⟩) 1 1) s :=
  ⟨[s], Rep.rowAll (Row.new w .u32 117 [s]) 1 (by simp), ⟨Digs.cons h9 (Digs.nil _), by simp [Top]; omega⟩, by simp⟩

theorem scale_math {a b s : Nat} (hs : 0 < s) : a * s / (b * s) = a / b ∧ a * s % (b * s) = a % b * s ∧ a % b * s / s = a % b := by
  refine ⟨Nat.mul_div_mul_right _ _ hs, Nat.mul_mod_mul_right _ _ _, Nat.mul_div_cancel _ hs⟩

set_option maxHeartbeats 1000000 in
set_option maxRecDepth 100000 in
theorem over_num {w : World} {va vb : Value} {a b : Nat} (ha : Num w va a) (hb : Num w vb b) (la : Len a ≤ 1000000000) (lb : Len b ≤ 1000000000) (hb0 : 0 < b) :
    Calls Try.prog 110 #[va, vb] w (Ret2 w (a / b) (a % b)) := by
  have Ha := Lib.hid ha
  have Hb := Lib.hid hb
  obtain ⟨oa, ca, la', rfl, hra, hca, hva, hla⟩ := ha.open
  obtain ⟨ob, cb, lb', rfl, hrb, hcb, hvb, hlb⟩ := hb.open
  have Hrb := Lib.hid hrb
  have Hcb := Lib.hid hcb
  have Hvb := Lib.hid hvb
  have Hlb := Lib.hid hlb
  clear ha hb hra hca hva hla hrb hcb hvb hlb
  by_cases h1 : b = 1
  · have hd : Hid (decide (b = 1) = true) := by show _ = _; simp [h1]
    have H1 := Lib.hid h1
    clear h1
    go_enter Try.func110, Try.ntmps110
    go_wp2_with (go_at_call 96; refine (isOne_num Hb.out (by omega)).mono ?_; rintro e w1 ⟨rfl, rfl⟩; rw [hd.out])
    go_ret2
    exact ⟨_, _, rfl, by rw [H1.out, Nat.div_one]; exact Ha.out, by rw [H1.out, Nat.mod_one]; exact Num.nil _, Below.refl _ _⟩
  have hd1 : Hid (decide (b = 1) = false) := by show _ = _; simp [h1]
  by_cases h2 : a < b
  · have hc : Hid (cmpN a b = -1) := by show _ = _; unfold cmpN; rw [if_pos h2]
    clear h1
    go_enter Try.func110, Try.ntmps110
    go_wp2_with fail
    refine (isOne_num Hb.out (by omega)).mono ?_; rintro e w1 ⟨rfl, rfl⟩; rw [hd1.out]
    go_wp2_with fail
    refine (compare_num Ha.out Hb.out (by omega) (by omega)).mono ?_; rintro e w1 ⟨rfl, hb1⟩; rw [hc.out]
    go_wp2_with fail
    go_ret2
    exact ⟨_, _, rfl, by rw [Nat.div_eq_of_lt h2]; exact Num.nil _, by rw [Nat.mod_eq_of_lt h2]; exact Ha.out.below hb1 (Nat.le_refl _), hb1⟩
  have hc : ∃ r : Int, cmpN a b = r ∧ 0 ≤ r ∧ r ≤ 1 := by
    unfold cmpN
    rw [if_neg h2]
    split
    · exact ⟨_, rfl, by omega, by omega⟩
    · exact ⟨_, rfl, by omega, by omega⟩
  obtain ⟨r, hc, hr0, hr1⟩ := hc
  have Hc := Lib.hid hc; clear hc
  have hrd : decide (r < 0) = false := by simp; omega
  have hle : b ≤ a := Nat.le_of_not_lt h2
  have hlen := len_mono hle
  clear h1 h2
  have hbpos := len_pos hb0
  by_cases h3 : Len b = 1
  · obtain ⟨bb, bo, rfl, hbb, hcell⟩ := Hrb.out.at' (Below.refl _ _) 0 (by have := Hlb.out; omega)
    have hb9 := len_one_lt (Nat.le_of_eq h3)
    have hx : lb'[0]'(by have := Hlb.out; omega) = b := by
      have h := Hvb.out
      obtain ⟨x, hx⟩ : ∃ x, lb' = [x] := List.length_eq_one_iff.1 (Hlb.out.trans h3)
      subst hx
      simpa using h
    rw [hx] at hcell
    clear hx
    have H3 := Lib.hid h3
    have hl1 : (((Len b : Nat) : Int) == 1) = true := by rw [h3]; rfl
    clear h3
    go_enter Try.func110, Try.ntmps110
    go_wp2_with fail
    refine (isOne_num Hb.out (by omega)).mono ?_; rintro e w1 ⟨rfl, rfl⟩; rw [hd1.out]
    go_wp2_with fail
    refine (compare_num Ha.out Hb.out (by omega) (by omega)).mono ?_; rintro e w1 ⟨rfl, hb1⟩; rw [Hc.out]
    have hcell1 := (hb1.cell (p := ⟨bb, bo + 0, none⟩) hbb).trans hcell
    rw [Nat.add_zero] at hcell1
    have hli : (0 : Int) < (Len b : Nat) := by omega
    go_wp2_with fail
    refine (overWord_num (Ha.out.below hb1 (Nat.le_refl _)) (by omega) hb0 hb9).mono ?_; rintro e w2 ⟨v, rfl, hv, hb2⟩
    have hmb : a % b < 1000000000 := Nat.lt_trans (Nat.mod_lt _ hb0) hb9
    generalize hmod : a % b = m at *
    have Hmod := Lib.hid hmod; clear hmod
    have hwm : IntKind.u64.wrap (m : Int) = m := IntWalk.u64_in _ ⟨by omega, by omega⟩
    go_wp2_with fail
    refine (fromUint_num m (by omega) _).mono ?_; rintro e w3 ⟨v2, rfl, hv2, hb3⟩
    go_wp2_with fail
    go_ret2
    exact ⟨_, _, rfl, hv.below hb3 (Nat.le_refl _), hv2, (hb1.trans (hb2.mono hb1.size)).trans (hb3.mono (Nat.le_trans hb1.size hb2.size))⟩
  · have h2 : 2 ≤ Len b := by omega
    have hne : (((Len b : Nat) : Int) == 1) = false := by rw [beq_eq_false_iff_ne]; omega
    clear h3
    obtain ⟨bb, bo, rfl, hbb, hcell⟩ := Hrb.out.at' (Below.refl _ _) (Len b - 1) (by have := Hlb.out; omega)
    have ht9 := Hcb.out.1.get (Len b - 1) (by have := Hlb.out; omega)
    have htop : lb'[Len b - 1]'(by have := Hlb.out; omega) ≠ 0 := by
      have h := top_ne Hcb.out.2 (by have := Hlb.out; omega)
      have e : lb'.length - 1 = Len b - 1 := by rw [Hlb.out]
      rw [e, List.getElem?_eq_getElem (by have := Hlb.out; omega)] at h
      exact h
    generalize lb'[Len b - 1]'_ = t at *
    have hdiv : ∃ s : Nat, 1000000000 / (t + 1) = s ∧ 0 < s ∧ s ≤ 1000000000 := ⟨_, rfl, Nat.div_pos (by omega) (by omega), Nat.div_le_self _ _⟩
    obtain ⟨s, hs, hs0, hs9⟩ := hdiv
    have hs9' : s ≠ 1000000000 ∨ t = 0 := by
      rcases Nat.eq_zero_or_pos t with h | h
      · exact .inr h
      · refine .inl ?_
        have : s ≤ 1000000000 / 2 := by rw [← hs]; exact Nat.div_le_div_left (by omega) (by omega)
        omega
    have ht0 : t ≠ 0 := htop
    clear htop
    have hs9'' : s < 1000000000 := by omega
    have hquo : IntKind.u32.wrap ((1000000000 : Int).tdiv ((t : Int) + 1)) = (s : Int) := by
      rw [IntWalk.u32_quo _ _ ⟨by omega, by omega, by omega⟩, ← hs, Int.natCast_ediv]; rfl
    have Hs := Lib.hid hs; clear hs
    go_enter Try.func110, Try.ntmps110
    go_wp2_with fail
    refine (isOne_num Hb.out (by omega)).mono ?_; rintro e w1 ⟨rfl, rfl⟩; rw [hd1.out]
    go_wp2_with fail
    refine (compare_num Ha.out Hb.out (by omega) (by omega)).mono ?_; rintro e w1 ⟨rfl, hb1⟩; rw [Hc.out]
    have hcell1 := (hb1.cell (p := ⟨bb, bo + (Len b - 1), none⟩) hbb).trans hcell
    have hli : (0 : Int) < (Len b : Nat) := by omega
    go_wp2_with fail
    clear hquo hcell hcell1
    have ns := num_lit w1 s hs0 hs9''
    have b2 : Below w.heap.size w (w1.alloc (.cells #[.int .u32 (s : Nat)] 117)) := hb1.alloc hb1.size _
    have ls := len_small hs9''
    refine (times_num (Ha.out.below b2 (Nat.le_refl _)) ns (by omega) (by omega)).mono ?_; rintro e w2 ⟨va, rfl, hva, hb3⟩
    have b3 := b2.trans (hb3.mono b2.size)
    go_wp2_with fail
    have ns2 := num_lit w2 s hs0 hs9''
    have b4 : Below w.heap.size w (w2.alloc (.cells #[.int .u32 (s : Nat)] 117)) := b3.alloc b3.size _
    refine (times_num (Hb.out.below b4 (Nat.le_refl _)) ns2 (by omega) (by omega)).mono ?_; rintro e w3 ⟨vb, rfl, hvb, hb5⟩
    have b5 := b4.trans (hb5.mono b4.size)
    have hva' := (hva.below ((Below.refl _ w2).alloc (Nat.le_refl _) (.cells #[.int .u32 (s : Nat)] 117)) (Nat.le_refl _)).below hb5 (Nat.le_refl _)
    have hle2 : b * s ≤ a * s := Nat.mul_le_mul_right _ hle
    have hl1 := len_mul a s
    have hl2 := len_mono (Nat.le_mul_of_pos_right b hs0)
    have Hmath := Lib.hid (scale_math (a := a) (b := b) hs0)
    go_wp2_with fail
    refine (divideLong_num hva' hvb (by omega) (by omega) hle2).mono ?_; rintro e w4 ⟨vq, vr, rfl, hvq, hvr, hb6⟩
    rw [Hmath.out.1] at hvq
    rw [Hmath.out.2.1] at hvr
    have hlr : Len (a % b * s) ≤ 10000000000 := by have := len_mul (a % b) s; have := len_mono (Nat.mod_le a b); omega
    go_wp2_with fail
    refine (overWord_num hvr hlr hs0 hs9'').mono ?_; rintro e w5 ⟨vo, rfl, hvo, hb7⟩
    rw [Hmath.out.2.2] at hvo
    go_wp2_with fail
    go_ret2
    have b6 := b5.trans (hb6.mono b5.size)
    exact ⟨_, _, rfl, hvq.below hb7 (Nat.le_refl _), hvo, b6.trans (hb7.mono b6.size)⟩
end Go.Proofs.Ytlkdahgfnfdakaa
