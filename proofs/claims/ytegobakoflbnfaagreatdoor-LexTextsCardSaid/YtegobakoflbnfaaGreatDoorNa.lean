/- Decimals: the shortest one of a number that was read is read as the same number. A token's own text. -/
import Derived.Test.YtegobakoflbnfaaGreatDoorGl
import Derived.Test.YtegobakoflbnfaaGreatDoorGf
namespace Go.Proofs.YtegobakoflbnfaaGreatDoor
open Go Go.RowKit

theorem dig_in {b : UInt8} (h : 48 ≤ b.toNat ∧ b.toNat ≤ 57) : inC digC b = true := by
  have := u8_all (p := fun c => !(decide (48 ≤ c.toNat) && decide (c.toNat ≤ 57)) || inC digC c) (by decide +kernel) b
  simpa [h.1, h.2] using this
theorem dig_all {l : List UInt8} (h : Dig l) : l.all (inC digC) = true := by
  rw [List.all_eq_true]
  exact fun b hb => dig_in (h b hb)
theorem pre_dig {l r : List UInt8} (h : Dig l) : pre (inC digC) (l ++ 46 :: r) = l.length := by
  rw [pre_app _ _ _ (dig_all h), pre_no _ _ _ (by decide +kernel)]; rfl
theorem pre_dig_all {l : List UInt8} (h : Dig l) : pre (inC digC) l = l.length := by
  have := pre_app (inC digC) l [] (dig_all h)
  rw [List.append_nil] at this
  rw [this]; rfl
theorem dig_cls {b : UInt8} (h : 48 ≤ b.toNat ∧ b.toNat ≤ 57) : classN b.toNat = 4 := by
  have := u8_all (p := fun c => !(decide (48 ≤ c.toNat) && decide (c.toNat ≤ 57)) || (classN c.toNat == 4)) (by decide +kernel) b
  simpa [h.1, h.2] using this
theorem pu_dig {l : List UInt8} (h : Dig l) (hne : l ≠ []) (hl : l.length ≤ 18) : puO l = some (dv l) := by
  unfold puO
  rw [parse_dig h hne hl]
/-- the digits of a number of at most 30 are read as that number -/
theorem words_long {N : Nat} (h : N < 1000000000000000000000000000000) : wordsO (longL N) = some N := by
  have h15 : (10 : Nat) ^ 15 = 1000000000000000 := by decide
  have hN := Nat.div_add_mod N 1000000000000000
  unfold longL
  by_cases h0 : N / 1000000000000000 = 0
  · rw [if_pos h0]
    have hlo : N % 1000000000000000 = N := by omega
    rw [hlo]
    have hl := dec_len 14 N (by rw [show 14 + 1 = 15 from rfl, h15]; omega)
    unfold wordsO
    rw [if_neg (by omega), show (Lib.decDigits N).length - 15 = 0 by omega, List.take_zero, List.drop_zero]
    have e1 : puO [48] = some 0 := pu_dig (l := [48]) (by intro b hb; rw [List.mem_singleton] at hb; subst hb; decide) (by simp) (by simp)
    rw [e1, pu_dig (dec_dig N) (dec_ne N) (by omega), dv_dec]
    simp
  · rw [if_neg h0]
    have hhi : N / 1000000000000000 < 10 ^ 15 := by rw [h15]; omega
    have hl := dec_len 14 (N / 1000000000000000) hhi
    have hp := pad_len (n := N % 1000000000000000) (d := 14) (by rw [show 14 + 1 = 15 from rfl, h15]; omega)
    have hp' : (padL (N % 1000000000000000) 15).length = 15 := hp
    have hlen : (Lib.decDigits (N / 1000000000000000) ++ padL (N % 1000000000000000) 15).length - 15 = (Lib.decDigits (N / 1000000000000000)).length := by rw [List.length_append, hp']; omega
    unfold wordsO
    rw [if_neg (by rw [List.length_append, hp']; omega), hlen, List.take_left, List.drop_left]
    have e1 : puO (48 :: Lib.decDigits (N / 1000000000000000)) = some (N / 1000000000000000) := by
      rw [pu_dig (fun b hb => by
        rcases List.mem_cons.1 hb with h | h
        · subst h; decide
        · exact dec_dig _ b h) (by simp) (by rw [List.length_cons]; omega), dv_zero, dv_dec]
    rw [e1, pu_dig (pad_dig _ _) (by intro h9; rw [h9] at hp'; simp at hp') (by omega), dv_pad]
    show some (N / 1000000000000000 * 1000000000000000 + N % 1000000000000000) = some N
    congr 1
    omega
theorem dig_tok {l r : List UInt8} (hl : Dig l) (hr : Dig r) (hln : l ≠ []) (hrn : r ≠ []) (h1 : l.length ≤ 15) (h2 : r.length ≤ 15) :
    tk0 (l ++ [46] ++ r) = (3, ⟨(fracL l r).toArray⟩, (l ++ [46] ++ r).length) := by
  have e : l ++ [46] ++ r = l ++ 46 :: r := by simp
  rw [e]
  obtain ⟨b, l', rfl⟩ : ∃ b t, l = b :: t := by cases l with | nil => exact absurd rfl hln | cons b t => exact ⟨b, t, rfl⟩
  have hcl := dig_cls (hl b (List.mem_cons_self ..))
  have hr0 : 0 < r.length := List.length_pos_iff.2 hrn
  have hdr : (b :: l' ++ 46 :: r).drop ((b :: l').length + 1) = r := by rw [← List.drop_drop, List.drop_left]; rfl
  have hpl : placesT (b :: l' ++ 46 :: r) (b :: l').length = r.length := by
    unfold placesT
    rw [List.drop_left, hp_cons, hdr, pre_dig_all hr]; rfl
  rw [tk0_eq]
  have hc : clL (b :: l' ++ 46 :: r) = 4 := hcl
  rw [hc, if_neg (by decide), if_pos rfl]
  unfold numL
  rw [pre_dig hl, hpl, if_neg (by omega), List.take_left, hdr, List.take_length]
  unfold numLen
  rw [if_pos hr0, List.length_append, List.length_cons (a := 46), Nat.add_comm 1]
theorem dig_tok0 {l : List UInt8} (hl : Dig l) (hln : l ≠ []) (h1 : l.length ≤ 15) : tk0 l = (3, ⟨(fracL l []).toArray⟩, l.length) := by
  obtain ⟨b, l', rfl⟩ : ∃ b t, l = b :: t := by cases l with | nil => exact absurd rfl hln | cons b t => exact ⟨b, t, rfl⟩
  have hcl := dig_cls (hl b (List.mem_cons_self ..))
  have hpl : placesT (b :: l') (b :: l').length = 0 := by
    unfold placesT
    rw [List.drop_length]; rfl
  rw [tk0_eq]
  have hc : clL (b :: l') = 4 := hcl
  rw [hc, if_neg (by decide), if_pos rfl]
  unfold numL
  rw [pre_dig_all hl, hpl, if_neg (by omega), List.take_length, List.take_zero]
  rfl
theorem frac_int (l : List UInt8) : fracL l [] = Lib.decDigits (dv l) := by
  unfold fracL
  rw [if_pos (by decide)]
theorem no_slash {l : List UInt8} (h : Dig l) : ∀ b ∈ l, b ≠ 47 := dig_ne h (.inl (by decide))
theorem long_dig (N : Nat) : Dig (longL N) := by
  unfold longL
  split
  · exact dec_dig _
  · exact dig_append (dec_dig _) (pad_dig _ _)
/-- the decimal of what was read from a decimal -/
theorem dec_frac {l r : List UInt8} (hl : Dig l) (hr : Dig r) (hln : l ≠ []) (hll : l.length ≤ 15) (hrl : r.length ≤ 15) :
    tk0 (decO (fracL l r)) = (3, ⟨(fracL l r).toArray⟩, (decO (fracL l r)).length) ∧ (decO (fracL l r)).length ≠ 0 ∧ (decO (fracL l r)).length ≤ numLen l.length r.length := by
  have h15 : (10 : Nat) ^ 15 = 1000000000000000 := by decide
  have hA : dv l < 10 ^ l.length := dv_lt hl
  have hA15 : dv l < 10 ^ 15 := Nat.lt_of_lt_of_le hA (Nat.pow_le_pow_right (by decide) hll)
  have hl1 : 1 ≤ l.length := List.length_pos_iff.2 hln
  have hdl : (Lib.decDigits (dv l)).length ≤ l.length := by
    have := dec_len (l.length - 1) (dv l) (by rw [show l.length - 1 + 1 = l.length by omega]; exact hA)
    omega
  obtain ⟨B, hB⟩ : ∃ B, B = 10 ^ r.length := ⟨_, rfl⟩
  obtain ⟨P, hP⟩ : ∃ P, P = dv r := ⟨_, rfl⟩
  have hPB : P < B := by rw [hP, hB]; exact dv_lt hr
  have hBp : 0 < B := by omega
  have hB15 : B ≤ 10 ^ 15 := by rw [hB]; exact Nat.pow_le_pow_right (by decide) hrl
  have hgp : 0 < Nat.gcd B P := Nat.gcd_pos_of_pos_left _ hBp
  obtain ⟨d, hd⟩ : ∃ d, d = B / Nat.gcd B P := ⟨_, rfl⟩
  obtain ⟨m, hm⟩ : ∃ m, m = P / Nat.gcd B P := ⟨_, rfl⟩
  have hBd : B = d * Nat.gcd B P := by rw [hd]; exact (Nat.div_mul_cancel (Nat.gcd_dvd_left B P)).symm
  have hPm : P = m * Nat.gcd B P := by rw [hm]; exact (Nat.div_mul_cancel (Nat.gcd_dvd_right B P)).symm
  have hco : Nat.gcd d m = 1 := by
    have h9 : Nat.gcd (d * Nat.gcd B P) (m * Nat.gcd B P) = Nat.gcd B P := by rw [← hBd, ← hPm]
    rw [Nat.gcd_mul_right] at h9
    exact Nat.eq_of_mul_eq_mul_right hgp (by rw [Nat.one_mul]; exact h9)
  have hmd : m < d := by
    refine Nat.lt_of_mul_lt_mul_right (a := Nat.gcd B P) ?_
    rw [← hBd, ← hPm]; exact hPB
  have hdB : d ≤ B := by rw [hd]; exact Nat.div_le_self _ _
  have hF : fracL l r = if d = 1 then Lib.decDigits (dv l) else longL (dv l * d + m) ++ [47] ++ Lib.decDigits d := by
    rw [hd, hm, hB, hP]; rfl
  by_cases h1 : d = 1
  · rw [if_pos h1] at hF
    have hO : decO (fracL l r) = Lib.decDigits (dv l) := by
      rw [hF]
      unfold decO
      rw [cut_no (no_slash (dec_dig _)), if_pos rfl]
    rw [hO, dig_tok0 (dec_dig _) (dec_ne _) (by omega), frac_int, dv_dec, hF]
    refine ⟨rfl, fun h => dec_ne _ (List.eq_nil_of_length_eq_zero h), ?_⟩
    unfold numLen
    split <;> omega
  · rw [if_neg h1] at hF
    obtain ⟨N, hN⟩ : ∃ N, N = dv l * d + m := ⟨_, rfl⟩
    rw [← hN] at hF
    have hd1 : 1 < d := by omega
    have hNd : N / d = dv l := by
      rw [hN, Nat.mul_comm, Nat.mul_add_div (by omega), Nat.div_eq_of_lt hmd, Nat.add_zero]
    have hNm : N % d = m := by
      rw [hN, Nat.mul_comm, Nat.mul_add_mod, Nat.mod_eq_of_lt hmd]
    have hNle : N < 10 ^ 15 * d := by
      have h9 : (dv l + 1) * d ≤ 10 ^ 15 * d := Nat.mul_le_mul_right _ (by omega)
      rw [Nat.add_mul, Nat.one_mul] at h9
      omega
    have hN30 : N < 1000000000000000000000000000000 := by
      refine Nat.lt_of_lt_of_le hNle ?_
      have h9 : 10 ^ 15 * d ≤ 10 ^ 15 * 10 ^ 15 := Nat.mul_le_mul_left _ (Nat.le_trans hdB hB15)
      exact Nat.le_trans h9 (by decide)
    have hhi : ¬ d ≤ N / 18446744073709551616 := by
      intro h9
      have h8 : d * 18446744073709551616 ≤ N := Nat.le_trans (Nat.mul_le_mul_right _ h9) (Nat.div_mul_le_self _ _)
      rw [h15] at hNle
      omega
    -- the places
    have hdvd : 10 ^ r.length % d = 0 := by
      rw [← hB]
      exact Nat.mod_eq_zero_of_dvd ⟨Nat.gcd B P, hBd⟩
    obtain ⟨p, hpr, hp0, hpl⟩ : ∃ p, p ≤ r.length ∧ 10 ^ p % d = 0 ∧ ∀ q, q < p → 10 ^ q % d ≠ 0 := by
      have hex : ∃ n, ∃ p, p ≤ n ∧ 10 ^ p % d = 0 := ⟨r.length, r.length, Nat.le_refl _, hdvd⟩
      have key : ∀ n, (∃ p, p ≤ n ∧ 10 ^ p % d = 0) → ∃ p, p ≤ n ∧ 10 ^ p % d = 0 ∧ ∀ q, q < p → 10 ^ q % d ≠ 0 := by
        intro n
        induction n with
        | zero =>
          rintro ⟨p, hp, h9⟩
          exact ⟨p, hp, h9, fun q hq => by omega⟩
        | succ n ih =>
          rintro ⟨p, hp, h9⟩
          by_cases hn : ∃ p, p ≤ n ∧ 10 ^ p % d = 0
          · obtain ⟨q, a, b, c⟩ := ih hn
            exact ⟨q, by omega, b, c⟩
          · exact ⟨p, hp, h9, fun q hq hz => hn ⟨q, by omega, hz⟩⟩
      exact key r.length ⟨r.length, Nat.le_refl _, hdvd⟩
    have hp1 : 1 ≤ p := by
      rcases Nat.eq_zero_or_pos p with h | h
      · rw [h, Nat.pow_zero, Nat.mod_eq_of_lt hd1] at hp0
        omega
      · exact h
    have hpl16 : decPl d = some p := pl_some (by omega) hpl hp0
    obtain ⟨Q, hQ⟩ : ∃ Q, Q = 10 ^ p / d := ⟨_, rfl⟩
    have hTQ : 10 ^ p = d * Q := by rw [hQ]; exact (Nat.mul_div_cancel' (Nat.dvd_of_mod_eq_zero hp0)).symm
    have hMlt : m * Q < 10 ^ p := by rw [hQ]; exact mod_lt_pow (by omega) hmd hp0
    have hQ0 : 0 < Q := by
      rcases Nat.eq_zero_or_pos Q with h | h
      · rw [h, Nat.mul_zero] at hTQ
        have : 0 < 10 ^ p := Nat.pow_pos (by decide)
        omega
      · exact h
    have hcut : Lib.cut (longL N ++ [47] ++ Lib.decDigits d) [47] = (longL N, Lib.decDigits d, true) := by
      have e : longL N ++ [47] ++ Lib.decDigits d = longL N ++ 47 :: Lib.decDigits d := by simp
      rw [e, cut_at (no_slash (long_dig N))]
    have hpud : puO (Lib.decDigits d) = some d := by
      have h9 := dec_len 15 d (by rw [show 15 + 1 = 16 from rfl, Nat.pow_succ]; omega)
      rw [pu_dig (dec_dig d) (dec_ne d) (by omega), dv_dec]
    have hO : decO (fracL l r) = Lib.decDigits (dv l) ++ [46] ++ padL (m * Q) p := by
      rw [hF]
      unfold decO
      rw [hcut, if_neg (show ¬ true = false by decide)]
      show (match wordsO (longL N), puO (Lib.decDigits d) with
        | some n, some d => if d ≤ n / 18446744073709551616 then [] else match decPl d with
          | some p => Lib.decDigits (n / d) ++ [46] ++ padL (n % d * (10 ^ p / d)) p
          | none => []
        | _, _ => []) = _
      rw [words_long hN30, hpud]
      show (if d ≤ N / 18446744073709551616 then [] else match decPl d with
          | some p => Lib.decDigits (N / d) ++ [46] ++ padL (N % d * (10 ^ p / d)) p
          | none => []) = _
      rw [if_neg hhi, hpl16]
      show Lib.decDigits (N / d) ++ [46] ++ padL (N % d * (10 ^ p / d)) p = _
      rw [hNd, hNm, ← hQ]
    obtain ⟨p, rfl⟩ : ∃ k, p = k + 1 := ⟨p - 1, by omega⟩
    have hpadl : (padL (m * Q) (p + 1)).length = p + 1 := pad_len hMlt
    have hfr : fracL (Lib.decDigits (dv l)) (padL (m * Q) (p + 1)) = fracL l r := by
      rw [hF]
      unfold fracL
      rw [hpadl, dv_pad, dv_dec, hTQ, Nat.gcd_mul_right, hco, Nat.one_mul, Nat.mul_div_cancel _ hQ0, Nat.mul_div_cancel _ hQ0, if_neg h1, ← hN]
    have hpne : padL (m * Q) (p + 1) ≠ [] := fun h => by rw [h] at hpadl; simp at hpadl
    rw [hO, dig_tok (dec_dig _) (pad_dig _ _) (dec_ne _) hpne (by omega) (by omega), hfr]
    refine ⟨rfl, by simp, ?_⟩
    rw [List.length_append, List.length_append, hpadl]
    unfold numLen
    rw [if_pos (by omega)]
    simp only [List.length_singleton]
    omega
theorem isT_tok {t : Tk} (h : isT t = true) : tk0 (wrT t).data.toList = (t.1, t.2.1, (wrT t).data.toList.length) ∧ (wrT t).data.toList.length ≠ 0 := by
  unfold isT isTokB at h
  simp only [Bool.and_eq_true, decide_eq_true_eq] at h
  obtain ⟨⟨⟨h1, h2⟩, h3⟩, h4⟩ := h
  have hl : (wrT t).data.toList.length = (wrT t).size := Array.length_toList
  have e : tk0 (wrT t).data.toList = firstT (writT t.1 t.2.1) := by
    unfold tk0
    congr 1
  have e3 : (firstT (writT t.1 t.2.1)).1 = t.1 := by simpa using h3
  have e4 : (firstT (writT t.1 t.2.1)).2.1 = t.2.1 := by
    rw [Lib.toList_data, Lib.toList_data, beq_iff_eq] at h4
    exact ByteArray.ext (Array.toList_inj.1 h4)
  have h2' : (firstT (writT t.1 t.2.1)).2.2 = (wrT t).size := h2
  refine ⟨?_, by rw [hl]; omega⟩
  rw [e, hl, ← h2']
  exact Prod.ext e3 (Prod.ext e4 rfl)
theorem isTok_of {k : Int} {s : ByteArray} {y : List UInt8} (hy : (writT k s).data.toList = y) (ht : tk0 y = (k, s, y.length)) (h0 : y.length ≠ 0) : isTokB k s = true := by
  have e : writT k s = ⟨y.toArray⟩ := by
    apply ByteArray.ext
    rw [← Array.toList_inj, hy]
  have e2 : firstT (writT k s) = (k, s, y.length) := by rw [e]; exact ht
  have e3 : (writT k s).size = y.length := by rw [e]; rfl
  unfold isTokB
  rw [e2, e3]
  have : 0 < y.length := by omega
  simp [this]
theorem quote_byte {b : UInt8} (h : classN b.toNat = 6) : b = 34 := by
  have h1 := u8_all (p := fun c => !(classN c.toNat == 6) || c == 34) (by decide +kernel) b
  simpa [h] using h1
end Go.Proofs.YtegobakoflbnfaaGreatDoor
