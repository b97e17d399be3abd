/- The reference's decimals and the program's are the same. -/
import Derived.Test.YtegobakoflbnfaaGreatDoorNa
import Derived.Test.YtegobakoflbnfaaGreatDoorGj
namespace Go.Proofs.YtegobakoflbnfaaGreatDoor
open Go Go.RowKit

/-- the decimal that the reference makes of a text, if it is that of a number token -/
def refDec (l : List UInt8) : Option (List UInt8) :=
  match QA.readQ l with
  | some (sg, n, d) =>
    if sg = true ∨ 15 < (Lib.decDigits (n / d)).length then none
    else if n % d = 0 then some (Lib.decDigits (n / d))
    else match decPl d with
      | some p => some (Lib.decDigits (n / d) ++ [46] ++ padL (n % d * (10 ^ p / d)) p)
      | none => none
  | none => none
theorem pl_spec {d p : Nat} (h : decPl d = some p) : p < 16 ∧ 10 ^ p % d = 0 := by
  unfold decPl at h
  have h1 := List.find?_some h
  have h2 := List.mem_of_find?_eq_some h
  exact ⟨List.mem_range.1 h2, by simpa using h1⟩
theorem len_lt {x : Nat} (h : (Lib.decDigits x).length ≤ 15) : x < 10 ^ 15 := by
  have h1 := dv_lt (dec_dig x)
  rw [dv_dec] at h1
  exact Nat.lt_of_lt_of_le h1 (Nat.pow_le_pow_right (by decide) h)
theorem lt_of_div {n d : Nat} (hd : 0 < d) (h : n / d < 10 ^ 15) : n < 10 ^ 15 * d := (Nat.div_lt_iff_lt_mul hd).1 h
theorem dec_shape {n d p : Nat} (hd : 1 < d) (hl : (Lib.decDigits (n / d)).length ≤ 15) (hp : decPl d = some p) :
    decO (Lib.decDigits n ++ 47 :: Lib.decDigits d) = Lib.decDigits (n / d) ++ [46] ++ padL (n % d * (10 ^ p / d)) p := by
  obtain ⟨hp16, hp0⟩ := pl_spec hp
  have h15 : (10 : Nat) ^ 15 = 1000000000000000 := by decide
  have hdd : d ≤ 10 ^ 15 := by
    refine Nat.le_trans (Nat.le_of_dvd (Nat.pow_pos (by decide)) (Nat.dvd_of_mod_eq_zero hp0)) (Nat.pow_le_pow_right (by decide) (by omega))
  have hn := lt_of_div (by omega : 0 < d) (len_lt hl)
  have hn30 : n < 1000000000000000000000000000000 := by
    refine Nat.lt_of_lt_of_le hn ?_
    have h9 : 10 ^ 15 * d ≤ 10 ^ 15 * 10 ^ 15 := Nat.mul_le_mul_left _ hdd
    exact Nat.le_trans h9 (by decide)
  have hhi : ¬ d ≤ n / 18446744073709551616 := by
    intro h9
    have h8 : d * 18446744073709551616 ≤ n := Nat.le_trans (Nat.mul_le_mul_right _ h9) (Nat.div_mul_le_self _ _)
    rw [h15] at hn
    omega
  have hpud : puO (Lib.decDigits d) = some d := by
    have h9 := dec_len 15 d (by rw [show 15 + 1 = 16 from rfl, Nat.pow_succ]; omega)
    rw [pu_dig (dec_dig d) (dec_ne d) (by omega), dv_dec]
  have hw : wordsO (Lib.decDigits n) = some n := by rw [← long_eq]; exact words_long hn30
  unfold decO
  rw [cut_at (no_slash (dec_dig n)), if_neg (show ¬ true = false by decide)]
  show (match wordsO (Lib.decDigits n), puO (Lib.decDigits d) with
    | some n, some d => if d ≤ n / 18446744073709551616 then [] else match decPl d with
      | some p => Lib.decDigits (n / d) ++ [46] ++ padL (n % d * (10 ^ p / d)) p
      | none => []
    | _, _ => []) = _
  rw [hw, hpud]
  show (if d ≤ n / 18446744073709551616 then [] else match decPl d with
      | some p => Lib.decDigits (n / d) ++ [46] ++ padL (n % d * (10 ^ p / d)) p
      | none => []) = _
  rw [if_neg hhi, hp]
theorem frac_shape {n d p : Nat} (hd : 1 < d) (hc : Nat.gcd n d = 1) (hp : decPl d = some p) (h0 : n % d ≠ 0) :
    fracL (Lib.decDigits (n / d)) (padL (n % d * (10 ^ p / d)) p) = Lib.decDigits n ++ 47 :: Lib.decDigits d ∧ (padL (n % d * (10 ^ p / d)) p).length = p ∧ 0 < p := by
  obtain ⟨hp16, hp0⟩ := pl_spec hp
  obtain ⟨m, hm⟩ : ∃ m, m = n % d := ⟨_, rfl⟩
  have hmd : m < d := by rw [hm]; exact Nat.mod_lt _ (by omega)
  have hpos : 0 < p := by
    rcases Nat.eq_zero_or_pos p with h | h
    · rw [h, Nat.pow_zero, Nat.mod_eq_of_lt hd] at hp0
      omega
    · exact h
  have hco : Nat.gcd d m = 1 := by
    rw [hm, Nat.gcd_comm, ← Nat.gcd_rec, Nat.gcd_comm]; exact hc
  obtain ⟨Q, hQ⟩ : ∃ Q, Q = 10 ^ p / d := ⟨_, rfl⟩
  have hTQ : 10 ^ p = d * Q := by rw [hQ]; exact (Nat.mul_div_cancel' (Nat.dvd_of_mod_eq_zero hp0)).symm
  have hMlt : m * Q < 10 ^ p := by rw [hQ]; exact mod_lt_pow (by omega) hmd hp0
  have hQ0 : 0 < Q := by
    rcases Nat.eq_zero_or_pos Q with h | h
    · rw [h, Nat.mul_zero] at hTQ
      have : 0 < 10 ^ p := Nat.pow_pos (by decide)
      omega
    · exact h
  rw [← hm, ← hQ]
  obtain ⟨p, rfl⟩ : ∃ k, p = k + 1 := ⟨p - 1, by omega⟩
  have hpadl : (padL (m * Q) (p + 1)).length = p + 1 := pad_len hMlt
  refine ⟨?_, hpadl, hpos⟩
  unfold fracL
  rw [hpadl, dv_pad, dv_dec, hTQ, Nat.gcd_mul_right, hco, Nat.one_mul, Nat.mul_div_cancel _ hQ0, Nat.mul_div_cancel _ hQ0, if_neg (by omega : ¬ d = 1), hm, Nat.div_add_mod', long_eq]
  simp
theorem ref_spec {l o : List UInt8} (h : refDec l = some o) : tk0 o = (3, ⟨l.toArray⟩, o.length) ∧ o.length ≠ 0 ∧ decO l = o := by
  unfold refDec at h
  cases hq : QA.readQ l with
  | none => rw [hq] at h; cases h
  | some q =>
    obtain ⟨sg, n, d⟩ := q
    rw [hq] at h
    obtain ⟨-, -, hd0, hc, -, hl⟩ := QA.readQ_spec hq
    simp only [] at h
    by_cases h1 : sg = true ∨ 15 < (Lib.decDigits (n / d)).length
    · rw [if_pos h1] at h; cases h
    · rw [if_neg h1] at h
      have hsg : sg = false := by cases sg with | false => rfl | true => exact absurd (Or.inl rfl) h1
      subst hsg
      have hlen : (Lib.decDigits (n / d)).length ≤ 15 := by
        rcases Nat.lt_or_ge 15 (Lib.decDigits (n / d)).length with h2 | h2
        · exact absurd (Or.inr h2) h1
        · exact h2
      have hl' : l = Lib.decDigits n ++ (if d = 1 then [] else 47 :: Lib.decDigits d) := by
        rw [hl]; unfold QA.ratText
        rw [QA.decT_dec, QA.decT_dec]; rfl
      by_cases h0 : n % d = 0
      · rw [if_pos h0] at h
        have hd1 : d = 1 := by
          have := Nat.gcd_eq_right (Nat.dvd_of_mod_eq_zero h0)
          omega
        subst hd1
        rw [if_pos rfl, List.append_nil] at hl'
        rw [Nat.div_one] at h hlen
        obtain rfl := Option.some.inj h
        rw [dig_tok0 (dec_dig _) (dec_ne _) hlen, frac_int, dv_dec, hl']
        refine ⟨rfl, fun h => dec_ne _ (List.eq_nil_of_length_eq_zero h), ?_⟩
        unfold decO
        rw [cut_no (no_slash (dec_dig _)), if_pos rfl]
      · rw [if_neg h0] at h
        have hd1 : 1 < d := by
          rcases Nat.lt_or_ge 1 d with h2 | h2
          · exact h2
          · exact absurd (by rw [show d = 1 by omega, Nat.mod_one]) h0
        cases hp : decPl d with
        | none => rw [hp] at h; cases h
        | some p =>
          rw [hp] at h
          obtain rfl := Option.some.inj h
          obtain ⟨f1, f2, f3⟩ := frac_shape hd1 hc hp h0
          have hp16 := (pl_spec hp).1
          rw [if_neg (by omega)] at hl'
          refine ⟨?_, by simp, ?_⟩
          · rw [dig_tok (dec_dig _) (pad_dig _ _) (dec_ne _) (fun h9 => by rw [h9] at f2; simp at f2; omega) hlen (by omega), f1, hl']
          · rw [hl']; exact dec_shape hd1 hlen hp
theorem tok_num {s : ByteArray} (h : isTokB 3 s = true) : ∃ o, refDec s.data.toList = some o := by
  obtain ⟨h1, h2⟩ := isT_tok (t := (3, s, 0)) h
  obtain ⟨y, hy⟩ : ∃ y, y = (wrT (3, s, 0)).data.toList := ⟨_, rfl⟩
  rw [← hy] at h1 h2
  rw [tk0_eq] at h1
  by_cases c3 : clL y = 3
  · rw [if_pos c3] at h1
    have := congrArg Prod.fst h1
    unfold wordL at this
    split at this
    · exact absurd this (by show (0 : Int) ≠ 3; decide)
    · exact absurd this (by show (if _ then (2 : Int) else 1) ≠ 3; split <;> decide)
  rw [if_neg c3] at h1
  by_cases c4 : clL y = 4
  · rw [if_pos c4] at h1
    unfold numL at h1
    obtain ⟨w, hw⟩ : ∃ w, w = pre (inC digC) y := ⟨_, rfl⟩
    obtain ⟨k, hk⟩ : ∃ k, k = placesT y w := ⟨_, rfl⟩
    rw [← hw, ← hk] at h1
    by_cases h15 : 15 < w ∨ 15 < k
    · rw [if_pos h15] at h1
      exact absurd (congrArg Prod.fst h1) (by show (0 : Int) ≠ 3; decide)
    rw [if_neg h15] at h1
    have hs : fracL (y.take w) ((y.drop (w + 1)).take k) = s.data.toList := by
      have := congrArg (fun t => t.2.1.data.toList) h1
      simpa using this
    have dr : Dig ((y.drop (w + 1)).take k) := by
      have := rplaces_dig y w
      rw [rplaces_eq, ← hk] at this
      exact this
    have dl : Dig (y.take w) := by rw [hw]; exact dig_of_all (pre_all _ _)
    obtain ⟨L, hL⟩ : ∃ L, L = y.take w := ⟨_, rfl⟩
    obtain ⟨R, hR⟩ : ∃ R, R = (y.drop (w + 1)).take k := ⟨_, rfl⟩
    have hLl : L.length ≤ 15 := by rw [hL, List.length_take]; omega
    have hRl : R.length ≤ 15 := by rw [hR, List.length_take]; omega
    rw [← hL, ← hR] at hs
    rw [← hL] at dl
    rw [← hR] at dr
    rw [← QA.numText_frac dr] at hs
    obtain ⟨N, hN⟩ : ∃ N, N = QA.dval (L ++ R) := ⟨_, rfl⟩
    rw [← hN] at hs
    have hNlt : N < 10 ^ (L.length + R.length) := by
      rw [hN, QA.dval_dv, ← List.length_append]; exact dv_lt (dig_append dl dr)
    have hB : 0 < 10 ^ R.length := Nat.pow_pos (by decide)
    obtain ⟨hcan, -⟩ := QA.low_spec (s := false) (n := N) (d := 10 ^ R.length) hB
    have hg : 0 < Nat.gcd N (10 ^ R.length) := Nat.gcd_pos_of_pos_right _ hB
    have hfit : QA.fitQ (QA.lowQ false N (10 ^ R.length)).2.1 (QA.lowQ false N (10 ^ R.length)).2.2 = true := by
      unfold QA.fitQ
      refine decide_eq_true ⟨Nat.le_trans (QA.dig_le (k := 31) (by omega) ?_) (by omega), Nat.le_trans (QA.dig_le (k := 31) (by omega) ?_) (by omega)⟩
      · refine Nat.lt_of_le_of_lt (Nat.div_le_self _ _) (Nat.lt_of_lt_of_le hNlt (Nat.pow_le_pow_right (by decide) (by omega)))
      · refine Nat.lt_of_le_of_lt (Nat.div_le_self _ _) (Nat.pow_lt_pow_right (by decide) (by omega))
    have hrd := QA.readQ_text hcan hfit
    have hrd2 : QA.readQ s.data.toList = some (false, N / Nat.gcd N (10 ^ R.length), 10 ^ R.length / Nat.gcd N (10 ^ R.length)) := by
      rw [← hs]; exact hrd
    obtain ⟨g, hge⟩ : ∃ g, g = Nat.gcd N (10 ^ R.length) := ⟨_, rfl⟩
    rw [← hge] at hrd2 hg
    have hn : N = N / g * g := by rw [hge]; exact (Nat.div_mul_cancel (Nat.gcd_dvd_left _ _)).symm
    have hd : 10 ^ R.length = 10 ^ R.length / g * g := by rw [hge]; exact (Nat.div_mul_cancel (Nat.gcd_dvd_right _ _)).symm
    obtain ⟨n, hne⟩ : ∃ n, n = N / g := ⟨_, rfl⟩
    obtain ⟨d, hde⟩ : ∃ d, d = 10 ^ R.length / g := ⟨_, rfl⟩
    rw [← hne] at hn hrd2
    rw [← hde] at hd hrd2
    have hd0 : 0 < d := by
      rcases Nat.eq_zero_or_pos d with h9 | h9
      · rw [h9, Nat.zero_mul] at hd; omega
      · exact h9
    have hlt : n < 10 ^ 15 * d := by
      refine Nat.lt_of_mul_lt_mul_right (a := g) ?_
      rw [← hn, Nat.mul_assoc, ← hd]
      refine Nat.lt_of_lt_of_le hNlt ?_
      rw [Nat.pow_add]
      exact Nat.mul_le_mul_right _ (Nat.pow_le_pow_right (by decide) hLl)
    have hlen : (Lib.decDigits (n / d)).length ≤ 15 := dec_len 14 (n / d) ((Nat.div_lt_iff_lt_mul hd0).2 hlt)
    unfold refDec
    rw [hrd2]
    simp only []
    rw [if_neg (by intro h9; rcases h9 with h9 | h9; · cases h9
                   · omega)]
    by_cases h0 : n % d = 0
    · rw [if_pos h0]; exact ⟨_, rfl⟩
    · rw [if_neg h0]
      cases hp : decPl d with
      | some p => exact ⟨_, rfl⟩
      | none =>
        exfalso
        unfold decPl at hp
        rw [List.find?_eq_none] at hp
        have := hp R.length (List.mem_range.2 (by omega))
        apply this
        rw [hd, Nat.mul_mod_right]; rfl
  rw [if_neg c4] at h1
  by_cases c6 : clL y = 6
  · rw [if_pos c6] at h1
    have := congrArg Prod.fst h1
    unfold quoL at this
    split at this
    · exact absurd this (by show (0 : Int) ≠ 3; decide)
    · exact absurd this (by show (4 : Int) ≠ 3; decide)
  rw [if_neg c6] at h1
  by_cases c7 : clL y = 7
  · rw [if_pos c7] at h1
    exact absurd (congrArg Prod.fst h1) (by show (5 : Int) ≠ 3; decide)
  · rw [if_neg c7] at h1
    exact absurd (congrArg Prod.fst h1) (by show (0 : Int) ≠ 3; decide)
theorem tok3 (s : ByteArray) : isTokB 3 s = (refDec s.data.toList).isSome ∧ ∀ o, refDec s.data.toList = some o → writT 3 s = ⟨o.toArray⟩ := by
  have key : ∀ o, refDec s.data.toList = some o → writT 3 s = ⟨o.toArray⟩ ∧ isTokB 3 s = true := fun o h => by
    obtain ⟨h1, h2, h3⟩ := ref_spec h
    have hw : (writT 3 s).data.toList = o := by
      show (decO s.data.toList).toArray.toList = o
      rw [h3]
    refine ⟨by apply ByteArray.ext; rw [← Array.toList_inj, hw], isTok_of hw ?_ h2⟩
    rw [h1]
  refine ⟨?_, fun o h => (key o h).1⟩
  cases hr : refDec s.data.toList with
  | some o => exact (key o hr).2
  | none =>
    cases ht : isTokB 3 s
    · rfl
    · obtain ⟨o, ho⟩ := tok_num ht
      rw [hr] at ho; cases ho
end Go.Proofs.YtegobakoflbnfaaGreatDoor
