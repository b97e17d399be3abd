/- What is read can be written, and is read again. -/
import Derived.Test.YtegobakoflbnfaaDoorM9
namespace Go.Proofs.YtegobakoflbnfaaDoor
open Go Go.RowKit

theorem isTok_of {k : Int} {s : ByteArray} {y : List UInt8} (hy : (writT k s).data.toList = y) (ht : tk0 y = (k, s, y.length)) (h0 : y.length ≠ 0) : isTokB k s = true := by
  have e : writT k s = ⟨y.toArray⟩ := by
    apply ByteArray.ext
    rw [← Array.toList_inj, hy]
  have e2 : firstT (writT k s) = (k, s, y.length) := by rw [e]; exact ht
  have e3 : (writT k s).size = y.length := by rw [e]; rfl
  unfold isTokB
  rw [e2, e3]
  have : 0 < y.length := by omega
  simp [this]
theorem quote_byte {b : UInt8} (h : classN b.toNat = 6) : b = 34 := by
  have h1 := u8_all (p := fun c => !(classN c.toNat == 6) || c == 34) (by decide +kernel) b
  simpa [h] using h1
theorem tok_isT {l : List UInt8} {t : T3} (ht : tk0 l = t) (h0 : t.2.2 ≠ 0) : isTokB t.1 t.2.1 = true ∧ (writT t.1 t.2.1).size ≤ t.2.2 := by
  have hle := tk0_le l
  rw [ht] at hle
  have hself := tk0_loc (r := []) ht h0 (Near.nil _)
  rw [List.append_nil] at hself
  have htl : (l.take t.2.2).length = t.2.2 := by rw [List.length_take]; exact Nat.min_eq_left hle
  obtain ⟨b, m, rfl⟩ : ∃ b m, l = b :: m := by
    cases l with
    | nil => rw [tk0_eq] at ht; subst ht; exact absurd rfl h0
    | cons b m => exact ⟨b, m, rfl⟩
  -- a token that is written as it was read
  have plain : t.1 ≠ 3 → t.1 ≠ 4 → t.2.1 = ⟨((b :: m).take t.2.2).toArray⟩ → isTokB t.1 t.2.1 = true ∧ (writT t.1 t.2.1).size ≤ t.2.2 := fun h3 h4 hs => by
    have hw : writT t.1 t.2.1 = t.2.1 := by unfold writT; rw [if_neg h3, if_neg h4]
    refine ⟨isTok_of (y := (b :: m).take t.2.2) (by rw [hw, hs]) (by rw [hself, htl]) (by rw [htl]; exact h0), ?_⟩
    rw [hw, hs]
    show ((b :: m).take t.2.2).toArray.size ≤ _
    rw [List.size_toArray, htl]
    exact Nat.le_refl _
  rw [tk0_eq] at ht
  by_cases h3 : clL (b :: m) = 3
  · rw [if_pos h3] at ht
    by_cases h20 : 20 < pre (inC [3, 4, 5]) (b :: m)
    · unfold wordL at ht
      rw [if_pos h20] at ht; subst ht; exact absurd rfl h0
    · unfold wordL at ht
      rw [if_neg h20] at ht
      refine plain ?_ ?_ (by rw [← ht]) <;> (rw [← ht]; show (if _ then (2 : Int) else 1) ≠ _; split <;> decide)
  · rw [if_neg h3] at ht
    by_cases h4 : clL (b :: m) = 4
    · rw [if_pos h4] at ht
      by_cases h15 : 15 < pre (inC digC) (b :: m) ∨ 15 < placesT (b :: m) (pre (inC digC) (b :: m))
      · unfold numL at ht
        rw [if_pos h15] at ht; subst ht; exact absurd rfl h0
      · unfold numL at ht
        rw [if_neg h15] at ht
        have hw := pre_le (inC digC) (b :: m)
        have hpl := places_le (b :: m) (pre (inC digC) (b :: m)) hw
        have hd1 := dig_pre (b :: m)
        have hd2 := dig_places (b :: m) (pre (inC digC) (b :: m))
        have hw0 : 0 < pre (inC digC) (b :: m) := dig_head h4
        obtain ⟨w, hwe⟩ : ∃ w, w = pre (inC digC) (b :: m) := ⟨_, rfl⟩
        obtain ⟨p, hpe⟩ : ∃ p, p = placesT (b :: m) w := ⟨_, rfl⟩
        rw [← hwe] at hw hpl hd1 hd2 hw0 h15 ht
        rw [← hpe] at hpl hd2 h15 ht
        have hll : ((b :: m).take w).length = w := by rw [List.length_take]; exact Nat.min_eq_left hw
        have hrl : (((b :: m).drop (w + 1)).take p).length = p := by
          rw [List.length_take, List.length_drop]
          by_cases hp : 0 < p
          · unfold numLen at hpl
            rw [if_pos hp] at hpl
            omega
          · omega
        obtain ⟨q1, q2, q3⟩ := dec_frac hd1 hd2 (by intro h9; rw [h9] at hll; simp at hll; omega) (by rw [hll]; omega) (by rw [hrl]; omega)
        rw [hll, hrl] at q3
        subst ht
        have hwr : (writT 3 ⟨(fracL ((b :: m).take w) (((b :: m).drop (w + 1)).take p)).toArray⟩).data.toList = decO (fracL ((b :: m).take w) (((b :: m).drop (w + 1)).take p)) := rfl
        refine ⟨isTok_of hwr q1 q2, ?_⟩
        show (decO (fracL ((b :: m).take w) (((b :: m).drop (w + 1)).take p))).toArray.size ≤ numLen w p
        rw [List.size_toArray]
        exact q3
    · rw [if_neg h4] at ht
      by_cases h6 : clL (b :: m) = 6
      · rw [if_pos h6] at ht
        have hb34 := quote_byte h6
        unfold quoL at ht
        split at ht
        · subst ht; exact absurd rfl h0
        · rename_i hq
          have hd1 : (b :: m).drop 1 = m := rfl
          rw [hd1] at ht hq
          obtain ⟨k, hk⟩ : ∃ k, k = pre (inC strC) m := ⟨_, rfl⟩
          rw [← hk] at ht hq
          have hdk : (b :: m).drop (1 + k) = m.drop k := by rw [Nat.add_comm]; rfl
          rw [hdk] at hq
          have hh : Lib.hasPrefix (m.drop k) [34] = true := by
            cases hc : Lib.hasPrefix (m.drop k) [34]
            · exact absurd (Or.inr hc) hq
            · rfl
          obtain ⟨u, hu⟩ := has_one hh
          have e1 : t.1 = 4 := by rw [← ht]
          have e2 : t.2.1 = ⟨(m.take k).toArray⟩ := by rw [← ht]
          have e3 : t.2.2 = k + 2 := by rw [← ht]
          have hy : (writT t.1 t.2.1).data.toList = (b :: m).take t.2.2 := by
            rw [e1, e2, e3, List.take_succ_cons, List.take_add, hu, hb34]
            show ((⟨#[34]⟩ : ByteArray) ++ ⟨(m.take k).toArray⟩ ++ ⟨#[34]⟩).data.toList = _
            simp [ByteArray.data_append]
          refine ⟨isTok_of hy (by rw [hself, htl]) (by rw [htl]; exact h0), ?_⟩
          have : (writT t.1 t.2.1).data.toList.length = (writT t.1 t.2.1).size := Array.length_toList
          rw [← this, hy, htl]
          exact Nat.le_refl _
      · rw [if_neg h6] at ht
        by_cases h7 : clL (b :: m) = 7
        · rw [if_pos h7] at ht
          refine plain ?_ ?_ (by rw [← ht]; rfl) <;> (rw [← ht]; show (5 : Int) ≠ _; decide)
        · rw [if_neg h7] at ht
          subst ht; exact absurd rfl h0
def sumW (T : List Tk) : Nat := (T.map fun t => (wrT t).size).sum
theorem sc_isT : ∀ (n k : Nat) (l : List UInt8), l.length ≤ n → (sc k l).2.2 = 0 → (sc k l).1.all isT = true ∧ sumW (sc k l).1 ≤ l.length
  | n, k, l, h, hok => by
    have hg := gap_len l
    by_cases he : gapT l = l.length
    · rw [sc_end he]; exact ⟨rfl, Nat.zero_le _⟩
    · obtain ⟨t, ht⟩ : ∃ t, tk0 (l.drop (gapT l)) = t := ⟨_, rfl⟩
      by_cases h0 : t.2.2 = 0
      · rw [sc_bad (by omega) (by rw [ht]; exact h0)] at hok
        exact absurd hok (show ¬ (1 : Int) = 0 by decide)
      · have htl := tk0_le (l.drop (gapT l))
        rw [ht, List.length_drop] at htl
        rw [sc_tok (by omega) ht h0] at hok ⊢
        cases n with
        | zero => omega
        | succ n =>
          have hok2 : (sc (k + gapT l + t.2.2) (l.drop (gapT l + t.2.2))).2.2 = 0 := by
            unfold appR at hok
            split at hok
            · assumption
            · exact hok
          obtain ⟨i1, i2⟩ := sc_isT n (k + gapT l + t.2.2) (l.drop (gapT l + t.2.2)) (by rw [List.length_drop]; omega) hok2
          obtain ⟨j1, j2⟩ := tok_isT ht h0
          rw [List.length_drop] at i2
          unfold appR
          rw [if_pos hok2]
          refine ⟨?_, ?_⟩
          · rw [List.all_append, i1, List.all_cons]
            show ((isTokB t.1 t.2.1 && true) && true) = true
            rw [j1]; rfl
          · unfold sumW at i2 ⊢
            rw [List.map_append, List.sum_append, List.map_cons, List.sum_cons]
            show (writT t.1 t.2.1).size + 0 + _ ≤ _
            omega
theorem joined_sum (L : List Tk) : (joinedT L).size ≤ sumW L + L.length := by
  show (Lib.join (L.map fun t => (wrT t).data.toList) [32]).toArray.size ≤ _
  rw [List.size_toArray]
  have hl : ∀ m : List Tk, Lib.lens (m.map fun t => (wrT t).data.toList) = sumW m := by
    intro m
    induction m with
    | nil => rfl
    | cons b m ih =>
      unfold Lib.lens sumW at ih ⊢
      simp only [List.map_cons, List.sum_cons] at ih ⊢
      rw [ih]
      have h3 : (wrT b).data.toList.length = (wrT b).size := Array.length_toList
      omega
  cases L with
  | nil => exact Nat.zero_le _
  | cons a l =>
    have h9 := hl (a :: l)
    rw [List.map_cons] at h9 ⊢
    rw [Lib.join_length, h9, List.length_map]
    have e : ([32] : List UInt8).length = 1 := rfl
    rw [e, Nat.one_mul, List.length_cons]
    omega
/-- the text of what was read -/
theorem again_facts {s : ByteArray} (hs : s.size ≤ 800) (hok : (scanT s).2.2 = 0) : textT (scanT s).1 = (joinedT (scanT s).1, 0) ∧ (scanT s).1.length ≤ 800 ∧ (joinedT (scanT s).1).size ≤ 8000 ∧ (scanT s).1.all isT = true := by
  have hsz : s.data.toList.length = s.size := Array.length_toList
  rw [scan_eq s (by omega)] at hok ⊢
  obtain ⟨h1, h2⟩ := sc_isT _ 0 s.data.toList (Nat.le_refl _) hok
  have h3 := sc_len _ 0 s.data.toList (Nat.le_refl _)
  have h4 := joined_sum (sc 0 s.data.toList).1
  have h5 : (joinedT (sc 0 s.data.toList).1).size ≤ 8000 := by omega
  refine ⟨?_, by omega, h5, h1⟩
  unfold textT
  rw [if_pos h1, if_neg (by omega)]
theorem firstT_text (y : ByteArray) : (firstT y).2.1.size ≤ 1000 := by
  have hex : ∀ (a : List UInt8) (n : Nat), n ≤ 1000 → (⟨(a.take n).toArray⟩ : ByteArray).size ≤ 1000 := fun a n h => by
    show (a.take n).toArray.size ≤ 1000
    rw [List.size_toArray, List.length_take]; omega
  have e : firstT y = tk0 y.data.toList := by
    unfold tk0
    congr 1
  rw [e, tk0_eq]
  split
  · unfold wordL
    split
    · exact Nat.zero_le _
    · exact hex _ _ (by omega)
  · split
    · unfold numL
      split
      · exact Nat.zero_le _
      · rename_i h
        show (fracL _ _).toArray.size ≤ 1000
        rw [List.size_toArray]
        have h15 : (10 : Nat) ^ 15 = 1000000000000000 := by decide
        have hw := pre_le (inC digC) y.data.toList
        have hA := dv_lt (dig_pre y.data.toList)
        rw [List.length_take, Nat.min_eq_left hw] at hA
        have hA2 : 10 ^ pre (inC digC) y.data.toList ≤ 10 ^ 15 := Nat.pow_le_pow_right (by decide) (by omega)
        obtain ⟨w, hwe⟩ : ∃ w, w = pre (inC digC) y.data.toList := ⟨_, rfl⟩
        rw [← hwe] at h hA hA2 ⊢
        obtain ⟨r, hr⟩ : ∃ r, r = (y.data.toList.drop (w + 1)).take (placesT y.data.toList w) := ⟨_, rfl⟩
        have hrd : Dig r := by rw [hr]; exact dig_places _ _
        have hrl : r.length ≤ 15 := by rw [hr, List.length_take]; omega
        rw [← hr]
        have hB2 : 10 ^ r.length ≤ 10 ^ 15 := Nat.pow_le_pow_right (by decide) hrl
        have hP := dv_lt hrd
        unfold fracL
        obtain ⟨d, hd⟩ : ∃ d, d = 10 ^ r.length / Nat.gcd (10 ^ r.length) (dv r) := ⟨_, rfl⟩
        obtain ⟨m, hm⟩ : ∃ m, m = dv r / Nat.gcd (10 ^ r.length) (dv r) := ⟨_, rfl⟩
        rw [← hd, ← hm]
        have hd2 : d ≤ 10 ^ 15 := by rw [hd]; exact Nat.le_trans (Nat.div_le_self _ _) hB2
        have hm2 : m ≤ 10 ^ 15 := by rw [hm]; exact Nat.le_trans (Nat.div_le_self _ _) (by omega)
        split
        · have := dec_len 15 (dv (y.data.toList.take w)) (by rw [show 15 + 1 = 16 from rfl, Nat.pow_succ]; omega)
          omega
        · have h1 : dv (y.data.toList.take w) * d + m < 18446744073709551616000000000000000 := by
            have h9 : dv (y.data.toList.take w) * d ≤ 10 ^ 15 * 10 ^ 15 := Nat.mul_le_mul (by omega) hd2
            have h8 : (10 : Nat) ^ 15 * 10 ^ 15 + 10 ^ 15 < 18446744073709551616000000000000000 := by decide
            omega
          have h2 := longL_len h1
          have h3 := dec_len 15 d (by rw [show 15 + 1 = 16 from rfl, Nat.pow_succ]; omega)
          rw [List.length_append, List.length_append]
          simp only [List.length_singleton]
          omega
    · split
      · unfold quoL
        split
        · exact Nat.zero_le _
        · exact hex _ _ (by omega)
      · split
        · unfold symL
          refine hex _ _ ?_
          unfold symN
          split <;> omega
        · exact Nat.zero_le _
theorem isT_text {t : Tk} (h : isT t = true) : t.2.1.size ≤ 1000 := by
  unfold isT isTokB at h
  simp only [Bool.and_eq_true, decide_eq_true_eq] at h
  have h4 : (firstT (writT t.1 t.2.1)).2.1 = t.2.1 := by
    have h9 := h.2
    rw [Lib.toList_data, Lib.toList_data, beq_iff_eq] at h9
    exact ByteArray.ext (Array.toList_inj.1 h9)
  rw [← h4]
  exact firstT_text _
end Go.Proofs.YtegobakoflbnfaaDoor
