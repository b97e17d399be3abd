/- Decimal digits, read and written; the words of a prefix of a text. Plain arithmetic. -/
import Derived.Test.YtlkdahgfnfdakaaDig
namespace Go.Proofs.Ytlkdahgfnfdakaa
open WN

theorem snoc_ind {α : Type} {P : List α → Prop} (h0 : P []) (h1 : ∀ l c, P l → P (l ++ [c])) : ∀ l, P l := by
  have key : ∀ (n : Nat) (l : List α), l.length = n → P l := by
    intro n
    induction n with
    | zero => intro l hl; rw [List.length_eq_zero_iff.1 hl]; exact h0
    | succ n ih =>
      intro l hl
      have hne : l ≠ [] := by intro h; rw [h] at hl; simp at hl
      rw [← List.dropLast_concat_getLast hne]
      exact h1 _ _ (ih _ (by rw [List.length_dropLast, hl]; rfl))
  exact fun l => key _ l rfl
def isD (c : UInt8) : Bool := decide (48 ≤ c.toNat) && decide (c.toNat ≤ 57)
def dval (l : List UInt8) : Nat := l.foldl (fun a c => 10 * a + (c.toNat - 48)) 0
theorem dval_nil : dval [] = 0 := rfl
theorem dval_snoc (l : List UInt8) (c : UInt8) : dval (l ++ [c]) = 10 * dval l + (c.toNat - 48) := by simp [dval, List.foldl_append]
theorem dval_lt {l : List UInt8} (h : l.all isD = true) : dval l < 10 ^ l.length := by
  induction l using snoc_ind with
  | h0 => simp [dval]
  | h1 l c ih =>
    rw [List.all_append, Bool.and_eq_true] at h
    have h1 := ih h.1
    have h2 : isD c = true := by simpa using h.2
    simp only [isD, Bool.and_eq_true, decide_eq_true_eq] at h2
    rw [dval_snoc, List.length_append, List.length_singleton, Nat.pow_succ]
    omega

/-- the words of a number of which r digits more will come, P being that of those that came -/
def wdAt (P r a : Nat) : Nat := P / 10 ^ (max (9 * a) r - r) % 10 ^ (9 * a + 9 - max (9 * a) r)
def wd (P r W : Nat) : List Nat := (List.range W).map (wdAt P r)
theorem wd_length (P r W : Nat) : (wd P r W).length = W := by simp [wd]
theorem wd_get (P r W i : Nat) (h : i < W) : (wd P r W)[i]'(by rw [wd_length]; exact h) = wdAt P r i := by simp [wd]
theorem wd_zero (r W : Nat) : wd 0 r W = List.replicate W 0 := by
  apply List.ext_getElem
  · simp [wd]
  · intro i h1 h2
    rw [wd_length] at h1
    rw [wd_get _ _ _ _ h1]
    simp [wdAt]
theorem wdAt_cur {P r b : Nat} (h1 : 9 * b + 1 ≤ r) : wdAt P r b = P % 10 ^ (9 * b + 9 - r) := by
  unfold wdAt; rw [show max (9 * b) r = r from by omega, Nat.sub_self, Nat.pow_zero, Nat.div_one]
theorem wdAt_cur_lt {P r b : Nat} (h1 : 9 * b + 1 ≤ r) (h2 : r ≤ 9 * b + 9) : wdAt P r b < 100000000 := by
  rw [wdAt_cur h1]
  refine Nat.lt_of_lt_of_le (Nat.mod_lt _ (Nat.pow_pos (by omega))) ?_
  exact Nat.pow_le_pow_right (n := 10) (by omega) (show 9 * b + 9 - r ≤ 8 by omega)
theorem wd_step {P r W b d : Nat} (h1 : 9 * b + 1 ≤ r) (h2 : r ≤ 9 * b + 9) (hd : d ≤ 9) (hb : b < W) :
    wd (10 * P + d) (r - 1) W = (wd P r W).set b (wdAt P r b * 10 + d) := by
  apply List.ext_getElem
  · simp [wd]
  · intro i hi hi2
    rw [wd_length] at hi
    rw [wd_get _ _ _ _ hi, List.getElem_set]
    split
    · rename_i e
      subst e
      rw [wdAt_cur h1]
      have : wdAt (10 * P + d) (r - 1) b = (10 * P + d) % 10 ^ (9 * b + 9 - (r - 1)) := by
        unfold wdAt
        rw [show max (9 * b) (r - 1) = r - 1 from by omega, Nat.sub_self, Nat.pow_zero, Nat.div_one]
      rw [this, show 9 * b + 9 - (r - 1) = (9 * b + 9 - r) + 1 from by omega, Nat.pow_succ, Nat.mul_comm (10 ^ _) 10, Nat.mod_mul]
      rw [show (10 * P + d) % 10 = d from by omega, show (10 * P + d) / 10 = P from by omega]
      omega
    · rename_i e
      rw [wd_get _ _ _ _ hi]
      unfold wdAt
      rcases Nat.lt_or_ge b i with h | h
      · rw [show max (9 * i) (r - 1) = 9 * i from by omega, show max (9 * i) r = 9 * i from by omega]
        rw [show 9 * i - (r - 1) = (9 * i - r) + 1 from by omega, Nat.pow_succ, Nat.mul_comm (10 ^ _) 10, ← Nat.div_div_eq_div_mul, show (10 * P + d) / 10 = P from by omega]
      · rw [show 9 * i + 9 - max (9 * i) (r - 1) = 0 from by omega, show 9 * i + 9 - max (9 * i) r = 0 from by omega]
        simp [Nat.mod_one]
theorem wd_digs (P W : Nat) : Digs 1000000000 (wd P 0 W) := fun x hx => by
  obtain ⟨i, hi, rfl⟩ := List.getElem_of_mem hx
  rw [wd_length] at hi
  rw [wd_get _ _ _ _ hi]
  unfold wdAt
  rw [Nat.max_zero, Nat.sub_zero, Nat.add_sub_cancel_left]
  exact Nat.mod_lt _ (by omega)
theorem wd_val (P W : Nat) : val 1000000000 (wd P 0 W) = P % 10 ^ (9 * W) := by
  induction W with
  | zero => simp [wd, Nat.mod_one]
  | succ W ih =>
    have e : wd P 0 (W + 1) = wd P 0 W ++ [wdAt P 0 W] := by simp [wd, List.range_succ]
    rw [e, val_snoc, ih, wd_length, show (1000000000 : Nat) = 10 ^ 9 from rfl, ← Nat.pow_mul, show 9 * (W + 1) = 9 * W + 9 from by omega, Nat.pow_add, Nat.mod_mul]
    unfold wdAt
    rw [Nat.max_zero, Nat.sub_zero, Nat.add_sub_cancel_left]
theorem wd_canon {P W : Nat} (h1 : P < 10 ^ (9 * W)) (h2 : 10 ^ (9 * (W - 1)) ≤ P) (hW : 0 < W) : Canon 1000000000 (wd P 0 W) ∧ val 1000000000 (wd P 0 W) = P := by
  refine ⟨⟨wd_digs P W, ?_⟩, by rw [wd_val, Nat.mod_eq_of_lt h1]⟩
  obtain ⟨V, rfl⟩ : ∃ V, W = V + 1 := ⟨W - 1, by omega⟩
  have e : wd P 0 (V + 1) = wd P 0 V ++ [wdAt P 0 V] := by simp [wd, List.range_succ]
  rw [e]
  refine top_snoc ?_
  unfold wdAt
  rw [Nat.max_zero, Nat.sub_zero, Nat.add_sub_cancel_left]
  rw [Nat.add_sub_cancel] at h2
  have h3 : P / 10 ^ (9 * V) < 10 ^ 9 := by
    rw [Nat.div_lt_iff_lt_mul (Nat.pow_pos (by omega)), ← Nat.pow_add]
    rwa [show 9 + 9 * V = 9 * (V + 1) from by omega]
  rw [Nat.mod_eq_of_lt h3]
  have := Nat.div_pos h2 (Nat.pow_pos (by omega))
  omega

/-- the decimal digits of a number, none of 0 -/
def dec (n : Nat) : List UInt8 := if h : n = 0 then [] else dec (n / 10) ++ [UInt8.ofNat (48 + n % 10)]
termination_by n
decreasing_by omega
theorem dec_zero : dec 0 = [] := by rw [dec]; simp
theorem dec_pos {n : Nat} (h : n ≠ 0) : dec n = dec (n / 10) ++ [UInt8.ofNat (48 + n % 10)] := by rw [dec]; simp [h]
theorem dec_step {n d : Nat} (hd : d ≤ 9) (h : 10 * n + d ≠ 0) : dec (10 * n + d) = dec n ++ [UInt8.ofNat (48 + d)] := by
  rw [dec_pos h, show (10 * n + d) / 10 = n from by omega, show (10 * n + d) % 10 = d from by omega]
/-- how a number is written -/
def decT (n : Nat) : List UInt8 := if n = 0 then [48] else dec n

theorem digit_nat {d : Nat} (h : d ≤ 9) : (UInt8.ofNat (48 + d)).toNat = 48 + d := by
  rw [UInt8.toNat_ofNat']; exact Nat.mod_eq_of_lt (by omega)
theorem dec_all : ∀ (N n : Nat), n ≤ N → (dec n).all isD = true
  | 0, n, h => by obtain rfl : n = 0 := by omega
                  rw [dec_zero]; rfl
  | N + 1, n, h => by
    by_cases h0 : n = 0
    · subst h0; rw [dec_zero]; rfl
    · rw [dec_pos h0, List.all_append, dec_all N (n / 10) (by omega)]
      have := digit_nat (d := n % 10) (by omega)
      simp [isD, this]; omega
theorem dec_val : ∀ (N n : Nat), n ≤ N → dval (dec n) = n
  | 0, n, h => by obtain rfl : n = 0 := by omega
                  rw [dec_zero]; rfl
  | N + 1, n, h => by
    by_cases h0 : n = 0
    · subst h0; rw [dec_zero]; rfl
    · rw [dec_pos h0, dval_snoc, dec_val N (n / 10) (by omega), digit_nat (by omega)]
      omega
theorem dec_len : ∀ (N n : Nat), n ≤ N → n ≠ 0 → 1 ≤ (dec n).length ∧ n < 10 ^ (dec n).length ∧ 10 ^ ((dec n).length - 1) ≤ n
  | 0, n, h, h0 => by omega
  | N + 1, n, h, h0 => by
    rw [dec_pos h0, List.length_append, List.length_singleton]
    by_cases h1 : n / 10 = 0
    · rw [h1, dec_zero]; simp; omega
    · obtain ⟨g1, g2, g3⟩ := dec_len N (n / 10) (by omega) h1
      refine ⟨by omega, ?_, ?_⟩
      · rw [Nat.pow_succ]; omega
      · rw [Nat.add_sub_cancel]
        obtain ⟨k, hk⟩ : ∃ k, (dec (n / 10)).length = k + 1 := ⟨_, (by omega : _ = ((dec (n / 10)).length - 1) + 1)⟩
        rw [hk, Nat.add_sub_cancel] at g3
        rw [hk, Nat.pow_succ]; omega
theorem decT_len (n : Nat) : (decT n).length = Dig n := by
  unfold decT
  split
  · rename_i h; subst h; rw [dig_zero]; rfl
  · rename_i h
    obtain ⟨g1, g2, g3⟩ := dec_len n n (Nat.le_refl _) h
    exact (dig_eq g1 g2 g3).symm
theorem decT_val (n : Nat) : dval (decT n) = n := by
  unfold decT
  split
  · rename_i h; subst h; rfl
  · exact dec_val n n (Nat.le_refl _)
theorem decT_inj {n m : Nat} (h : decT n = decT m) : n = m := by rw [← decT_val n, h, decT_val]
theorem decT_all (n : Nat) : (decT n).all isD = true := by
  unfold decT
  split
  · rfl
  · exact dec_all n n (Nat.le_refl _)

/-- a text that is a number's: digits, no nought ahead, at most 300 -/
def goodD (l : List UInt8) : Bool := decide (1 ≤ l.length) && decide (l.length ≤ 300) && (decide (l.head? ≠ some 48) || decide (l.length = 1)) && l.all isD
theorem dec_head : ∀ (N n : Nat), n ≤ N → n ≠ 0 → (dec n).head? ≠ some 48
  | 0, n, h, h0 => by omega
  | N + 1, n, h, h0 => by
    rw [dec_pos h0]
    by_cases h1 : n / 10 = 0
    · rw [h1, dec_zero, List.nil_append, List.head?_cons]
      intro h2
      have h3 : UInt8.ofNat (48 + n % 10) = 48 := Option.some.inj h2
      have h4 := congrArg UInt8.toNat h3
      rw [digit_nat (by omega)] at h4
      have : (48 : UInt8).toNat = 48 := rfl
      omega
    · have := dec_len (n / 10) (n / 10) (Nat.le_refl _) h1
      have hh := dec_head N (n / 10) (by omega) h1
      cases hx : dec (n / 10) with
      | nil => rw [hx] at this; simp at this
      | cons x l => rw [hx] at hh; simpa using hh
theorem goodD_decT {n : Nat} (h : Dig n ≤ 300) : goodD (decT n) = true := by
  unfold goodD
  rw [decT_len, decT_all]
  have h1 := dig_pos n
  by_cases h0 : n = 0
  · subst h0; rw [dig_zero]; simp
  · have h2 : (decT n).head? ≠ some 48 := by unfold decT; rw [if_neg h0]; exact dec_head n n (Nat.le_refl _) h0
    simp [h, h1, h2]
theorem dec_of_digits : ∀ (l : List UInt8), l.all isD = true → l.head? ≠ some 48 → dec (dval l) = l ∧ (l ≠ [] → dval l ≠ 0) := by
  intro l
  induction l using snoc_ind with
  | h0 => intro _ _; exact ⟨by rw [dval_nil, dec_zero], fun h => absurd rfl h⟩
  | h1 l c ih =>
    intro h hh
    rw [List.all_append, Bool.and_eq_true] at h
    have h2 : isD c = true := by simpa using h.2
    simp only [isD, Bool.and_eq_true, decide_eq_true_eq] at h2
    have hc : UInt8.ofNat (48 + (c.toNat - 48)) = c := by
      rw [show 48 + (c.toNat - 48) = c.toNat from by omega]; exact UInt8.ofNat_toNat
    rw [dval_snoc]
    cases l with
    | nil =>
      have hc0 : c.toNat ≠ 48 := by
        intro h0; apply hh
        have : c = 48 := UInt8.toNat_inj.1 h0
        rw [this]; rfl
      have h0 : 10 * dval ([] : List UInt8) + (c.toNat - 48) ≠ 0 := by rw [dval_nil]; omega
      rw [dec_step (by omega) h0, hc, dval_nil, dec_zero]
      exact ⟨rfl, fun _ => by omega⟩
    | cons x l =>
      have hh' : (x :: l).head? ≠ some 48 := by simpa using hh
      obtain ⟨g1, g2⟩ := ih h.1 hh'
      have g3 := g2 (by simp)
      rw [dec_step (by omega) (by omega), hc, g1]
      exact ⟨rfl, fun _ => by omega⟩
theorem goodD_eq {l : List UInt8} (h : goodD l = true) : l = decT (dval l) ∧ Dig (dval l) ≤ 300 ∧ Dig (dval l) = l.length := by
  simp only [goodD, Bool.and_eq_true, Bool.or_eq_true, decide_eq_true_eq] at h
  obtain ⟨⟨⟨h1, h2⟩, h3⟩, h4⟩ := h
  have key : l = decT (dval l) := by
    by_cases hh : l.head? = some 48
    · have hl : l.length = 1 := by rcases h3 with h3 | h3; exact absurd hh h3; exact h3
      match l, hl with
      | [c], _ =>
        have : c = 48 := by simpa using hh
        subst this; rfl
    · obtain ⟨g1, g2⟩ := dec_of_digits l h4 hh
      have g3 := g2 (by intro h0; rw [h0] at h1; simp at h1)
      unfold decT
      rw [if_neg g3, g1]
  have e : Dig (dval l) = l.length := by rw [← decT_len, ← key]
  exact ⟨key, by omega, e⟩
end Go.Proofs.Ytlkdahgfnfdakaa
