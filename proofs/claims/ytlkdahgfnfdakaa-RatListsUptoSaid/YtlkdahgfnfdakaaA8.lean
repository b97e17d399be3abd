/- Decimal digits, read and written; the words of a prefix of a text. Plain arithmetic. -/
import Derived.Test.YtlkdahgfnfdakaaA3
import Derived.Test.YtlkdahgfnfdakaaA7
namespace Go.Proofs.Ytlkdahgfnfdakaa
open WN

theorem snoc_ind {α : Type} {P : List α → Prop} (h0 : P []) (h1 : ∀ l c, P l → P (l ++ [c])) : ∀ l, P l := by
  have key : ∀ (n : Nat) (l : List α), l.length = n → P l := by
    intro n
    induction n with
    | zero => intro l hl; rw [List.length_eq_zero_iff.1 hl]; exact h0
    | succ n ih =>
      intro l hl
      have hne : l ≠ [] := by intro h; rw [h] at hl; simp at hl
      rw [← List.dropLast_concat_getLast hne]
      exact h1 _ _ (ih _ (by rw [List.length_dropLast, hl]; rfl))
  exact fun l => key _ l rfl
def isD (c : UInt8) : Bool := decide (48 ≤ c.toNat) && decide (c.toNat ≤ 57)
def dval (l : List UInt8) : Nat := l.foldl (fun a c => 10 * a + (c.toNat - 48)) 0
theorem dval_nil : dval [] = 0 := rfl
theorem dval_snoc (l : List UInt8) (c : UInt8) : dval (l ++ [c]) = 10 * dval l + (c.toNat - 48) := by simp [dval, List.foldl_append]
theorem dval_lt {l : List UInt8} (h : l.all isD = true) : dval l < 10 ^ l.length := by
  induction l using snoc_ind with
  | h0 => simp [dval]
  | h1 l c ih =>
    rw [List.all_append, Bool.and_eq_true] at h
    have h1 := ih h.1
    have h2 : isD c = true := by simpa using h.2
    simp only [isD, Bool.and_eq_true, decide_eq_true_eq] at h2
    rw [dval_snoc, List.length_append, List.length_singleton, Nat.pow_succ]
    omega

/-- the words of a number of which r digits more will come, P being that of those that came -/
def wdAt (P r a : Nat) : Nat := P / 10 ^ (max (9 * a) r - r) % 10 ^ (9 * a + 9 - max (9 * a) r)
def wd (P r W : Nat) : List Nat := (List.range W).map (wdAt P r)
theorem wd_length (P r W : Nat) : (wd P r W).length = W := by simp [wd]
theorem wd_get (P r W i : Nat) (h : i < W) : (wd P r W)[i]'(by rw [wd_length]; exact h) = wdAt P r i := by simp [wd]
theorem wd_zero (r W : Nat) : wd 0 r W = List.replicate W 0 := by
  apply List.ext_getElem
  · simp [wd]
  · intro i h1 h2
    rw [wd_length] at h1
    rw [wd_get _ _ _ _ h1]
    simp [wdAt]
theorem wdAt_cur {P r b : Nat} (h1 : 9 * b + 1 ≤ r) : wdAt P r b = P % 10 ^ (9 * b + 9 - r) := by
  unfold wdAt; rw [show max (9 * b) r = r from by omega, Nat.sub_self, Nat.pow_zero, Nat.div_one]
theorem wdAt_cur_lt {P r b : Nat} (h1 : 9 * b + 1 ≤ r) (h2 : r ≤ 9 * b + 9) : wdAt P r b < 100000000 := by
  rw [wdAt_cur h1]
  refine Nat.lt_of_lt_of_le (Nat.mod_lt _ (Nat.pow_pos (by omega))) ?_
  exact Nat.pow_le_pow_right (n := 10) (by omega) (show 9 * b + 9 - r ≤ 8 by omega)
theorem wd_step {P r W b d : Nat} (h1 : 9 * b + 1 ≤ r) (h2 : r ≤ 9 * b + 9) (hd : d ≤ 9) (hb : b < W) :
    wd (10 * P + d) (r - 1) W = (wd P r W).set b (wdAt P r b * 10 + d) := by
  apply List.ext_getElem
  · simp [wd]
  · intro i hi hi2
    rw [wd_length] at hi
    rw [wd_get _ _ _ _ hi, List.getElem_set]
    split
    · rename_i e
      subst e
      rw [wdAt_cur h1]
      have : wdAt (10 * P + d) (r - 1) b = (10 * P + d) % 10 ^ (9 * b + 9 - (r - 1)) := by
        unfold wdAt
        rw [show max (9 * b) (r - 1) = r - 1 from by omega, Nat.sub_self, Nat.pow_zero, Nat.div_one]
      rw [this, show 9 * b + 9 - (r - 1) = (9 * b + 9 - r) + 1 from by omega, Nat.pow_succ, Nat.mul_comm (10 ^ _) 10, Nat.mod_mul]
      rw [show (10 * P + d) % 10 = d from by omega, show (10 * P + d) / 10 = P from by omega]
      omega
    · rename_i e
      rw [wd_get _ _ _ _ hi]
      unfold wdAt
      rcases Nat.lt_or_ge b i with h | h
      · rw [show max (9 * i) (r - 1) = 9 * i from by omega, show max (9 * i) r = 9 * i from by omega]
        rw [show 9 * i - (r - 1) = (9 * i - r) + 1 from by omega, Nat.pow_succ, Nat.mul_comm (10 ^ _) 10, ← Nat.div_div_eq_div_mul, show (10 * P + d) / 10 = P from by omega]
      · rw [show 9 * i + 9 - max (9 * i) (r - 1) = 0 from by omega, show 9 * i + 9 - max (9 * i) r = 0 from by omega]
        simp [Nat.mod_one]
theorem wd_digs (P W : Nat) : Digs 1000000000 (wd P 0 W) := fun x hx => by
  obtain ⟨i, hi, rfl⟩ := List.getElem_of_mem hx
  rw [wd_length] at hi
  rw [wd_get _ _ _ _ hi]
  unfold wdAt
  rw [Nat.max_zero, Nat.sub_zero, Nat.add_sub_cancel_left]
  exact Nat.mod_lt _ (by omega)
theorem wd_val (P W : Nat) : val 1000000000 (wd P 0 W) = P % 10 ^ (9 * W) := by
  induction W with
  | zero => simp [wd, Nat.mod_one]
  | succ W ih =>
    have e : wd P 0 (W + 1) = wd P 0 W ++ [wdAt P 0 W] := by simp [wd, List.range_succ]
    rw [e, val_snoc, ih, wd_length, show (1000000000 : Nat) = 10 ^ 9 from rfl, ← Nat.pow_mul, show 9 * (W + 1) = 9 * W + 9 from by omega, Nat.pow_add, Nat.mod_mul]
    unfold wdAt
    rw [Nat.max_zero, Nat.sub_zero, Nat.add_sub_cancel_left]
theorem wd_canon {P W : Nat} (h1 : P < 10 ^ (9 * W)) (h2 : 10 ^ (9 * (W - 1)) ≤ P) (hW : 0 < W) : Canon 1000000000 (wd P 0 W) ∧ val 1000000000 (wd P 0 W) = P := by
  refine ⟨⟨wd_digs P W, ?_⟩, by rw [wd_val, Nat.mod_eq_of_lt h1]⟩
  obtain ⟨V, rfl⟩ : ∃ V, W = V + 1 := ⟨W - 1, by omega⟩
  have e : wd P 0 (V + 1) = wd P 0 V ++ [wdAt P 0 V] := by simp [wd, List.range_succ]
  rw [e]
  refine top_snoc ?_
  unfold wdAt
  rw [Nat.max_zero, Nat.sub_zero, Nat.add_sub_cancel_left]
  rw [Nat.add_sub_cancel] at h2
  have h3 : P / 10 ^ (9 * V) < 10 ^ 9 := by
    rw [Nat.div_lt_iff_lt_mul (Nat.pow_pos (by omega)), ← Nat.pow_add]
    rwa [show 9 + 9 * V = 9 * (V + 1) from by omega]
  rw [Nat.mod_eq_of_lt h3]
  have := Nat.div_pos h2 (Nat.pow_pos (by omega))
  omega

/-- the decimal digits of a number, none of 0 -/
def dec (n : Nat) : List UInt8 := if h : n = 0 then [] else dec (n / 10) ++ [UInt8.ofNat (48 + n % 10)]
termination_by n
decreasing_by omega
theorem dec_zero : dec 0 = [] := by rw [dec]; simp
theorem dec_pos {n : Nat} (h : n ≠ 0) : dec n = dec (n / 10) ++ [UInt8.ofNat (48 + n % 10)] := by rw [dec]; simp [h]
theorem dec_step {n d : Nat} (hd : d ≤ 9) (h : 10 * n + d ≠ 0) : dec (10 * n + d) = dec n ++ [UInt8.ofNat (48 + d)] := by
  rw [dec_pos h, show (10 * n + d) / 10 = n from by omega, show (10 * n + d) % 10 = d from by omega]
/-- how a number is written -/
def decT (n : Nat) : List UInt8 := if n = 0 then [48] else dec n

theorem digit_nat {d : Nat} (h : d ≤ 9) : (UInt8.ofNat (48 + d)).toNat = 48 + d := by
  rw [UInt8.toNat_ofNat']; exact Nat.mod_eq_of_lt (by omega)
theorem dec_all : ∀ (N n : Nat), n ≤ N → (dec n).all isD = true
  | 0, n, h => by obtain rfl : n = 0 := by omega
                  rw [dec_zero]; rfl
  | N + 1, n, h => by
    by_cases h0 : n = 0
    · subst h0; rw [dec_zero]; rfl
    · rw [dec_pos h0, List.all_append, dec_all N (n / 10) (by omega)]
      have := digit_nat (d := n % 10) (by omega)
      simp [isD, this]; omega
theorem dec_val : ∀ (N n : Nat), n ≤ N → dval (dec n) = n
  | 0, n, h => by obtain rfl : n = 0 := by omega
                  rw [dec_zero]; rfl
  | N + 1, n, h => by
    by_cases h0 : n = 0
    · subst h0; rw [dec_zero]; rfl
    · rw [dec_pos h0, dval_snoc, dec_val N (n / 10) (by omega), digit_nat (by omega)]
      omega
theorem dec_len : ∀ (N n : Nat), n ≤ N → n ≠ 0 → 1 ≤ (dec n).length ∧ n < 10 ^ (dec n).length ∧ 10 ^ ((dec n).length - 1) ≤ n
  | 0, n, h, h0 => by omega
  | N + 1, n, h, h0 => by
    rw [dec_pos h0, List.length_append, List.length_singleton]
    by_cases h1 : n / 10 = 0
    · rw [h1, dec_zero]; simp; omega
    · obtain ⟨g1, g2, g3⟩ := dec_len N (n / 10) (by omega) h1
      refine ⟨by omega, ?_, ?_⟩
      · rw [Nat.pow_succ]; omega
      · rw [Nat.add_sub_cancel]
        obtain ⟨k, hk⟩ : ∃ k, (dec (n / 10)).length = k + 1 := ⟨_, (by omega : _ = ((dec (n / 10)).length - 1) + 1)⟩
        rw [hk, Nat.add_sub_cancel] at g3
        rw [hk, Nat.pow_succ]; omega
theorem decT_len (n : Nat) : (decT n).length = Dig n := by
  unfold decT
  split
  · rename_i h; subst h; rw [dig_zero]; rfl
  · rename_i h
    obtain ⟨g1, g2, g3⟩ := dec_len n n (Nat.le_refl _) h
    exact (dig_eq g1 g2 g3).symm
theorem decT_val (n : Nat) : dval (decT n) = n := by
  unfold decT
  split
  · rename_i h; subst h; rfl
  · exact dec_val n n (Nat.le_refl _)
theorem decT_inj {n m : Nat} (h : decT n = decT m) : n = m := by rw [← decT_val n, h, decT_val]
theorem decT_all (n : Nat) : (decT n).all isD = true := by
  unfold decT
  split
  · rfl
  · exact dec_all n n (Nat.le_refl _)

/-- a text that is a number's: digits, no nought ahead, at most 300 -/
def goodD (l : List UInt8) : Bool := decide (1 ≤ l.length) && decide (l.length ≤ 300) && (decide (l.head? ≠ some 48) || decide (l.length = 1)) && l.all isD
theorem dec_head : ∀ (N n : Nat), n ≤ N → n ≠ 0 → (dec n).head? ≠ some 48
  | 0, n, h, h0 => by omega
  | N + 1, n, h, h0 => by
    rw [dec_pos h0]
    by_cases h1 : n / 10 = 0
    · rw [h1, dec_zero, List.nil_append, List.head?_cons]
      intro h2
      have h3 : UInt8.ofNat (48 + n % 10) = 48 := Option.some.inj h2
      have h4 := congrArg UInt8.toNat h3
      rw [digit_nat (by omega)] at h4
      have : (48 : UInt8).toNat = 48 := rfl
      omega
    · have := dec_len (n / 10) (n / 10) (Nat.le_refl _) h1
      have hh := dec_head N (n / 10) (by omega) h1
      cases hx : dec (n / 10) with
      | nil => rw [hx] at this; simp at this
      | cons x l => rw [hx] at hh; simpa using hh
theorem goodD_decT {n : Nat} (h : Dig n ≤ 300) : goodD (decT n) = true := by
  unfold goodD
  rw [decT_len, decT_all]
  have h1 := dig_pos n
  by_cases h0 : n = 0
  · subst h0; rw [dig_zero]; simp
  · have h2 : (decT n).head? ≠ some 48 := by unfold decT; rw [if_neg h0]; exact dec_head n n (Nat.le_refl _) h0
    simp [h, h1, h2]
theorem dec_of_digits : ∀ (l : List UInt8), l.all isD = true → l.head? ≠ some 48 → dec (dval l) = l ∧ (l ≠ [] → dval l ≠ 0) := by
  intro l
  induction l using snoc_ind with
  | h0 => intro _ _; exact ⟨by rw [dval_nil, dec_zero], fun h => absurd rfl h⟩
  | h1 l c ih =>
    intro h hh
    rw [List.all_append, Bool.and_eq_true] at h
    have h2 : isD c = true := by simpa using h.2
    simp only [isD, Bool.and_eq_true, decide_eq_true_eq] at h2
    have hc : UInt8.ofNat (48 + (c.toNat - 48)) = c := by
      rw [show 48 + (c.toNat - 48) = c.toNat from by omega]; exact UInt8.ofNat_toNat
    rw [dval_snoc]
    cases l with
    | nil =>
      have hc0 : c.toNat ≠ 48 := by
        intro h0; apply hh
        have : c = 48 := UInt8.toNat_inj.1 h0
        rw [this]; rfl
      have h0 : 10 * dval ([] : List UInt8) + (c.toNat - 48) ≠ 0 := by rw [dval_nil]; omega
      rw [dec_step (by omega) h0, hc, dval_nil, dec_zero]
      exact ⟨rfl, fun _ => by omega⟩
    | cons x l =>
      have hh' : (x :: l).head? ≠ some 48 := by simpa using hh
      obtain ⟨g1, g2⟩ := ih h.1 hh'
      have g3 := g2 (by simp)
      rw [dec_step (by omega) (by omega), hc, g1]
      exact ⟨rfl, fun _ => by omega⟩
theorem goodD_eq {l : List UInt8} (h : goodD l = true) : l = decT (dval l) ∧ Dig (dval l) ≤ 300 ∧ Dig (dval l) = l.length := by
  simp only [goodD, Bool.and_eq_true, Bool.or_eq_true, decide_eq_true_eq] at h
  obtain ⟨⟨⟨h1, h2⟩, h3⟩, h4⟩ := h
  have key : l = decT (dval l) := by
    by_cases hh : l.head? = some 48
    · have hl : l.length = 1 := by rcases h3 with h3 | h3; exact absurd hh h3; exact h3
      match l, hl with
      | [c], _ =>
        have : c = 48 := by simpa using hh
        subst this; rfl
    · obtain ⟨g1, g2⟩ := dec_of_digits l h4 hh
      have g3 := g2 (by intro h0; rw [h0] at h1; simp at h1)
      unfold decT
      rw [if_neg g3, g1]
  have e : Dig (dval l) = l.length := by rw [← decT_len, ← key]
  exact ⟨key, by omega, e⟩
end Go.Proofs.Ytlkdahgfnfdakaa

namespace Go.Proofs.Ytlkdahgfnfdakaa
open Go.RowKit WN LM

/-- what fromDigits returns -/
def FromD (w : World) (l : List UInt8) (e : Ending) (w' : World) : Prop :=
  ∃ v, e = .returned (.tuple #[v, .bool (goodD l)]) ∧ Below w.heap.size w w' ∧ (goodD l = true → Num w' v (dval l)) ∧ (goodD l = false → v = .slice none 0 0)

def FromI (l : List UInt8) (w : World) (i : Nat) (W : World) : Prop :=
  Row W w.heap.size .u32 117 (wd (dval (l.take i)) (l.length - i) ((l.length + 8) / 9)) ∧ (l.take i).all isD = true ∧ Below w.heap.size w W
theorem dec_lower {n : Nat} (h : n ≠ 0) : 10 ^ (Dig n - 1) ≤ n := by
  have := dec_len n n (Nat.le_refl _) h
  have e : Dig n = (dec n).length := by rw [← decT_len]; unfold decT; rw [if_neg h]
  rw [e]; exact this.2.2
theorem FromI.last {l : List UInt8} {w W : World} {g : Nat} (hg : goodD l = true) (hh : l.head? ≠ some 48) (h : FromI l w l.length W) (he : g = (l.length + 8) / 9) :
    Num W (.slice (some ⟨w.heap.size, 0, none⟩) g g) (dval l) := by
  obtain ⟨hr, ha, hb⟩ := h
  rw [List.take_length, Nat.sub_self, ← he] at hr
  obtain ⟨g1, g2, g3⟩ := goodD_eq hg
  have h0 : dval l ≠ 0 := by
    intro h0
    apply hh
    rw [g1, h0]; rfl
  have h1 := lt_dig (dval l)
  have h2 := dec_lower h0
  have h3 := dig_pos (dval l)
  have hc := wd_canon (P := dval l) (W := g) (Nat.lt_of_lt_of_le h1 (Nat.pow_le_pow_right (by omega) (by omega))) (Nat.le_trans (Nat.pow_le_pow_right (by omega) (by omega)) h2) (by omega)
  refine ⟨_, ?_, hc.1, hc.2⟩
  have := Rep.rowAll hr g (by rw [wd_length]; exact Nat.le_refl _)
  rwa [wd_length] at this
theorem FromI.step {l : List UInt8} {w W : World} {i : Nat} (h : FromI l w i W) (hi : i < l.length) (c : UInt8) (hc : l[i]? = some c) (hd : isD c = true) (hl : l.length ≤ 300) :
    FromI l w (i + 1) (W.setCell ⟨w.heap.size, (l.length - 1 - i) / 9, none⟩ (.int .u32 ((wdAt (dval (l.take i)) (l.length - i) ((l.length - 1 - i) / 9) * 10 + (c.toNat - 48) : Nat)))) := by
  obtain ⟨hr, ha, hb⟩ := h
  have e : l.take (i + 1) = l.take i ++ [c] := by
    rw [List.take_add_one, hc]; rfl
  have hd' := hd
  simp only [isD, Bool.and_eq_true, decide_eq_true_eq] at hd'
  refine ⟨?_, ?_, hb.setCell (p := ⟨w.heap.size, _, none⟩) (Nat.le_refl _) _⟩
  · rw [e, dval_snoc, show l.length - (i + 1) = l.length - i - 1 from by omega, wd_step (b := (l.length - 1 - i) / 9) (by omega) (by omega) (by omega) (by omega)]
    exact hr.set _ _
  · rw [e, List.all_append, ha]; simp [hd]
theorem FromD.no {w w' : World} {l : List UInt8} (h : goodD l = false) (hb : Below w.heap.size w w') : FromD w l (.returned (.tuple #[.slice none 0 0, .bool false])) w' :=
  ⟨_, by rw [h], hb, fun h' => by (rw [h] at h'; cases h'), fun _ => rfl⟩


set_option maxHeartbeats 4000000 in
set_option maxRecDepth 100000 in
theorem fromDigits_num (s : ByteArray) (w : World) (hs : s.size ≤ 140737488355328) : Calls Try.prog 105 #[.string s] w (FromD w s.data.toList) := by
  have hmk := fun w => make_words w (((s.size : Int) + 9 - 1).tdiv 9) (((s.size : Int) + 9 - 1).tdiv 9)
  have hlen : s.data.toList.length = s.size := by simp
  by_cases h2 : 1 ≤ s.size
  · have e0 : ((s.size : Int) == 0) = false := by rw [beq_eq_false_iff_ne]; omega
    by_cases h3 : s.size ≤ 300
    · have e1 : decide ((300 : Int) < (s.size : Int)) = false := by simp; omega
      have hh : s.data.toList.head? = some s[0] := by
        rw [List.head?_eq_getElem?, List.getElem?_eq_getElem (by omega)]; rfl
      by_cases h0 : s[0] = 48
      · have e2 : ((s[0].toNat : Int) == 48) = true := by rw [h0]; rfl
        have hg : goodD s.data.toList = decide (s.size = 1) := by
          unfold goodD; rw [hlen, hh, h0]
          by_cases h4 : s.size = 1
          · have : s.data.toList = [48] := by
              match hx : s.data.toList, hlen with
              | [c], _ => rw [hx] at hh; rw [h0] at hh; simpa using hh
              | [], h => simp at h; omega
              | a :: b :: l, h => simp at h; omega
            rw [this]; simp [h4, isD]
          · simp [h4]
        have Hg := Lib.hid hg
        have HH : Hid (s.data.toList.head? = some 48) := by show _ = _; rw [hh, h0]
        clear hg hh h0 hlen hmk
        have e4 : ((s.size : Int) == 1) = decide (s.size = 1) := by rw [Bool.eq_iff_iff]; simp; omega
        go_enter Try.func105, Try.ntmps105
        go_wp2
        go_ret2
        exact ⟨_, by rw [Hg.out]; rfl, Below.refl _ _, fun h => by
          have h4 : s.size = 1 := by have := Hg.out; rw [h] at this; simpa using this.symm
          have h5 := (goodD_eq h)
          have h6 : dval s.data.toList = 0 := by
            have : s.data.toList = [48] := by
              match hx : s.data.toList, (show s.data.toList.length = 1 by simpa using h4) with
              | [c], _ => have := HH.out; rw [hx] at this; simpa using this
            rw [this]; rfl
          rw [h6]; exact Num.nil _, fun _ => rfl⟩
      · have hne : s[0].toNat ≠ 48 := fun h => h0 (UInt8.toNat_inj.1 h)
        have e2 : ((s[0].toNat : Int) == 48) = false := by rw [beq_eq_false_iff_ne]; omega
        have hg : goodD s.data.toList = s.data.toList.all isD := by
          unfold goodD; rw [hlen, hh]
          have : decide (some s[0] ≠ some 48) = true := by simp [h0]
          simp [h2, h3, h0]
        have hh' := Lib.hid hh; have H0 := Lib.hid h0
        have Hg := Lib.hid hg
        have HL := Lib.hid hlen
        obtain ⟨W, hW⟩ : ∃ W, W = (s.size + 8) / 9 := ⟨_, rfl⟩
        have hq : ((s.size : Int) + 9 - 1) / 9 = (W : Int) := by omega
        have hmk := fun w => make_words w (W : Int) (W : Int) (by omega) (by omega) (by omega)
        simp only [Int.toNat_natCast] at hmk
        have HW := Lib.hid hW
        clear hg hh h0 hlen hne hW
        go_enter Try.func105, Try.ntmps105
        go_wp2
        have HR := Lib.hid (Row.new w .u32 117 (List.replicate W 0))
        have HB := Lib.hid ((Below.refl _ w).alloc (Nat.le_refl _) (.cells (ns .u32 (List.replicate W 0)) 117))
        generalize w.alloc (.cells (ns .u32 (List.replicate W 0)) 117) = w1 at *
        clear hmk hq
        go_loopw [30] (fun vi wr => ∃ i : Nat, i ≤ s.size ∧ vi = .int .i64 i ∧ FromI s.data.toList w i wr) (fun vi _ => s.size - (intOf vi).toNat)
        case atStart =>
          refine ⟨0, Nat.zero_le _, rfl, ?_, rfl, HB.out⟩
          rw [List.take_zero, dval_nil, wd_zero, HL.out, ← HW.out]; exact HR.out
        case round =>
          clear HR HB
          obtain ⟨i, hi, rfl, hinv⟩ := hrel
          have Inv := Lib.hid hinv; clear hinv
          by_cases hlt : i < s.size
          · have hgi : s.data.toList[i]? = some s[i] := by rw [List.getElem?_eq_getElem (by rw [HL.out]; exact hlt)]; rfl
            by_cases hd : isD s[i] = true
            · have HD := Lib.hid hd
              have hd' := hd
              simp only [isD, Bool.and_eq_true, decide_eq_true_eq] at hd'
              obtain ⟨hc1, hc2⟩ := hd'
              have d1 : decide ((s[i].toNat : Int) < 48) = false := by simp; omega
              have d2 : decide ((57 : Int) < (s[i].toNat : Int)) = false := by simp; omega
              obtain ⟨b, hb⟩ : ∃ b, b = (s.size - 1 - i) / 9 := ⟨_, rfl⟩
              have hqi : ((s.size : Int) - 1 - (i : Int)) / 9 = (b : Int) := by omega
              have hbW : b < W := by have := HW.out; omega
              have hx : wdAt (dval (s.data.toList.take i)) (s.data.toList.length - i) b < 100000000 := wdAt_cur_lt (by rw [HL.out]; omega) (by rw [HL.out]; omega)
              have c0 := Inv.out.1.cell b (by rw [wd_length, HL.out]; have := HW.out; omega)
              rw [wd_get _ _ _ _ (by rw [HL.out]; have := HW.out; omega)] at c0
              have f0 := Inv.out.1.free b
              have HS := Lib.hid (FromI.step Inv.out (by rw [HL.out]; exact hlt) s[i] hgi hd (by rw [HL.out]; exact h3))
              rw [HL.out, ← hb] at HS
              rw [HL.out] at c0 hx
              have hc1' : (48 : Int) ≤ (s[i].toNat : Int) := by omega
              have hc2' : (s[i].toNat : Int) ≤ 57 := by omega
              have he : (((wdAt (dval (s.data.toList.take i)) (s.size - i) b * 10 + (s[i].toNat - 48) : Nat)) : Int) = (wdAt (dval (s.data.toList.take i)) (s.size - i) b : Int) * 10 + ((s[i].toNat : Int) - 48) := by omega
              rw [he] at HS
              clear he
              generalize wdAt (dval (s.data.toList.take i)) (s.size - i) b = x at *
              have HBE := Lib.hid hb
              clear hd hgi hc1 hc2 Inv hb
              go_wp2
              go_roundw
              case rel => exact ⟨i + 1, hlt, by go_num, HS.out⟩
              case measure => simp [intOf]; omega
            · have hgo : goodD s.data.toList = false := by
                rw [Hg.out, List.all_eq_false]
                exact ⟨s[i], List.mem_of_getElem? hgi, hd⟩
              have Hgo := Lib.hid hgo
              have hnd : (s[i].toNat < 48) ∨ (57 < s[i].toNat) := by
                simp only [isD, Bool.and_eq_true, decide_eq_true_eq] at hd; omega
              clear hd hgi hgo
              by_cases h5 : s[i].toNat < 48
              · have d1 : decide ((s[i].toNat : Int) < 48) = true := by simp; omega
                clear h5 hnd
                go_wp2
                go_ret2
                exact FromD.no Hgo.out Inv.out.2.2
              · have d1 : decide ((s[i].toNat : Int) < 48) = false := by simp; omega
                have d2 : decide ((57 : Int) < (s[i].toNat : Int)) = true := by simp; omega
                clear h5 hnd
                go_wp2
                go_ret2
                exact FromD.no Hgo.out Inv.out.2.2
          · obtain rfl : i = s.size := by omega
            go_wp2
            go_ret2
            have ha : goodD s.data.toList = true := by
              have := Inv.out.2.1
              rw [List.take_of_length_le (by rw [HL.out]; exact Nat.le_refl _)] at this
              rw [Hg.out, this]
            have hI : FromI s.data.toList w s.data.toList.length wr := by rw [HL.out]; exact Inv.out
            exact ⟨_, by rw [ha]; rfl, Inv.out.2.2, fun _ => FromI.last ha (by rw [hh'.out]; intro h; exact H0.out (Option.some.inj h)) hI (by rw [HL.out]; exact HW.out), fun h => by (rw [ha] at h; cases h)⟩
    · have e1 : decide ((300 : Int) < (s.size : Int)) = true := by simp; omega
      have hg : goodD s.data.toList = false := by unfold goodD; rw [hlen]; simp [h3]
      have Hg := Lib.hid hg; clear hg hlen hmk
      go_enter Try.func105, Try.ntmps105
      go_wp2
      go_ret2
      exact FromD.no Hg.out (Below.refl _ _)
  · have e0 : ((s.size : Int) == 0) = true := by rw [beq_iff_eq]; omega
    have hg : goodD s.data.toList = false := by unfold goodD; rw [hlen]; simp [h2]
    have Hg := Lib.hid hg; clear hg hlen hmk
    go_enter Try.func105, Try.ntmps105
    go_wp2
    go_ret2
    exact FromD.no Hg.out (Below.refl _ _)
end Go.Proofs.Ytlkdahgfnfdakaa

namespace Go.Proofs.Ytlkdahgfnfdakaa
open Go.RowKit Go.Shelf WN LM
attribute [local go_sem] Oper.semAt_some

/-- bytes in cells -/
def bv (l : List UInt8) : List Value := l.map fun c => .int .u8 (c.toNat : Int)
theorem bv_append (l m : List UInt8) : bv (l ++ m) = bv l ++ bv m := by simp [bv]
theorem bv_length (l : List UInt8) : (bv l).length = l.length := by simp [bv]
/-- v is a row of the call's own, that holds the bytes l -/
def Bytes (w : World) (base : Nat) (v : Value) (l : List UInt8) : Prop := w.ownsRow base 5 1 v l.length (bv l)
theorem Bytes.nil (w : World) (base : Nat) : Bytes w base (.slice none 0 0) [] := World.ownsRow_nil _ _ _ _
theorem Bytes.turn {B base : Nat} {W W' : World} {v : Value} {l : List UInt8} (h : Bytes W base v l) (t : Turn B W W') : Bytes W' base v l := by
  refine ⟨h.1, h.2.imp id ?_⟩
  rintro ⟨g, cap, cur, h1, h2, h3, h4⟩
  exact ⟨g, cap, cur, h1, h2, t.cells _ _ _ _ h3, h4⟩
/-- a variable's box is none of the row's blocks, its type being another -/
theorem Bytes.far {W : World} {base : Nat} {v : Value} {l : List UInt8} (h : Bytes W base v l) {B t : Nat} {u : Value} (hb : Box W B t u) (ht : t ≠ 5) : ∀ g, v.ownBlock = some g → B ≠ g := by
  rintro g hg rfl
  rcases h.2 with ⟨rfl, _⟩ | ⟨g', cap, cur, rfl, _, h3, _⟩
  · cases hg
  · simp [Value.ownBlock] at hg
    subst hg
    rw [hb] at h3
    cases h3
    exact ht rfl
theorem Bytes.set {W : World} {base : Nat} {v : Value} {l : List UInt8} (h : Bytes W base v l) {B t : Nat} {u x : Value} (hb : Box W B t u) (ht : t ≠ 5) : Bytes (W.setCell ⟨B, 0, none⟩ x) base v l := by
  refine ⟨h.1, h.2.imp id ?_⟩
  rintro ⟨g, cap, cur, h1, h2, h3, h4⟩
  refine ⟨g, cap, cur, h1, h2, ?_, h4⟩
  rw [heap_setCell_other _ _ _ _ ?_]
  · exact h3
  · intro e
    exact h.far hb ht g (by subst h1; rfl) e.symm
theorem Bytes.block_ge {W : World} {base : Nat} {v : Value} {l : List UInt8} (h : Bytes W base v l) : ∀ g, v.ownBlock = some g → base ≤ g ∧ g < W.heap.size := by
  intro g hg
  rcases h.2 with ⟨rfl, _⟩ | ⟨g', cap, cur, rfl, h2, h3, _⟩
  · cases hg
  · simp [Value.ownBlock] at hg
    subst hg
    exact ⟨h2, lt_of_block h3⟩
theorem Bytes.shape {W : World} {base : Nat} {v : Value} {l : List UInt8} (h : Bytes W base v l) : ∃ o c, v = .slice o l.length c := by
  rcases h.2 with ⟨rfl, h0⟩ | ⟨g', cap, cur, rfl, _⟩
  · exact ⟨none, 0, by rw [h0]⟩
  · exact ⟨_, _, rfl⟩
theorem Bytes.cells {W : World} {base : Nat} {v : Value} {l : List UInt8} (h : Bytes W base v l) : ∀ (j : Nat) (o : Obj), v.ownBlock = some j → W.heap[j]? = some o → o.isCells = true := by
  intro j o hj ho
  rcases h.2 with ⟨rfl, _⟩ | ⟨g', cap, cur, rfl, _, h3, _⟩
  · cases hj
  · simp [Value.ownBlock] at hj
    subst hj
    rw [h3] at ho
    cases ho; rfl
/-- appendTo, k words over -/
def AppI (w : World) (base : Nat) (va : Value) (t : List UInt8) (N : Nat) (W : World) : Prop :=
  ∃ v, Box W w.heap.size 92 v ∧ Box W (w.heap.size + 1) 4 (.bool (decide (N = 0))) ∧ Box W (w.heap.size + 2) 53 va ∧ Bytes W base v (t ++ dec N) ∧ Below base w W

theorem dec_length_le {n k : Nat} (hk : 1 ≤ k) (h : n < 10 ^ k) : (dec n).length ≤ k := by
  have := dig_le hk h
  rw [← decT_len] at this
  unfold decT at this
  split at this
  · rename_i h0; rw [h0, dec_zero]; simp
  · exact this
theorem prefix_lt {V y k j : Nat} (hV : V < 1000000000 ^ k) (hy : y < 1000000000) (hj : j ≤ 9) : V * 10 ^ (9 - j) + y / 10 ^ j < 10 ^ (9 * k + 9) := by
  have h1 : V * 10 ^ (9 - j) ≤ V * 10 ^ 9 := Nat.mul_le_mul_left _ (Nat.pow_le_pow_right (by omega) (by omega))
  have h2 : y / 10 ^ j ≤ y := Nat.div_le_self _ _
  have h3 : (V + 1) * 10 ^ 9 ≤ 1000000000 ^ k * 10 ^ 9 := Nat.mul_le_mul_right _ hV
  rw [show (1000000000 : Nat) = 10 ^ 9 from rfl, ← Nat.pow_mul, ← Nat.pow_add, Nat.add_mul, Nat.one_mul] at h3
  have h4 : (10 : Nat) ^ 9 = 1000000000 := rfl
  omega
theorem prefix_step {V y m : Nat} (hm : m < 9) : V * 10 ^ (9 - m) + y / 10 ^ m = 10 * (V * 10 ^ (9 - (m + 1)) + y / 10 ^ (m + 1)) + y / 10 ^ m % 10 := by
  obtain ⟨q, hq⟩ : ∃ q, 9 - m = q + 1 := ⟨9 - m - 1, by omega⟩
  rw [hq, show 9 - (m + 1) = q from by omega, Nat.pow_succ, Nat.pow_succ, ← Nat.div_div_eq_div_mul]
  have := Nat.div_add_mod (y / 10 ^ m) 10
  have e : V * (10 ^ q * 10) = 10 * (V * 10 ^ q) := by rw [← Nat.mul_assoc, Nat.mul_comm]
  omega
/-- what an appended byte leaves: the variables' boxes, the row longer -/
theorem append_after {w W W1 : World} {base N dg : Nat} {va v v' : Value} {t : List UInt8} {lead : Value} (hB1 : Box W w.heap.size 92 v) (hB2 : Box W (w.heap.size + 1) 4 lead) (hB3 : Box W (w.heap.size + 2) 53 va) (hb : Below base w W) (h4 : Bytes W base v (t ++ dec N))
    (hown : W1.ownsRow base 5 1 v' ((t ++ dec N).length + 1) (bv (t ++ dec N) ++ bv [UInt8.ofNat (48 + dg)])) (hgr : ((W.setCell ⟨w.heap.size + 1, 0, none⟩ (.bool false)).alloc (.cells #[.int .u8 (48 + (dg : Int))] 5)).grownBy W1 v.ownBlock)
    (hdg : dg ≤ 9) (hN : 10 * N + dg ≠ 0) (hbw : base ≤ w.heap.size) :
    ∃ o k c, v' = .slice o k c ∧ Box W1 w.heap.size 92 v ∧ AppI w base va t (10 * N + dg) (W1.setCell ⟨w.heap.size, 0, none⟩ v') ∧ KeepsOthers W (W1.setCell ⟨w.heap.size, 0, none⟩ v') := by
  have hd := dec_step hdg hN
  have e1 : t ++ dec (10 * N + dg) = (t ++ dec N) ++ [UInt8.ofNat (48 + dg)] := by rw [hd, List.append_assoc]
  have hbytes : Bytes W1 base v' (t ++ dec (10 * N + dg)) := by
    unfold Bytes
    rw [e1, bv_append, List.length_append]
    exact hown
  obtain ⟨o, c, rfl⟩ := hbytes.shape
  have hne : ∀ {B tt : Nat} {u : Value}, Box W B tt u → tt ≠ 5 → some B ≠ v.ownBlock := fun hB ht e => h4.far hB ht _ e.symm rfl
  have hsz : W.heap.size < ((W.setCell ⟨w.heap.size + 1, 0, none⟩ (.bool false)).alloc (.cells #[.int .u8 (48 + (dg : Int))] 5)).heap.size := by simp
  have keep : ∀ {B tt : Nat} {u : Value}, Box W B tt u → tt ≠ 5 → B ≠ w.heap.size + 1 → Box W1 B tt u := fun hB ht hn => by
    unfold Box
    rw [hgr.block _ (Nat.lt_trans hB.lt hsz) (hne hB ht)]
    exact (hB.other ⟨w.heap.size + 1, 0, none⟩ (.bool false) hn).alloc _
  have k1 := keep hB1 (by decide) (by omega)
  have k3 := keep hB3 (by decide) (by omega)
  have k2 : Box W1 (w.heap.size + 1) 4 (.bool false) := by
    unfold Box
    rw [hgr.block _ (Nat.lt_trans hB2.lt hsz) (hne hB2 (by decide))]
    exact (hB2.set (.bool false)).alloc _
  have hbel : Below base w W1 := ((hb.setCell (p := ⟨w.heap.size + 1, 0, none⟩) (by show base ≤ w.heap.size + 1; omega) _).alloc (by simp; have := hb.size; omega) _).grown hgr (by have := hb.size; simp; omega) (fun g hg => (h4.block_ge g hg).1)
  refine ⟨o, _, c, rfl, k1, ⟨_, k1.set _, ?_, k3.other _ _ (by simp), ?_, hbel.setCell (p := ⟨w.heap.size, 0, none⟩) hbw _⟩, ?_⟩
  · rw [show decide (10 * N + dg = 0) = false from by simpa using hN]; exact k2.other _ _ (by simp)
  · exact hbytes.set k1 (by decide)
  · refine KeepsOthers.trans (KeepsOthers.trans (KeepsOthers.trans (KeepsOthers.setCell _ _ _) (KeepsOthers.alloc _ _)) (KeepsOthers.of_grownBy hgr ?_)) (KeepsOthers.setCell _ _ _)
    have hb' : Bytes ((W.setCell ⟨w.heap.size + 1, 0, none⟩ (.bool false)).alloc (.cells #[.int .u8 (48 + (dg : Int))] 5)) base v (t ++ dec N) := World.ownsRow.alloc (h4.set hB2 (by decide)) _
    exact hb'.cells
theorem one_byte (W : World) (dg : Nat) (h : dg ≤ 9) : ∀ j u, (bv [UInt8.ofNat (48 + dg)])[j]? = some u → (W.alloc (.cells #[.int .u8 (48 + (dg : Int))] 5)).cell? ((⟨W.heap.size, 0, none⟩ : Addr).add j) = some u := by
  intro j u hu
  have e : bv [UInt8.ofNat (48 + dg)] = [.int .u8 (48 + (dg : Int))] := by
    show [Value.int .u8 ((UInt8.ofNat (48 + dg)).toNat : Int)] = _
    rw [digit_nat h, Int.natCast_add]; rfl
  rw [e] at hu
  match j, hu with
  | 0, hu =>
    simp only [List.getElem?_cons_zero, Option.some.injEq] at hu
    subst hu
    exact cell_of_one (heap_alloc_new W _)
theorem Try.info5' : (Try.prog.info? 5).map (fun i => (i.zero, i.size, i.bytes)) = some (some (.int .u8 0), 1, 1) := Try.info5

set_option maxRecDepth 100000 in
set_option maxHeartbeats 4000000 in
theorem appendTo_any {w0 w : World} {base : Nat} {v : Value} {t : List UInt8} (oa : Option Addr) (l : List Nat) (n cap : Nat) (hlen : n ≤ 1000) (hd : Canon 1000000000 l) (hr : Rep w0 .u32 (.slice oa n cap) l) (hb : Below w0.heap.size w0 w) (hb0 : w0.heap.size ≤ base) (hb1 : base ≤ w.heap.size)
    (ht : Bytes w base v t) (htl : t.length ≤ 1000000) (h0 : 0 < n) :
    Calls Try.prog 100 #[.slice oa n cap, v] w fun e w' => ∃ v', e = .returned v' ∧ Bytes w' base v' (t ++ dec (val 1000000000 l)) ∧ Below base w w' := by
  obtain ⟨rfl, _⟩ := hr.len
  obtain ⟨oT, cT, rfl⟩ := ht.shape
  have HT := Lib.hid ht; clear ht
  have Hr := Lib.hid hr; clear hr
  have Hd := Lib.hid hd; clear hd
  have hl0 : ((l.length : Int) == 0) = false := by rw [beq_eq_false_iff_ne]; omega
  refine (callsIn_wide (n := 5)).1 ?_
  refine callsIn_of_wp_marks Try.func100 rfl trivial ?_ rfl
  simp only [Try.ntmps100, List.size_toArray, List.length_cons, List.length_nil, Nat.reduceAdd, Nat.reduceSub, Array.replicate_succ, Array.replicate_zero, List.push_toArray, List.append_toArray, List.nil_append, List.cons_append]
  gi_wp2_with (refine ⟨trivial, ?_⟩; gi_at_call 129; refine (callsIn_wide.2 (down_any _ _ _ _)).mono ?_; rintro e w' ⟨rfl, rfl⟩)
  have b1 : Box (((w.alloc (.cells #[.slice oT t.length cT] 92)).alloc (.cells #[.bool true] 4)).alloc (.cells #[.slice oa l.length cap] 53)) w.heap.size 92 (.slice oT t.length cT) := ((Box.new w 92 _).alloc _).alloc _
  have b2 : Box (((w.alloc (.cells #[.slice oT t.length cT] 92)).alloc (.cells #[.bool true] 4)).alloc (.cells #[.slice oa l.length cap] 53)) (w.heap.size + 1) 4 (.bool true) := by
    have := (Box.new (w.alloc (.cells #[.slice oT t.length cT] 92)) 4 (.bool true)).alloc (.cells #[.slice oa l.length cap] 53); rw [World.size_alloc] at this; exact this
  have b3 : Box (((w.alloc (.cells #[.slice oT t.length cT] 92)).alloc (.cells #[.bool true] 4)).alloc (.cells #[.slice oa l.length cap] 53)) (w.heap.size + 2) 53 (.slice oa l.length cap) := by
    have := Box.new ((w.alloc (.cells #[.slice oT t.length cT] 92)).alloc (.cells #[.bool true] 4)) 53 (.slice oa l.length cap); rw [World.size_alloc, World.size_alloc] at this; exact this
  have b4 : Below base w (((w.alloc (.cells #[.slice oT t.length cT] 92)).alloc (.cells #[.bool true] 4)).alloc (.cells #[.slice oa l.length cap] 53)) := (((Below.refl _ w).alloc hb1 _).alloc (by simp; omega) _).alloc (by simp; omega) _
  have hsz : (((w.alloc (.cells #[.slice oT t.length cT] 92)).alloc (.cells #[.bool true] 4)).alloc (.cells #[.slice oa l.length cap] 53)).heap.size = w.heap.size + 1 + 1 + 1 := by simp
  have ht1 : Bytes (((w.alloc (.cells #[.slice oT t.length cT] 92)).alloc (.cells #[.bool true] 4)).alloc (.cells #[.slice oa l.length cap] 53)) base (.slice oT t.length cT) t := ((World.ownsRow.alloc HT.out _).alloc _).alloc _
  generalize (((w.alloc (.cells #[.slice oT t.length cT] 92)).alloc (.cells #[.bool true] 4)).alloc (.cells #[.slice oa l.length cap] 53)) = W0 at *
  refine wpIn_down 5 (w.heap.size + 1 + 1) oa l.length cap (by omega) rfl rfl (fun k W => AppI w base (.slice oa l.length cap) t (val 1000000000 (l.drop (l.length - k))) W) (fun _ _ => False) ?hI ?hIx ?hRd ⟨_, b1, by simpa using b2, b3, by simpa [dec_zero] using ht1, b4⟩
    (fun k x => { tmps := #[.slice oa l.length cap, .slice oT t.length cT, undef, .pointer (some ⟨w.heap.size, 0, none⟩), .slice none 0 0, .pointer (some ⟨w.heap.size + 1, 0, none⟩), undef, .int .u32 x, undef, undef, .slice oa l.length cap, .int .i64 l.length, .bool false, undef, undef, undef, .slice oa l.length cap,
      .func (.func 136) #[] #[.pointer (some ⟨w.heap.size + 1 + 1, 0, none⟩)], .int .i64 ((l.length - 1 - k : Nat) : Int), .int .u32 x, undef, undef, undef, undef, undef, undef, undef, undef, undef, undef, undef, undef, undef, undef, undef, undef, undef, undef, undef, undef, undef, undef], defers := [] }) ?assign ?body ?done ?stop
  case hI => exact fun k W W' ⟨v, h1, h2, h3, h4, h5⟩ t => ⟨v, h1.turn t, h2.turn t, h3.turn t, h4.turn t, h5.trans (t.below.mono (by omega))⟩
  case hIx => exact fun c W W' h t => h
  case hRd => exact fun k W ⟨v, h1, h2, h3, h4, h5⟩ => Hr.out.reads (hb.trans (h5.mono hb0)) h3 k
  case assign =>
    intro _ k x W K hK
    gi_wp2
    exact hK
  case body =>
    rintro _ k b off x W ⟨v, h1, h2, h3, h4, h5⟩ hk hoa hx
    obtain ⟨y, hy, rfl⟩ := Hr.out.word (hb.trans (h5.mono hb0)) hk hoa hx
    have hy9 : y < 1000000000 := Hd.out.1 y (List.mem_of_getElem? hy)
    have hv := Lib.hid (val_drop_next (B := 1000000000) hk hy)
    generalize hV : val 1000000000 (l.drop (l.length - k)) = V at *
    have Hk := Lib.hid hk
    clear hy hx hoa
    have HI : Hid (AppI w base (.slice oa l.length cap) t V W) := ⟨v, h1, h2, h3, h4, h5⟩
    clear h1 h2 h3 h4 h5
    have hVl : V < 1000000000 ^ k := by
      have := val_lt (B := 1000000000) (by omega) (Hd.out.1.drop (l.length - k))
      rwa [hV, List.length_drop, show l.length - (l.length - k) = k from by omega] at this
    have HL : Hid (∀ j, j ≤ 9 → (dec (V * 10 ^ (9 - j) + y / 10 ^ j)).length ≤ 10000) := fun j hj => Nat.le_trans (dec_length_le (by omega) (prefix_lt hVl hy9 hj)) (by omega)
    clear hV hVl hk
    gi_wp2
    gi_loopw [8] (fun v8 wr => ∃ j : Nat, j ≤ 9 ∧ v8 = .int .u32 (10 ^ j / 10 : Nat) ∧ Hid (AppI w base (.slice oa l.length cap) t (V * 10 ^ (9 - j) + y / 10 ^ j) wr ∧ KeepsOthers W wr)) (fun v8 _ => (intOf v8).toNat)
    case atStart => exact ⟨9, Nat.le_refl _, rfl, by rw [Nat.sub_self, Nat.pow_zero, Nat.mul_one, Nat.div_eq_of_lt hy9, Nat.add_zero]; exact HI.out, KeepsOthers.refl _⟩
    case round =>
      clear HI
      obtain ⟨j, hj, rfl, hinv⟩ := hrel
      by_cases h0 : j = 0
      · subst h0
        have hN : Hid (V * 10 ^ (9 - 0) + y / 10 ^ 0 = val 1000000000 (l.drop (l.length - (k + 1)))) := by
          show _ = _
          rw [hv.out, Nat.pow_zero, Nat.div_one, show (10 : Nat) ^ (9 - 0) = 1000000000 from rfl]; omega
        have e0 : ((10 ^ 0 / 10 : Nat) : Int) = 0 := rfl
        rw [e0]
        gi_wp2
        exact ⟨hinv.out.2, by show AppI _ _ _ _ _ _; rw [← hN.out]; exact hinv.out.1⟩
      · obtain ⟨m, rfl⟩ : ∃ m, j = m + 1 := ⟨j - 1, by omega⟩
        have eu : 10 ^ (m + 1) / 10 = 10 ^ m := by rw [Nat.pow_succ]; exact Nat.mul_div_cancel _ (by omega)
        rw [eu]
        have hst := Lib.hid (prefix_step (V := V) (y := y) (m := m) (by omega))
        have hlen := HL.out (m + 1) hj
        obtain ⟨⟨v, h1, h2, h3, h4, h5⟩, hko⟩ := hinv.out
        clear hinv eu
        generalize hNN : V * 10 ^ (9 - (m + 1)) + y / 10 ^ (m + 1) = N at *
        generalize hq : y / 10 ^ m = q at *
        have hq9 : q ≤ y := by rw [← hq]; exact Nat.div_le_self _ _
        have hu1 : 1 ≤ 10 ^ m := Nat.pow_pos (by omega)
        have hu9 : 10 ^ m ≤ 100000000 := Nat.pow_le_pow_right (n := 10) (by omega) (show m ≤ 8 by omega)
        have hun : 10 ^ m / 10 = (10 : Nat) ^ m / 10 := rfl
        generalize hu : 10 ^ m = u at *
        have hqd : (y : Int) / (u : Int) = (q : Int) := by rw [← hq, Int.natCast_ediv]
        have hq2 : (y : Int) / (u : Int) % 4294967296 = (q : Int) := by rw [hqd]; omega
        have hune : ((u : Int) == 0) = false := by rw [beq_eq_false_iff_ne]; omega
        clear hqd
        have HU := Lib.hid hu
        have HQ := Lib.hid hq
        clear hu hq hNN hun
        obtain ⟨dg, hdg⟩ : ∃ dg, dg = q % 10 := ⟨_, rfl⟩
        have hdg9 : dg ≤ 9 := by omega
        have hrm : (q : Int) % 10 = (dg : Int) := by omega
        have hst' : Hid (V * 10 ^ (9 - m) + y / 10 ^ m = 10 * N + dg) := by show _ = _; rw [HU.out, HQ.out, hst.out, hdg]
        have HDG := Lib.hid hdg
        clear hst hdg
        have c1 := h1.cell
        have f1 := h1.free
        have c2 := h2.cell
        have f2 := h2.free
        have H1 := Lib.hid h1; have H2 := Lib.hid h2; have H3 := Lib.hid h3; have H4 := Lib.hid h4; have H5 := Lib.hid h5; have HKO := Lib.hid hko
        clear h1 h2 h3 h4 h5 hko
        by_cases hz : N = 0 ∧ dg = 0
        · obtain ⟨rfl, rfl⟩ := hz
          have HN : Hid (AppI w base (.slice oa l.length cap) t (10 * 0 + 0) (wr.setCell ⟨w.heap.size + 1, 0, none⟩ (.bool true))) :=
            ⟨v, H1.out.other _ _ (by simp), H2.out.set _, H3.out.other _ _ (by simp), H4.out.set H2.out (by decide), H5.out.setCell (p := ⟨w.heap.size + 1, 0, none⟩) (by show base ≤ w.heap.size + 1; omega) _⟩
          have hd0 : decide ((0 : Nat) = 0) = true := rfl
          gi_wp2
          go_roundw
          case rel => exact ⟨m, by omega, by rw [HU.out]; go_num, by rw [hst'.out]; exact HN.out, HKO.out.trans (KeepsOthers.setCell _ _ _)⟩
          case measure => simp [intOf]; omega
        · have HA := Lib.hid (fun v' W1 a b => append_after (v' := v') (W1 := W1) (va := .slice oa l.length cap) H1.out H2.out H3.out H5.out H4.out a b hdg9 (by omega) hb1)
          have hblen : (t ++ dec N).length + 1 ≤ 2000000 := by rw [List.length_append]; omega
          have HT4 := Lib.hid (H4.out.set (x := .bool false) H2.out (by decide))
          have HZ := Lib.hid hz
          obtain ⟨i0, hi, hz0, hz1, hz2⟩ := info_parts Try.info5
          have hld : ∀ b : Bool, (decide (N = 0) = b) → (b = true → ((dg : Int) == 0) = false) := fun b hb hbt => by
            subst hbt
            rw [beq_eq_false_iff_ne]
            intro h; exact hz ⟨of_decide_eq_true hb, by omega⟩
          generalize hb : decide (N = 0) = b at *
          have hdz := hld b rfl
          clear hld hz hb
          have HTL := Lib.hid hlen
          cases b
          · clear hdz
            gi_wp2_with (gi_at_builtin; refine wpListIn_append_own _ rfl (.tmp 35) (.tmp 39) 92 rfl base 5 i0 (.int .u8 0) 1 1 Try.underlying92 hi hz0 hz1 hz2 rfl (by decide) _ (t ++ dec N).length _ rfl (HT4.out.alloc _) ⟨wr.heap.size, 0, none⟩ 1 1 (bv [UInt8.ofNat (48 + dg)]) rfl rfl (by simpa using one_byte (wr.setCell ⟨w.heap.size + 1, 0, none⟩ (.bool false)) dg hdg9) (by intro u hu; simp [bv] at hu; subst hu; rfl) (by unfold maxLen; omega) (by omega) (by have := H5.out.size; simp; omega) ?_; intro v' w1 hown1 hgrow1 _; obtain ⟨o', n', c', rfl, k1, HI', HK'⟩ := HA.out v' w1 hown1 hgrow1; have k1c := k1.cell; have k1f := k1.free; have HI2 := Lib.hid HI'; have HK2 := Lib.hid HK'; clear hown1 hgrow1 k1 HI' HK')
            go_roundw
            case rel => exact ⟨m, by omega, by rw [HU.out]; go_num, by rw [hst'.out]; exact HI2.out, HKO.out.trans HK2.out⟩
            case measure => simp [intOf]; omega
          · replace hdz := hdz rfl
            gi_wp2_with (gi_at_builtin; refine wpListIn_append_own _ rfl (.tmp 35) (.tmp 39) 92 rfl base 5 i0 (.int .u8 0) 1 1 Try.underlying92 hi hz0 hz1 hz2 rfl (by decide) _ (t ++ dec N).length _ rfl (HT4.out.alloc _) ⟨wr.heap.size, 0, none⟩ 1 1 (bv [UInt8.ofNat (48 + dg)]) rfl rfl (by simpa using one_byte (wr.setCell ⟨w.heap.size + 1, 0, none⟩ (.bool false)) dg hdg9) (by intro u hu; simp [bv] at hu; subst hu; rfl) (by unfold maxLen; omega) (by omega) (by have := H5.out.size; simp; omega) ?_; intro v' w1 hown1 hgrow1 _; obtain ⟨o', n', c', rfl, k1, HI', HK'⟩ := HA.out v' w1 hown1 hgrow1; have k1c := k1.cell; have k1f := k1.free; have HI2 := Lib.hid HI'; have HK2 := Lib.hid HK'; clear hown1 hgrow1 k1 HI' HK')
            go_roundw
            case rel => exact ⟨m, by omega, by rw [HU.out]; go_num, by rw [hst'.out]; exact HI2.out, HKO.out.trans HK2.out⟩
            case measure => simp [intOf]; omega
  case done =>
    rintro E W hE ⟨v, h1, h2, h3, h4, h5⟩ hd
    have c1 := h1.cell
    gi_wp2
    have t := Turn.put (B := w.heap.size) (.deferred none) (by omega) hd rfl
    refine ⟨by simp, .inl ⟨_, _, rfl, run_takeDeferred hd, _, results_tmp rfl _ _ _, ?_⟩⟩
    rw [Nat.sub_self, List.drop_zero] at h4
    exact ⟨_, rfl, h4.turn t, h5.trans (t.below.mono hb1)⟩
  case stop =>
    rintro E c W hE h hd
    exact h.elim

set_option maxRecDepth 100000 in
set_option maxHeartbeats 4000000 in
/-- appendTo -/
theorem appendTo_num {w0 w : World} {base : Nat} {va v : Value} {t : List UInt8} {a : Nat} (ha : Num w0 va a) (la : Len a ≤ 1000) (hb : Below w0.heap.size w0 w) (hb0 : w0.heap.size ≤ base) (hb1 : base ≤ w.heap.size) (ht : Bytes w base v t) (htl : t.length ≤ 1000000) :
    Calls Try.prog 100 #[va, v] w fun e w' => ∃ v', e = .returned v' ∧ Bytes w' base v' (t ++ decT a) ∧ Below base w w' := by
  obtain ⟨oa, ca, l, rfl, hr, hc, hv, hll⟩ := ha.open
  by_cases h0 : 0 < Len a
  · have hne : a ≠ 0 := by rintro rfl; rw [len_zero] at h0; omega
    refine (appendTo_any oa l _ ca la hc hr hb hb0 hb1 ht htl h0).mono ?_
    rintro e w' ⟨v', rfl, h1, h2⟩
    refine ⟨v', rfl, ?_, h2⟩
    rw [hv] at h1
    unfold decT
    rw [if_neg hne]
    exact h1
  · have hl0 : Len a = 0 := by omega
    have ha0 : a = 0 := by
      rw [← hv, List.length_eq_zero_iff.1 (hll.trans hl0), val_nil]
    subst ha0
    clear hr hc hv hll ha
    obtain ⟨oT, cT, rfl⟩ := ht.shape
    have hlz : ((Len 0 : Nat) : Int) = 0 := by rw [len_zero]; rfl
    rw [show decT 0 = [48] from rfl]
    obtain ⟨i0, hi, hz0, hz1, hz2⟩ := info_parts Try.info5
    have HT := Lib.hid (World.ownsRow.alloc ht (.cells #[.slice oT t.length cT] 92))
    have hB := Lib.hid ((Below.refl base w).alloc hb1 (.cells #[.slice oT t.length cT] 92))
    have hcb := Lib.hid (one_byte (w.alloc (.cells #[.slice oT t.length cT] 92)) 0 (by omega))
    rw [len_zero]
    clear hlz h0 hl0
    go_enter Try.func100, Try.ntmps100
    go_wp2_with (at_builtin; refine wpList_append_own _ rfl (.tmp 13) (.tmp 14) 92 rfl base 5 i0 (.int .u8 0) 1 1 Try.underlying92 hi hz0 hz1 hz2 rfl (by decide) _ t.length _ rfl (HT.out.alloc _) ⟨w.heap.size + 1, 0, none⟩ 1 1 (bv [UInt8.ofNat (48 + 0)]) rfl rfl (by simpa using hcb.out) (by intro u hu; simp [bv] at hu; subst hu; rfl) (by unfold maxLen; omega) (by omega) (by simp; omega) ?_; intro v' w1 hown1 hgrow1 _)
    go_ret
    refine ⟨_, rfl, ?_, ?_⟩
    · unfold Bytes; rw [bv_append, List.length_append]; exact hown1
    · exact (hB.out.alloc (by simp; omega) _).grown hgrow1 (by simp; omega) (fun g hg => (ht.block_ge g hg).1)
end Go.Proofs.Ytlkdahgfnfdakaa

namespace Go.Proofs.Ytlkdahgfnfdakaa
open Go.RowKit Go.Shelf WN LM

/-- how a number is written -/
def ratText (s : Bool) (n d : Nat) : List UInt8 := (if s then [45] else []) ++ decT n ++ (if d = 1 then [] else 47 :: decT d)

theorem Bytes.shape3 {W : World} {base : Nat} {v : Value} {l : List UInt8} (h : Bytes W base v l) : ∃ o k c, v = .slice o k c := by
  obtain ⟨o, c, h⟩ := h.shape; exact ⟨o, _, c, h⟩
theorem Bytes.below {W W1 : World} {base : Nat} {v : Value} {l : List UInt8} (h : Bytes W base v l) (hb : Below W.heap.size W W1) : Bytes W1 base v l := by
  refine ⟨h.1, h.2.imp id ?_⟩
  rintro ⟨g, cap, cur, h1, h2, h3, h4⟩
  exact ⟨g, cap, cur, h1, h2, (hb.block g (lt_of_block h3)).trans h3, h4⟩
theorem Bytes.grown {W W1 : World} {base : Nat} {v : Value} {l : List UInt8} (h : Bytes W base v l) {B0 : Nat} {W0 : World} (hb : Below B0 W0 W) (hg : W.grownBy W1 v.ownBlock) (hB : B0 ≤ base) (hs : B0 ≤ W.heap.size) : Below B0 W0 W1 :=
  hb.grown hg hs (fun g hg => Nat.le_trans hB (h.block_ge g hg).1)
theorem dig_len (n : Nat) : Dig n ≤ 9 * Len n + 1 := by
  refine dig_le (by omega) (Nat.lt_of_lt_of_le (lt_len n) ?_)
  rw [show (1000000000 : Nat) = 10 ^ 9 from rfl, ← Nat.pow_mul]
  exact Nat.pow_le_pow_right (by omega) (by omega)
theorem decT_ne (n : Nat) : decT n ≠ [] := by
  intro h
  have := decT_len n
  rw [h] at this
  have := dig_pos n
  simp at *; omega
theorem Bytes.conv {W : World} {base : Nat} {v : Value} {l : List UInt8} (h : Bytes W base v l) (hl : l ≠ []) : (convert 92 9 v).run Try.prog W = .ok (.string ⟨l.toArray⟩) W := by
  rcases h.2 with ⟨rfl, h0⟩ | ⟨g, cap, cur, rfl, _⟩
  · exact absurd (List.length_eq_zero_iff.1 h0) hl
  · refine run_convert_bytes_back W 92 9 5 _ cap l Try.underlying92 Try.underlying5 Try.underlying9 fun j hj => ?_
    refine World.ownsRow.cells h (g := g) rfl j _ ?_
    simp [bv, hj]

/-- the append of one byte, its cell made last -/
theorem Bytes.snoc {W1 : World} {base : Nat} {v' : Value} {t : List UInt8} {c : UInt8} (h : W1.ownsRow base 5 1 v' (t.length + 1) (bv t ++ bv [c])) : Bytes W1 base v' (t ++ [c]) := by
  unfold Bytes; rw [bv_append, List.length_append]; exact h
theorem byte_cell (W : World) (c : UInt8) (x : Int) (hx : x = (c.toNat : Int)) : ∀ j u, (bv [c])[j]? = some u → (W.alloc (.cells #[.int .u8 x] 5)).cell? ((⟨W.heap.size, 0, none⟩ : Addr).add j) = some u := by
  intro j u hu
  match j, hu with
  | 0, hu =>
    simp [bv] at hu
    subst hu
    rw [← hx]
    exact cell_of_one (heap_alloc_new W _)
  | j + 1, hu => simp [bv] at hu

set_option maxRecDepth 100000 in
set_option maxHeartbeats 4000000 in
theorem fracText_num {w : World} {v : Value} {s : Bool} {n d : Nat} (h : Frac w v s n d) (ln : Len n ≤ 1000) (ld : Len d ≤ 1000) :
    Calls Try.prog 56 #[v] w fun e w' => e = .returned (.string ⟨(ratText s n d).toArray⟩) ∧ Below w.heap.size w w' := by
  obtain ⟨o1, k1, c1', o2, k2, c2', rfl, hn, hd⟩ := h.box
  clear h
  have b1 : Below w.heap.size w (w.alloc (.cells #[.bool s, .slice o1 k1 c1', .slice o2 k2 c2'] 55)) := (Below.refl _ w).alloc (Nat.le_refl _) _
  have bx := Box3.new w (.bool s) (.slice o1 k1 c1') (.slice o2 k2 c2')
  have HN := Lib.hid (hn.go b1); have HD := Lib.hid (hd.go b1)
  have BX := Lib.hid bx; have HB1 := Lib.hid b1
  clear hn hd b1 bx
  obtain ⟨i0, hi, hz0, hz1, hz2⟩ := info_parts Try.info5
  have ldn : (decT n).length ≤ 10000 := by
    rw [decT_len]
    have := dig_len n
    omega
  have AP := Lib.hid (fun (w' : World) (v : Value) (t : List UInt8) (x : Nat) (vx : Value) (W0 : World) (h1 : Num W0 vx x) => appendTo_num (w0 := W0) (w := w') (base := W0.heap.size) (v := v) (t := t) h1)
  go_enter Try.func56, Try.ntmps56
  obtain ⟨c0, c1, c2, f0, f1, f2⟩ := Box3.facts BX.out
  cases s
  · go_wp2_with fail
    generalize w.alloc (.cells #[.bool false, .slice o1 k1 c1', .slice o2 k2 c2'] 55) = w1 at *
    refine (AP.out w1 (.slice none 0 0) [] n _ w1 HN.out ln (Below.refl _ _) (Nat.le_refl _) (Nat.le_refl _) (Bytes.nil _ _) (by simp)).mono ?_; rintro e w2 ⟨v2, rfl, hv2, hb2⟩
    obtain ⟨p2, m2, q2, rfl⟩ := hv2.shape3
    have HV2 := Lib.hid hv2; have HB2 := Lib.hid hb2
    clear c0 c1 c2 f0 f1 f2 hv2
    obtain ⟨c0, c1, c2, f0, f1, f2⟩ := Box3.facts (BX.out.go hb2)
    clear hb2
    go_wp2_with fail
    refine (isOne_num (HD.out.go HB2.out) (by omega)).mono ?_; rintro e w3 ⟨rfl, rfl⟩
    by_cases hd1 : d = 1
    · have Hd1 : Hid (decide (d = 1) = true) := by show _ = _; simp [hd1]
      have hconv := HV2.out.conv (by rw [List.nil_append]; exact decT_ne n)
      have HR : Hid (ratText false n d = [] ++ decT n) := by show _ = _; unfold ratText; rw [if_pos hd1]; simp
      rw [Hd1.out]
      clear hd1
      go_wp2_with fail
      go_ret
      exact ⟨by rw [HR.out]; rfl, bstep HB1.out HB2.out⟩
    · have Hd1 : Hid (decide (d = 1) = false) := by show _ = _; simp [hd1]
      have HR : Hid (ratText false n d = decT n ++ 47 :: decT d) := by show _ = _; unfold ratText; rw [if_neg hd1]; simp
      rw [Hd1.out]
      clear hd1
      have hl2 : ([] ++ decT n).length ≤ 20000 := by rw [List.length_append]; simp; omega
      have HLL := Lib.hid hl2
      go_wp2_with (at_builtin; refine wpList_append_own _ rfl (.tmp 17) (.tmp 18) 92 rfl w1.heap.size 5 i0 (.int .u8 0) 1 1 Try.underlying92 hi hz0 hz1 hz2 rfl (by decide) _ ([] ++ decT n).length _ rfl (World.ownsRow.alloc HV2.out _) ⟨w2.heap.size, 0, none⟩ 1 1 (bv [47]) rfl rfl (byte_cell _ _ _ rfl) (by intro u hu; simp [bv] at hu; subst hu; rfl) (by unfold maxLen; omega) (by omega) (by have := HB2.out.size; simp; omega) ?_; intro v3 w3 hown3 hgrow3 _; have HG3 := Lib.hid hgrow3; have HO3 := Lib.hid hown3; clear hown3 hgrow3; obtain ⟨p3, m3, q3, rfl⟩ := (Bytes.snoc HO3.out).shape3; have HB3 := Lib.hid ((HB2.out.alloc (B := w1.heap.size) HB2.out.size (.cells #[.int .u8 47] 5)).grown HG3.out (by have := HB2.out.size; simp; omega) (fun g hg => (HV2.out.block_ge g hg).1)); clear c0 c1 c2 f0 f1 f2; obtain ⟨c0, c1, c2, f0, f1, f2⟩ := Box3.facts (BX.out.go HB3.out))
      refine (AP.out w3 _ ([] ++ decT n ++ [47]) d _ w1 HD.out ld HB3.out (Nat.le_refl _) HB3.out.size (Bytes.snoc HO3.out) (by rw [List.length_append]; simp; omega)).mono ?_; rintro e w4 ⟨v4, rfl, hv4, hb4⟩
      obtain ⟨p4, m4, q4, rfl⟩ := hv4.shape3
      have hconv := hv4.conv (by simp)
      have HB4 := Lib.hid (HB3.out.trans hb4)
      clear c0 c1 c2 f0 f1 f2 hv4 hb4
      go_wp2_with fail
      go_ret
      exact ⟨by rw [HR.out]; rfl, bstep HB1.out HB4.out⟩
  · go_wp2_with (at_builtin; refine wpList_append_own _ rfl (.tmp 6) (.tmp 7) 92 rfl (w.alloc (.cells #[.bool true, .slice o1 k1 c1', .slice o2 k2 c2'] 55)).heap.size 5 i0 (.int .u8 0) 1 1 Try.underlying92 hi hz0 hz1 hz2 rfl (by decide) _ 0 _ rfl (World.ownsRow.alloc (Bytes.nil _ _) _) ⟨w.heap.size + 1, 0, none⟩ 1 1 (bv [45]) rfl rfl (by simpa using byte_cell (w.alloc (.cells #[.bool true, .slice o1 k1 c1', .slice o2 k2 c2'] 55)) 45 _ rfl) (by intro u hu; simp [bv] at hu; subst hu; rfl) (by unfold maxLen; omega) (by omega) (by simp) ?_; intro v2 w2 hown2 hgrow2 _; have HG3 := Lib.hid hgrow2; have HO3 := Lib.hid hown2; clear hown2 hgrow2; have HBa := Lib.hid (((Below.refl (w.alloc (.cells #[.bool true, .slice o1 k1 c1', .slice o2 k2 c2'] 55)).heap.size (w.alloc (.cells #[.bool true, .slice o1 k1 c1', .slice o2 k2 c2'] 55))).alloc (Nat.le_refl _) (.cells #[.int .u8 45] 5)).grown HG3.out (by simp) (fun g hg => by cases hg)); clear c0 c1 c2 f0 f1 f2; obtain ⟨c0, c1, c2, f0, f1, f2⟩ := Box3.facts (BX.out.go HBa.out))
    generalize w.alloc (.cells #[.bool true, .slice o1 k1 c1', .slice o2 k2 c2'] 55) = w1 at *
    refine (AP.out w2 _ [45] n _ w1 HN.out ln HBa.out (Nat.le_refl _) HBa.out.size (Bytes.snoc (t := []) HO3.out) (by simp)).mono ?_; rintro e w2 ⟨v2, rfl, hv2, hb2'⟩
    have hb2 := HBa.out.trans hb2'
    clear hb2'
    obtain ⟨p2, m2, q2, rfl⟩ := hv2.shape3
    have HV2 := Lib.hid hv2; have HB2 := Lib.hid hb2
    clear c0 c1 c2 f0 f1 f2 hv2
    obtain ⟨c0, c1, c2, f0, f1, f2⟩ := Box3.facts (BX.out.go hb2)
    clear hb2
    go_wp2_with fail
    refine (isOne_num (HD.out.go HB2.out) (by omega)).mono ?_; rintro e w3 ⟨rfl, rfl⟩
    by_cases hd1 : d = 1
    · have Hd1 : Hid (decide (d = 1) = true) := by show _ = _; simp [hd1]
      have hconv := HV2.out.conv (by simp)
      have HR : Hid (ratText true n d = [45] ++ decT n) := by show _ = _; unfold ratText; rw [if_pos hd1]; simp
      rw [Hd1.out]
      clear hd1
      go_wp2_with fail
      go_ret
      exact ⟨by rw [HR.out]; rfl, bstep HB1.out HB2.out⟩
    · have Hd1 : Hid (decide (d = 1) = false) := by show _ = _; simp [hd1]
      have HR : Hid (ratText true n d = 45 :: (decT n ++ 47 :: decT d)) := by show _ = _; unfold ratText; rw [if_neg hd1]; simp
      rw [Hd1.out]
      clear hd1
      have hl2 : ([45] ++ decT n).length ≤ 20000 := by rw [List.length_append]; simp; omega
      have HLL := Lib.hid hl2
      go_wp2_with (at_builtin; refine wpList_append_own _ rfl (.tmp 17) (.tmp 18) 92 rfl w1.heap.size 5 i0 (.int .u8 0) 1 1 Try.underlying92 hi hz0 hz1 hz2 rfl (by decide) _ ([45] ++ decT n).length _ rfl (World.ownsRow.alloc HV2.out _) ⟨w2.heap.size, 0, none⟩ 1 1 (bv [47]) rfl rfl (byte_cell _ _ _ rfl) (by intro u hu; simp [bv] at hu; subst hu; rfl) (by unfold maxLen; omega) (by omega) (by have := HB2.out.size; simp; omega) ?_; intro v3 w3 hown3 hgrow3 _; have HG3 := Lib.hid hgrow3; have HO3 := Lib.hid hown3; clear hown3 hgrow3; obtain ⟨p3, m3, q3, rfl⟩ := (Bytes.snoc HO3.out).shape3; have HB3 := Lib.hid ((HB2.out.alloc (B := w1.heap.size) HB2.out.size (.cells #[.int .u8 47] 5)).grown HG3.out (by have := HB2.out.size; simp; omega) (fun g hg => (HV2.out.block_ge g hg).1)); clear c0 c1 c2 f0 f1 f2; obtain ⟨c0, c1, c2, f0, f1, f2⟩ := Box3.facts (BX.out.go HB3.out))
      refine (AP.out w3 _ ([45] ++ decT n ++ [47]) d _ w1 HD.out ld HB3.out (Nat.le_refl _) HB3.out.size (Bytes.snoc HO3.out) (by rw [List.length_append]; simp; omega)).mono ?_; rintro e w4 ⟨v4, rfl, hv4, hb4⟩
      obtain ⟨p4, m4, q4, rfl⟩ := hv4.shape3
      have hconv := hv4.conv (by simp)
      have HB4 := Lib.hid (HB3.out.trans hb4)
      clear c0 c1 c2 f0 f1 f2 hv4 hb4
      go_wp2_with fail
      go_ret
      exact ⟨by rw [HR.out]; rfl, bstep HB1.out HB4.out⟩
end Go.Proofs.Ytlkdahgfnfdakaa
