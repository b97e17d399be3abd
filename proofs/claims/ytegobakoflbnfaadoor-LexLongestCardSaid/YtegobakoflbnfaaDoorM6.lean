/- Where the tokens of a source end. -/
import Derived.Test.YtegobakoflbnfaaDoorM5
import Derived.Test.YtegobakoflbnfaaDoorBl
import Derived.Test.YtegobakoflbnfaaDoorNm
namespace Go.Proofs.YtegobakoflbnfaaDoor
open Go Go.RowKit

/-- tokens one behind the other, from a place on, nothing but gaps between them -/
def Chain (x : List UInt8) : Nat → List Tk → Prop
  | k, [] => k ≤ x.length ∧ gG false (x.drop k) = x.length - k
  | k, t :: R => k ≤ t.2.2 ∧ t.2.2 < x.length ∧ gG false ((x.take t.2.2).drop k) = t.2.2 - k ∧ gG false (x.drop t.2.2) = 0 ∧ ∃ n, tk0 (x.drop t.2.2) = (t.1, t.2.1, n) ∧ n ≠ 0 ∧ Chain x (t.2.2 + n) R
theorem gap_rest {l : List UInt8} (h : gapT l < l.length) : gG false (l.drop (gapT l)) = 0 := by
  have h1 := gc_take false l (by rw [← gap_g]; exact h)
  have h2 := gc_gap false _ (l.drop (gG false l)) h1
  rw [List.take_append_drop, List.length_take, Nat.min_eq_left (by rw [← gap_g]; exact gap_len l)] at h2
  rw [gap_g]
  omega
theorem gap_alone {l : List UInt8} (h : gapT l < l.length) : gG false (l.take (gapT l)) = gapT l := by
  have h1 := gc_take false l (by rw [← gap_g]; exact h)
  have h2 := gc_gap false _ [] h1
  rw [List.append_nil] at h2
  rw [gap_g, h2, List.length_take, Nat.min_eq_left (gG_le false l)]; rfl
theorem sc_chain (x : List UInt8) : ∀ (n k : Nat) (l : List UInt8), l.length ≤ n → l = x.drop k → k ≤ x.length → (sc k l).2.2 = 0 → Chain x k (sc k l).1
  | n, k, l, h, hl, hk, hok => by
    have hg := gap_len l
    have hll : l.length = x.length - k := by rw [hl, List.length_drop]
    have hld : ∀ q, l.drop q = x.drop (k + q) := fun q => by rw [hl, List.drop_drop]
    by_cases he : gapT l = l.length
    · rw [sc_end he]
      exact ⟨hk, by rw [← hl, ← gap_g, he, hll]⟩
    · obtain ⟨t, ht⟩ : ∃ t, tk0 (l.drop (gapT l)) = t := ⟨_, rfl⟩
      by_cases h0 : t.2.2 = 0
      · rw [sc_bad (by omega) (by rw [ht]; exact h0)] at hok
        exact absurd hok (show ¬ (1 : Int) = 0 by decide)
      · have htl := tk0_le (l.drop (gapT l))
        rw [ht, List.length_drop] at htl
        rw [sc_tok (by omega) ht h0] at hok ⊢
        cases n with
        | zero => omega
        | succ n =>
          have hok2 : (sc (k + gapT l + t.2.2) (l.drop (gapT l + t.2.2))).2.2 = 0 := by
            unfold appR at hok
            split at hok
            · assumption
            · exact hok
          have ih := sc_chain x n (k + gapT l + t.2.2) (l.drop (gapT l + t.2.2)) (by rw [List.length_drop]; omega) (by rw [hld, Nat.add_assoc]) (by omega) hok2
          unfold appR
          rw [if_pos hok2]
          refine ⟨by show k ≤ k + gapT l; omega, by show k + gapT l < x.length; omega, ?_, ?_, t.2.2, ?_, h0, ih⟩
          · show gG false ((x.take (k + gapT l)).drop k) = k + gapT l - k
            rw [List.take_add, List.drop_append_of_le_length (by rw [List.length_take]; omega), List.drop_eq_nil_of_le (by rw [List.length_take]; omega), List.nil_append, ← hl, gap_alone (by omega)]
            omega
          · show gG false (x.drop (k + gapT l)) = 0
            rw [← hld]; exact gap_rest (by omega)
          · show tk0 (x.drop (k + gapT l)) = _
            rw [← hld, ht]
def lastT (x : List UInt8) (T : List Tk) (i : Nat) : Nat := match T[i + 1]? with | some t => t.2.2 | none => x.length
/-- how long a token of a source is -/
def lenT (x : List UInt8) (t : Tk) : Nat := (tk0 (x.drop t.2.2)).2.2
structure TokIn (x : List UInt8) (T : List Tk) (i : Nat) (t : Tk) : Prop where
  at_lt : t.2.2 < x.length
  tok : tk0 (x.drop t.2.2) = (t.1, t.2.1, lenT x t)
  pos : lenT x t ≠ 0
  gap : gG false (x.drop t.2.2) = 0
  le : t.2.2 + lenT x t ≤ lastT x T i
  last : lastT x T i ≤ x.length
  rest : gG false ((x.take (lastT x T i)).drop (t.2.2 + lenT x t)) = lastT x T i - (t.2.2 + lenT x t)
theorem chain_at {x : List UInt8} : ∀ {T : List Tk} {k : Nat}, Chain x k T → ∀ i (hi : i < T.length), TokIn x T i T[i]
  | t :: R, k, h, 0, _ => by
    obtain ⟨h1, h2, h3, h4, n, h5, h6, h7⟩ := h
    have e : lenT x t = n := by unfold lenT; rw [h5]
    have hl : t.2.2 + n ≤ lastT x (t :: R) 0 ∧ lastT x (t :: R) 0 ≤ x.length ∧ gG false ((x.take (lastT x (t :: R) 0)).drop (t.2.2 + n)) = lastT x (t :: R) 0 - (t.2.2 + n) := by
      cases R with
      | nil =>
        have : lastT x [t] 0 = x.length := rfl
        rw [this, List.take_length]
        exact ⟨h7.1, Nat.le_refl _, h7.2⟩
      | cons u R =>
        have : lastT x (t :: u :: R) 0 = u.2.2 := rfl
        rw [this]
        exact ⟨h7.1, Nat.le_of_lt h7.2.1, h7.2.2.1⟩
    exact ⟨h2, by show tk0 (x.drop t.2.2) = (t.1, t.2.1, lenT x t); rw [e]; exact h5, by rw [show lenT x (t :: R)[0] = n from e]; exact h6, h4, by rw [show lenT x (t :: R)[0] = n from e]; exact hl.1, hl.2.1, by rw [show lenT x (t :: R)[0] = n from e]; exact hl.2.2⟩
  | t :: R, k, h, i + 1, hi => by
    obtain ⟨h1, h2, h3, h4, n, h5, h6, h7⟩ := h
    have ih := chain_at h7 i (by simpa using hi)
    have e : lastT x (t :: R) (i + 1) = lastT x R i := rfl
    exact ⟨ih.at_lt, ih.tok, ih.pos, ih.gap, by rw [e]; exact ih.le, by rw [e]; exact ih.last, by rw [e]; exact ih.rest⟩
/-- a byte of a token, but for its first one, is no blank and no stroke; or the token's beginning is none -/
theorem tok_inner {l : List UInt8} {t : T3} (ht : tk0 l = t) {m : Nat} (hm : 0 < m) (hmn : m < t.2.2) : (∀ c, l[m]? = some c → isWs c = false ∧ c ≠ 47) ∨ (tk0 (l.take m)).2.2 = 0 := by
  have hle := tk0_le l
  rw [ht] at hle
  obtain ⟨b, r, rfl⟩ : ∃ b m, l = b :: m := by
    cases l with
    | nil => simp at hle; omega
    | cons b m => exact ⟨b, m, rfl⟩
  obtain ⟨m, rfl⟩ : ∃ q, m = q + 1 := ⟨m - 1, by omega⟩
  have hall : ∀ (p : UInt8 → Bool) (c : UInt8), (b :: r)[m + 1]? = some c → m + 1 < pre p (b :: r) → p c = true := fun p c hc hlt => by
    have h1 := pre_all p (b :: r)
    rw [List.all_eq_true] at h1
    refine h1 c (List.mem_of_getElem? (i := m + 1) ?_)
    rw [List.getElem?_take, if_pos hlt, hc]
  have hcl : clL ((b :: r).take (m + 1)) = clL (b :: r) := rfl
  rw [tk0_eq] at ht
  by_cases h3 : clL (b :: r) = 3
  · rw [if_pos h3] at ht
    by_cases h20 : 20 < pre (inC [3, 4, 5]) (b :: r)
    · unfold wordL at ht
      rw [if_pos h20] at ht; subst ht; exact absurd hmn (Nat.not_lt_zero _)
    · have e : t.2.2 = pre (inC [3, 4, 5]) (b :: r) := by rw [← ht]; unfold wordL; rw [if_neg h20]
      rw [e] at hmn
      refine Or.inl fun c hc => ?_
      have := hall _ c hc hmn
      have hd := u8_all (p := fun c => !inC [3, 4, 5] c || (!isWs c && c != 47)) (by decide +kernel) c
      rw [this] at hd
      simpa using hd
  · rw [if_neg h3] at ht
    by_cases h4 : clL (b :: r) = 4
    · rw [if_pos h4] at ht
      by_cases h15 : 15 < pre (inC digC) (b :: r) ∨ 15 < placesT (b :: r) (pre (inC digC) (b :: r))
      · unfold numL at ht
        rw [if_pos h15] at ht; subst ht; exact absurd hmn (Nat.not_lt_zero _)
      · have e : t.2.2 = numLen (pre (inC digC) (b :: r)) (placesT (b :: r) (pre (inC digC) (b :: r))) := by rw [← ht]; unfold numL; rw [if_neg h15]
        rw [e] at hmn
        refine Or.inl fun c hc => ?_
        have hd := u8_all (p := fun c => !(inC digC c || c == 46) || (!isWs c && c != 47)) (by decide +kernel) c
        have hcd : (inC digC c || c == 46) = true := by
          have hw := pre_le (inC digC) (b :: r)
          have hdec := num_dec (b :: r) _ hw
          have hmem : c ∈ (b :: r).take (numLen (pre (inC digC) (b :: r)) (placesT (b :: r) (pre (inC digC) (b :: r)))) := by
            refine List.mem_of_getElem? (i := m + 1) ?_
            rw [List.getElem?_take, if_pos hmn, hc]
          rw [hdec] at hmem
          have hd1 := dig_pre (b :: r)
          have hd2 := dig_places (b :: r) (pre (inC digC) (b :: r))
          unfold decL at hmem
          split at hmem
          · rw [dig_in (hd1 c hmem)]; rfl
          · rcases List.mem_append.1 hmem with h | h
            · rw [dig_in (hd1 c h)]; rfl
            · rcases List.mem_cons.1 h with h | h
              · rw [h]; exact Bool.or_true _
              · rw [dig_in (hd2 c h)]; rfl
        rw [hcd] at hd
        simpa using hd
    · rw [if_neg h4] at ht
      by_cases h6 : clL (b :: r) = 6
      · rw [if_pos h6] at ht
        refine Or.inr ?_
        rw [tk0_eq, hcl, if_neg h3, if_neg h4, if_pos h6]
        unfold quoL at ht
        split at ht
        · subst ht; exact absurd hmn (Nat.not_lt_zero _)
        · have e : t.2.2 = pre (inC strC) r + 2 := by rw [← ht]; rfl
          rw [e] at hmn
          have h1 : ((b :: r).take (m + 1)).drop 1 = r.take m := rfl
          have h2 : pre (inC strC) (r.take m) = (r.take m).length := by
            have ha : (r.take m).all (inC strC) = true := by
              have h9 := pre_all (inC strC) r
              rw [List.all_eq_true] at h9 ⊢
              intro c hc
              refine h9 c ?_
              rw [show r.take m = (r.take (pre (inC strC) r)).take m from by rw [List.take_take, Nat.min_eq_left (by omega)]] at hc
              exact List.mem_of_mem_take hc
            have := pre_app (inC strC) (r.take m) [] ha
            rw [List.append_nil] at this
            rw [this]; rfl
          unfold quoL
          rw [h1, h2, if_pos (Or.inr (by rw [List.drop_eq_nil_of_le (by simp; omega)]; rfl))]
          rfl
      · rw [if_neg h6] at ht
        by_cases h7 : clL (b :: r) = 7
        · rw [if_pos h7] at ht
          have e : t.2.2 = symN (b :: r) := by rw [← ht]; rfl
          rw [e] at hmn
          unfold symN at hmn
          split at hmn
          · rename_i hd
            obtain rfl : m = 0 := by omega
            refine Or.inl fun c hc => ?_
            have hc2 : r[0]? = some c := hc
            obtain ⟨r2, rfl⟩ : ∃ r2, r = c :: r2 := by
              cases r with
              | nil => simp at hc2
              | cons a r2 => simp at hc2; exact ⟨r2, by rw [hc2]⟩
            rw [dbl_cons] at hd
            constructor
            · cases hw : isWs c
              · rfl
              · rw [dbl_ws _ _ _ hw] at hd; cases hd
            · rintro rfl
              simp [isDbl, dbl, Lib.hasPrefix, List.isPrefixOf] at hd
          · omega
        · rw [if_neg h7] at ht
          subst ht; exact absurd hmn (Nat.not_lt_zero _)
theorem cut_take (x : List UInt8) (a k : Nat) : (x.take k).drop a = (x.drop a).take (k - a) := List.drop_take ..
/-- a token's own bytes are that token -/
theorem scan_self {x : List UInt8} {T : List Tk} {i : Nat} {t : Tk} (h : TokIn x T i t) : sc 0 ((x.take (t.2.2 + lenT x t)).drop t.2.2) = ([(t.1, t.2.1, 0)], 0, 0) := by
  rw [cut_take, Nat.add_sub_cancel_left]
  have hle : lenT x t ≤ (x.drop t.2.2).length := tk0_le (x.drop t.2.2)
  have hp := h.pos
  have h1 := tk0_loc (r := []) h.tok hp (Near.nil _)
  have h2 := gap_loc (r := []) (by omega) hle h.gap (Near.nil _)
  rw [List.append_nil] at h1 h2
  have hl : ((x.drop t.2.2).take (lenT x t)).length = lenT x t := by rw [List.length_take]; exact Nat.min_eq_left hle
  have hg : gapT ((x.drop t.2.2).take (lenT x t)) = 0 := by rw [gap_g]; exact h2
  rw [sc_tok (t := (t.1, t.2.1, lenT x t)) (by rw [hg, hl]; omega) (by rw [hg]; exact h1) hp, hg]
  simp only [Nat.zero_add]
  rw [List.drop_eq_nil_of_le (by rw [hl]; exact Nat.le_refl _), sc_end rfl]
  rfl
/-- a shorter beginning is not, with nothing but a gap behind it -/
theorem scan_short {x : List UInt8} {T : List Tk} {i : Nat} {t : Tk} (h : TokIn x T i t) {k : Nat} (h1 : t.2.2 < k) (h2 : k < t.2.2 + lenT x t)
    (hok : (sc 0 ((x.take k).drop t.2.2)).2.2 = 0) (hb : gG false ((x.take (lastT x T i)).drop k) = lastT x T i - k) : False := by
  have hle := h.le
  have hla := h.last
  rcases tok_inner h.tok (m := k - t.2.2) (by omega) (by show k - t.2.2 < lenT x t; omega) with hc | h0
  · obtain ⟨c, r, hcr⟩ : ∃ c r, (x.take (lastT x T i)).drop k = c :: r := by
      have hlen : ((x.take (lastT x T i)).drop k).length = lastT x T i - k := by rw [List.length_drop, List.length_take]; omega
      cases hq : (x.take (lastT x T i)).drop k with
      | nil => rw [hq] at hlen; simp at hlen; omega
      | cons c r => exact ⟨c, r, rfl⟩
    have hx : (x.drop t.2.2)[k - t.2.2]? = some c := by
      have e : ((x.take (lastT x T i)).drop k)[0]? = some c := by rw [hcr]; rfl
      rw [List.getElem?_drop, List.getElem?_take, if_pos (by omega)] at e
      rw [List.getElem?_drop, show t.2.2 + (k - t.2.2) = k + 0 by omega, e]
    obtain ⟨c1, c2⟩ := hc c hx
    rw [hcr] at hb
    have hne : gG false (c :: r) ≠ 0 := by omega
    exact c2 (gap_first hne c1)
  · rw [cut_take] at hok
    obtain ⟨b, l, hbl⟩ : ∃ b l, x.drop t.2.2 = b :: l := by
      have hlen : (x.drop t.2.2).length = x.length - t.2.2 := List.length_drop
      have := h.at_lt
      cases hq : x.drop t.2.2 with
      | nil => rw [hq] at hlen; simp at hlen; omega
      | cons c r => exact ⟨c, r, rfl⟩
    have hlt : ((x.drop t.2.2).take (k - t.2.2)).length = k - t.2.2 := by rw [List.length_take, List.length_drop]; omega
    have hgz : gG false ((x.drop t.2.2).take (k - t.2.2)) = 0 := by
      have hn := gap_loc (l := x.drop t.2.2) (r := []) (n := k - t.2.2) (by omega) (by rw [List.length_drop]; omega) h.gap (Near.nil _)
      rw [List.append_nil] at hn
      exact hn
    have hg : gapT ((x.drop t.2.2).take (k - t.2.2)) = 0 := by rw [gap_g]; exact hgz
    rw [sc_bad (by rw [hg, hlt]; omega) (by rw [hg]; exact h0)] at hok
    exact absurd hok (show ¬ (1 : Int) = 0 by decide)
/-- with more bytes it is the same token, alone only if the others are a gap -/
theorem scan_long {x : List UInt8} {T : List Tk} {i : Nat} {t : Tk} (h : TokIn x T i t) {k : Nat} (h2 : t.2.2 + lenT x t ≤ k) (hk : k ≤ x.length)
    (hok : (sc 0 ((x.take k).drop t.2.2)).2.2 = 0) (hlen : (sc 0 ((x.take k).drop t.2.2)).1.length = 1) : gG false ((x.take k).drop (t.2.2 + lenT x t)) = k - (t.2.2 + lenT x t) := by
  have hp := h.pos
  have hal := h.at_lt
  rw [cut_take] at hok hlen
  obtain ⟨n, hn⟩ : ∃ n, n = lenT x t := ⟨_, rfl⟩
  have htok := h.tok
  rw [← hn] at h2 hp htok ⊢
  obtain ⟨l, hl⟩ : ∃ l, l = x.drop t.2.2 := ⟨_, rfl⟩
  have hgap := h.gap
  rw [← hl] at hok hlen htok hgap
  have hll : l.length = x.length - t.2.2 := by rw [hl, List.length_drop]
  obtain ⟨j, hj⟩ : ∃ j, k - t.2.2 = n + j := ⟨k - t.2.2 - n, by omega⟩
  rw [hj] at hok hlen
  have hsp : l.take (n + j) = l.take n ++ (l.drop n).take j := List.take_add ..
  have hle : n ≤ l.length := by
    have h9 := tk0_le l
    rw [htok] at h9
    exact h9
  have a1 := tk0_loc (r := (l.drop n).take j) htok hp (Near.take _ _)
  have a2 := gap_loc (r := (l.drop n).take j) (by omega) hle hgap (Near.take _ _)
  have hln : (l.take n).length = n := by rw [List.length_take]; exact Nat.min_eq_left hle
  have hg : gapT (l.take n ++ (l.drop n).take j) = 0 := by rw [gap_g]; exact a2
  have hd : (l.take n ++ (l.drop n).take j).drop n = (l.drop n).take j := by
    have := List.drop_left (l₁ := l.take n) (l₂ := (l.drop n).take j)
    rw [hln] at this
    exact this
  rw [hsp, sc_tok (t := (t.1, t.2.1, n)) (by rw [hg, List.length_append, hln]; omega) (by rw [hg]; exact a1) hp, hg] at hok hlen
  simp only [Nat.zero_add] at hok hlen
  rw [hd] at hok hlen
  have hfin : (x.take k).drop (t.2.2 + n) = (l.drop n).take j := by
    rw [cut_take, hl, List.drop_drop]
    congr 1
    omega
  rw [hfin]
  unfold appR at hok hlen
  have hr : (sc n ((l.drop n).take j)).2.2 = 0 := by
    split at hok
    · assumption
    · exact hok
  rw [if_pos hr, List.length_append] at hlen
  have hz : (sc n ((l.drop n).take j)).1.length = 0 := by
    simp only [List.length_singleton] at hlen
    omega
  have hlj : ((l.drop n).take j).length = j := by rw [List.length_take, List.length_drop]; omega
  have hgl := gap_len ((l.drop n).take j)
  by_cases he : gapT ((l.drop n).take j) = ((l.drop n).take j).length
  · rw [← gap_g, he, hlj]; omega
  · obtain ⟨u, hu⟩ : ∃ u, tk0 (((l.drop n).take j).drop (gapT ((l.drop n).take j))) = u := ⟨_, rfl⟩
    by_cases h0 : u.2.2 = 0
    · rw [sc_bad (by omega) (by rw [hu]; exact h0)] at hr
      exact absurd hr (show ¬ (1 : Int) = 0 by decide)
    · rw [sc_tok (by omega) hu h0] at hr hz
      unfold appR at hr hz
      split at hr
      · rename_i h9
        rw [if_pos h9, List.length_append] at hz
        simp at hz
      · rename_i h9
        exact absurd hr h9
end Go.Proofs.YtegobakoflbnfaaDoor
