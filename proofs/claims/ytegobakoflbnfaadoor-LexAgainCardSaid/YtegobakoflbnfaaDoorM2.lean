/- The gap between tokens, byte by byte; Scan as a recursion over lists. -/
import Derived.Test.YtegobakoflbnfaaDoorM1
namespace Go.Proofs.YtegobakoflbnfaaDoor
open Go Go.RowKit

/-- the bytes between tokens; `true`: within a remark -/
def gG : Bool → List UInt8 → Nat
  | _, [] => 0
  | true, c :: l => 1 + gG (c != 10) l
  | false, c :: l => if isWs c then 1 + gG false l else if c == 47 && Lib.hasPrefix l [47] then 1 + gG true l else 0
theorem gG_le : ∀ (m : Bool) (l : List UInt8), gG m l ≤ l.length
  | true, [] => Nat.le_refl _
  | false, [] => Nat.le_refl _
  | true, c :: l => by
    have := gG_le (c != 10) l
    rw [gG, List.length_cons]; omega
  | false, c :: l => by
    have h1 := gG_le false l
    have h2 := gG_le true l
    rw [gG, List.length_cons]
    split
    · omega
    · split <;> omega
theorem line_nil : lineLen [] = 0 := rfl
theorem line_nl (l : List UInt8) : lineLen (10 :: l) = 0 := by
  unfold lineLen
  have := cut_at (l := []) (r := l) (c := 10) (by simp)
  rw [List.nil_append] at this
  rw [this]; rfl
theorem line_cons (c : UInt8) (l : List UInt8) (h : c ≠ 10) : lineLen (c :: l) = lineLen l + 1 := by
  unfold lineLen Lib.cut
  rw [Lib.index_one, Lib.index_one]
  have hge := Lib.indexByte_ge l 10
  have e : Lib.indexByte (c :: l) 10 = if Lib.indexByte l 10 == -1 then -1 else Lib.indexByte l 10 + 1 := by
    rw [Lib.indexByte, if_neg (by simpa using h)]
  by_cases h0 : Lib.indexByte l 10 = -1
  · rw [e, h0]; simp
  · have e2 : Lib.indexByte (c :: l) 10 = Lib.indexByte l 10 + 1 := by rw [e, if_neg (by simpa using h0)]
    rw [e2, if_pos (by omega), if_pos (by omega)]
    show (List.take _ (c :: l)).length = (List.take _ l).length + 1
    rw [show (Lib.indexByte l 10 + 1).toNat = (Lib.indexByte l 10).toNat + 1 by omega, List.take_succ_cons, List.length_cons]
theorem g_remark : ∀ t : List UInt8, gG true t = lineLen t + gG false (t.drop (lineLen t))
  | [] => rfl
  | c :: l => by
    by_cases h : c = 10
    · subst h
      rw [line_nl, Nat.zero_add, List.drop_zero, gG, gG]; rfl
    · rw [line_cons c l h, List.drop_succ_cons, gG, show (c != 10) = true by simpa using h, g_remark l]; omega
theorem g_ws : ∀ t : List UInt8, gG false t = pre (inC wsC) t + gG false (t.drop (pre (inC wsC) t))
  | [] => rfl
  | c :: l => by
    cases h : isWs c
    · rw [pre_no _ _ _ (by rw [ws_in]; exact h), Nat.zero_add, List.drop_zero]
    · rw [pre_yes _ _ _ (by rw [ws_in]; exact h), List.drop_succ_cons, gG, h, if_pos rfl, g_ws l]; omega
theorem hp_two (t : List UInt8) (h : Lib.hasPrefix t [47, 47] = true) : ∃ u, t = 47 :: 47 :: u := by
  unfold Lib.hasPrefix at h
  obtain ⟨u, hu⟩ := List.isPrefixOf_iff_prefix.1 h
  exact ⟨u, by rw [← hu]; rfl⟩
theorem hp_two_no (t : List UInt8) (h : Lib.hasPrefix t [47, 47] = false) (hw : pre (inC wsC) t = 0) : gG false t = 0 := by
  cases t with
  | nil => rfl
  | cons c l =>
    have hc : isWs c = false := by
      cases hc : isWs c
      · rfl
      · rw [pre_yes _ _ _ (by rw [ws_in]; exact hc)] at hw; omega
    rw [gG, hc, if_neg (by decide)]
    have : (c == 47 && Lib.hasPrefix l [47]) = false := by
      cases l with
      | nil => rw [hp_nil, Bool.and_false]
      | cons d l =>
        rw [hp_cons]
        unfold Lib.hasPrefix at h
        simp only [List.isPrefixOf, Bool.and_true] at h
        rw [← h]
        rw [show (c == 47) = (47 == c) from Bool.eq_iff_iff.2 (by simp only [beq_iff_eq]; exact eq_comm)]
    rw [this]; rfl
theorem tail_g : ∀ (f : Nat) (t : List UInt8), t.length < f → pre (inC wsC) t = 0 → tailG f t = gG false t
  | 0, t, h, _ => by omega
  | f + 1, t, h, hw => by
    rw [tailG]
    cases hp : Lib.hasPrefix t [47, 47]
    · rw [hp_two_no t hp hw]; rfl
    · rw [if_pos rfl]
      obtain ⟨u, rfl⟩ := hp_two t hp
      have e1 : gG false (47 :: 47 :: u) = gG true (47 :: 47 :: u) := by
        rw [gG, gG, show isWs 47 = false by decide, hp_cons]; rfl
      have h2 := line_two hp
      rw [e1, g_remark, g_ws, Nat.add_assoc]
      rw [tail_g f _ (by rw [List.length_drop, List.length_cons, List.length_cons]; rw [List.length_cons, List.length_cons] at h; omega) (by rw [← List.drop_drop]; exact pre_drop _ _), List.drop_drop]
theorem gap_g (t : List UInt8) : gapT t = gG false t := by
  unfold gapT
  rw [g_ws t, tail_g _ _ (by rw [List.length_drop]; omega) (pre_drop _ _)]
/-- a newline behind a text ends what is between tokens there, or goes on with it -/
theorem g_nl : ∀ (m : Bool) (x y : List UInt8), gG m (x ++ 10 :: y) = if gG m x = x.length then x.length + 1 + gG false y else gG m x
  | true, [], y => by rw [List.nil_append, gG, gG]; simp
  | false, [], y => by rw [List.nil_append, gG, gG]; simp [isWs]
  | true, c :: x, y => by
    rw [List.cons_append, gG, gG, g_nl _ x y, List.length_cons]
    by_cases h : gG (c != 10) x = x.length
    · rw [if_pos h, if_pos (by omega)]; omega
    · rw [if_neg h, if_neg (by omega)]
  | false, c :: x, y => by
    rw [List.cons_append, gG, gG, g_nl _ x y, g_nl _ x y, hp_app _ _ _ _ (by decide), List.length_cons]
    cases isWs c
    · cases (c == 47 && Lib.hasPrefix x [47])
      · simp
      · simp only [Bool.false_eq_true, if_false, if_true]
        by_cases h : gG true x = x.length
        · rw [if_pos h, if_pos (by omega)]; omega
        · rw [if_neg h, if_neg (by omega)]
    · simp only [if_true]
      by_cases h : gG false x = x.length
      · rw [if_pos h, if_pos (by omega)]; omega
      · rw [if_neg h, if_neg (by omega)]

/-- tokens ahead of what is read -/
def appR (a : List Tk) (r : R3) : R3 := if r.2.2 = 0 then (a ++ r.1, 0, 0) else r
theorem appR_app (a b : List Tk) (r : R3) : appR a (appR b r) = appR (a ++ b) r := by
  unfold appR
  by_cases h : r.2.2 = 0
  · rw [if_pos h, if_pos h, if_pos rfl, List.append_assoc]
  · rw [if_neg h, if_neg h, if_neg h]
/-- Scan, from a place on -/
def sc (k : Nat) (l : List UInt8) : R3 :=
  if _h : gapT l < l.length then
    if _h0 : (tk0 (l.drop (gapT l))).2.2 = 0 then ([], k + gapT l, 1)
    else appR [((tk0 (l.drop (gapT l))).1, (tk0 (l.drop (gapT l))).2.1, k + gapT l)] (sc (k + gapT l + (tk0 (l.drop (gapT l))).2.2) (l.drop (gapT l + (tk0 (l.drop (gapT l))).2.2)))
  else ([], 0, 0)
termination_by l.length
decreasing_by
  rw [List.length_drop]; omega
theorem sc_end {k : Nat} {l : List UInt8} (h : gapT l = l.length) : sc k l = ([], 0, 0) := by
  rw [sc, dif_neg (by omega)]
theorem sc_bad {k : Nat} {l : List UInt8} (h : gapT l < l.length) (h0 : (tk0 (l.drop (gapT l))).2.2 = 0) : sc k l = ([], k + gapT l, 1) := by
  rw [sc, dif_pos h, dif_pos h0]
theorem sc_tok {k : Nat} {l : List UInt8} {t : T3} (h : gapT l < l.length) (ht : tk0 (l.drop (gapT l)) = t) (h0 : t.2.2 ≠ 0) : sc k l = appR [(t.1, t.2.1, k + gapT l)] (sc (k + gapT l + t.2.2) (l.drop (gapT l + t.2.2))) := by
  subst ht
  rw [sc, dif_pos h, dif_neg h0]
theorem tk0_le (l : List UInt8) : (tk0 l).2.2 ≤ l.length := first_le ⟨l.toArray⟩
theorem gap_len (l : List UInt8) : gapT l ≤ l.length := gap_le l
theorem scan_sc (s : ByteArray) (hs : s.size ≤ 2000) : ∀ (f k : Nat) (acc : List Tk), k ≤ s.size → acc.length ≤ k → s.size - k < f →
    scanL s f (k + gapT (s.data.toList.drop k)) acc = appR acc (sc k (s.data.toList.drop k))
  | 0, k, acc, _, _, h => by omega
  | f + 1, k, acc, hk, ha, h => by
    have hl : (s.data.toList.drop k).length = s.size - k := by rw [List.length_drop, Array.length_toList]; rfl
    have hg := gap_len (s.data.toList.drop k)
    rw [scanL]
    by_cases hlt : k + gapT (s.data.toList.drop k) < s.size
    · rw [if_pos hlt]
      have e : firstT (s.extract (k + gapT (s.data.toList.drop k)) s.size) = tk0 ((s.data.toList.drop k).drop (gapT (s.data.toList.drop k))) := by
        rw [from_list, List.drop_drop]; rfl
      rw [e]
      obtain ⟨t, ht⟩ : ∃ t, tk0 ((s.data.toList.drop k).drop (gapT (s.data.toList.drop k))) = t := ⟨_, rfl⟩
      have htl := tk0_le ((s.data.toList.drop k).drop (gapT (s.data.toList.drop k)))
      rw [ht, List.length_drop, hl] at htl
      by_cases h0 : t.2.2 = 0
      · rw [sc_bad (by omega) (by rw [ht]; exact h0), ht, if_pos h0]; rfl
      · rw [sc_tok (by omega) ht h0, ht, if_neg h0, if_neg (by omega), appR_app, List.drop_drop]
        rw [← Nat.add_assoc]
        exact scan_sc s hs f (k + gapT (s.data.toList.drop k) + t.2.2) _ (by omega) (by rw [List.length_append, List.length_singleton]; omega) (by omega)
    · rw [if_neg hlt, sc_end (by omega)]
      unfold appR; rw [if_pos rfl, List.append_nil]
theorem sc_code : ∀ (n k : Nat) (l : List UInt8), l.length ≤ n → ((sc k l).2.2 = 0 ∧ (sc k l).2.1 = 0) ∨ ((sc k l).2.2 = 1 ∧ (sc k l).1 = [])
  | n, k, l, h => by
    have hg := gap_len l
    by_cases he : gapT l = l.length
    · rw [sc_end he]; exact Or.inl ⟨rfl, rfl⟩
    · obtain ⟨t, ht⟩ : ∃ t, tk0 (l.drop (gapT l)) = t := ⟨_, rfl⟩
      by_cases h0 : t.2.2 = 0
      · rw [sc_bad (by omega) (by rw [ht]; exact h0)]; exact Or.inr ⟨rfl, rfl⟩
      · rw [sc_tok (by omega) ht h0]
        cases n with
        | zero => omega
        | succ n =>
          have ih := sc_code n (k + gapT l + t.2.2) (l.drop (gapT l + t.2.2)) (by rw [List.length_drop]; omega)
          unfold appR
          rcases ih with ih | ih
          · rw [if_pos ih.1]; exact Or.inl ⟨rfl, rfl⟩
          · rw [if_neg (by rw [ih.1]; decide)]; exact Or.inr ih
theorem appR_nil (k : Nat) (l : List UInt8) : appR [] (sc k l) = sc k l := by
  rcases sc_code l.length k l (Nat.le_refl _) with h | h
  · obtain ⟨⟨a, b, c⟩, hs⟩ : ∃ r, r = sc k l := ⟨_, rfl⟩
    rw [← hs] at h ⊢
    obtain ⟨h1, h2⟩ := h
    simp only at h1 h2
    subst h1; subst h2
    rfl
  · unfold appR
    rw [if_neg (by rw [h.1]; decide)]
theorem scan_eq (s : ByteArray) (hs : s.size ≤ 2000) : scanT s = sc 0 s.data.toList := by
  unfold scanT
  rw [if_neg (by omega)]
  have := scan_sc s hs (s.size + 1) 0 [] (Nat.zero_le _) (Nat.le_refl _) (by omega)
  rw [List.drop_zero, Nat.zero_add, appR_nil] at this
  exact this
/-- bytes that are not of a token may be left out ahead -/
theorem sc_skip {k d : Nat} {l : List UInt8} (hd : d ≤ l.length) (h : gapT l = d + gapT (l.drop d)) : sc k l = sc (k + d) (l.drop d) := by
  have hg := gap_len (l.drop d)
  have hl : (l.drop d).length = l.length - d := List.length_drop
  by_cases he : gapT l = l.length
  · rw [sc_end he, sc_end (by omega)]
  · have e : (l.drop d).drop (gapT (l.drop d)) = l.drop (gapT l) := by rw [List.drop_drop, ← h]
    obtain ⟨t, ht⟩ : ∃ t, tk0 (l.drop (gapT l)) = t := ⟨_, rfl⟩
    have hlt := gap_len l
    have ek : k + d + gapT (l.drop d) = k + gapT l := by omega
    by_cases h0 : t.2.2 = 0
    · rw [sc_bad (by omega) (by rw [ht]; exact h0), sc_bad (by omega) (by rw [e, ht]; exact h0), ek]
    · rw [sc_tok (by omega) ht h0, sc_tok (l := l.drop d) (by omega) (by rw [e]; exact ht) h0, ek, List.drop_drop]
      rw [show d + (gapT (l.drop d) + t.2.2) = gapT l + t.2.2 by omega]
theorem appR_if (t : List Tk) (r q : R3) : appR t (if r.2.2 = 0 then appR r.1 q else r) = if (appR t r).2.2 = 0 then appR (appR t r).1 q else appR t r := by
  by_cases h : r.2.2 = 0
  · have e : appR t r = (t ++ r.1, 0, 0) := by unfold appR; rw [if_pos h]
    rw [if_pos h, e, if_pos rfl, appR_app]
  · have e : appR t r = r := by unfold appR; rw [if_neg h]
    rw [if_neg h, e, if_neg h]
/-- two texts with a newline between them -/
theorem sc_nl (y : List UInt8) : ∀ (n : Nat) (k : Nat) (x : List UInt8), x.length ≤ n → sc k (x ++ 10 :: y) = if (sc k x).2.2 = 0 then appR (sc k x).1 (sc (k + x.length + 1) y) else sc k x
  | n, k, x, h => by
    have hg := gap_len x
    have hl : (x ++ 10 :: y).length = x.length + 1 + y.length := by rw [List.length_append, List.length_cons]; omega
    have hn := g_nl false x y
    rw [← gap_g, ← gap_g, ← gap_g] at hn
    by_cases he : gapT x = x.length
    · rw [if_pos he] at hn
      have hd : (x ++ 10 :: y).drop (x.length + 1) = y := by
        rw [← List.drop_drop, List.drop_left]; rfl
      rw [sc_skip (d := x.length + 1) (by omega) (by rw [hd]; exact hn), hd, sc_end he, if_pos rfl, appR_nil, ← Nat.add_assoc]
    · rw [if_neg he] at hn
      have hx : x.drop (gapT x) ≠ [] := by
        intro h0
        have : (x.drop (gapT x)).length = 0 := by rw [h0]; rfl
        rw [List.length_drop] at this
        omega
      obtain ⟨t, ht⟩ : ∃ t, tk0 (x.drop (gapT x)) = t := ⟨_, rfl⟩
      have ht2 : tk0 ((x ++ 10 :: y).drop (gapT (x ++ 10 :: y))) = t := by rw [hn, drop_app_le hg, tk0_nl _ _ hx, ht]
      by_cases h0 : t.2.2 = 0
      · rw [sc_bad (by omega) (by rw [ht2]; exact h0), sc_bad (by omega) (by rw [ht]; exact h0), if_neg (show ¬ (1 : Int) = 0 by decide), hn]
      · have htl := tk0_le (x.drop (gapT x))
        rw [ht, List.length_drop] at htl
        cases n with
        | zero => omega
        | succ n =>
          rw [sc_tok (by omega) ht2 h0, hn, sc_tok (by omega) ht h0, drop_app_le (by omega)]
          rw [sc_nl y n _ _ (by rw [List.length_drop]; omega), appR_if, List.length_drop]
          rw [show k + gapT x + t.2.2 + (x.length - (gapT x + t.2.2)) + 1 = k + x.length + 1 by omega]
def shT (d : Nat) (t : Tk) : Tk := (t.1, t.2.1, t.2.2 + d)
def shR (d : Nat) (r : R3) : R3 := if r.2.2 = 0 then (r.1.map (shT d), 0, 0) else (r.1, r.2.1 + d, r.2.2)
theorem sh_app (d : Nat) (t : Tk) (r : R3) : shR d (appR [t] r) = appR [shT d t] (shR d r) := by
  by_cases h : r.2.2 = 0
  · simp [shR, appR, h]
  · simp [shR, appR, h]
theorem sc_shift (d : Nat) : ∀ (n k : Nat) (l : List UInt8), l.length ≤ n → sc (k + d) l = shR d (sc k l)
  | n, k, l, h => by
    have hg := gap_len l
    by_cases he : gapT l = l.length
    · rw [sc_end he, sc_end he]; rfl
    · obtain ⟨t, ht⟩ : ∃ t, tk0 (l.drop (gapT l)) = t := ⟨_, rfl⟩
      by_cases h0 : t.2.2 = 0
      · rw [sc_bad (by omega) (by rw [ht]; exact h0), sc_bad (by omega) (by rw [ht]; exact h0)]
        unfold shR
        rw [if_neg (show ¬ (1 : Int) = 0 by decide)]
        show ([], k + d + gapT l, (1 : Int)) = ([], k + gapT l + d, 1)
        rw [show k + d + gapT l = k + gapT l + d by omega]
      · cases n with
        | zero => omega
        | succ n =>
          rw [sc_tok (by omega) ht h0, sc_tok (by omega) ht h0, sh_app, ← sc_shift d n _ _ (by rw [List.length_drop]; omega)]
          rw [show k + d + gapT l = k + gapT l + d by omega, show k + gapT l + d + t.2.2 = k + gapT l + t.2.2 + d by omega]
          rfl
end Go.Proofs.YtegobakoflbnfaaDoor
