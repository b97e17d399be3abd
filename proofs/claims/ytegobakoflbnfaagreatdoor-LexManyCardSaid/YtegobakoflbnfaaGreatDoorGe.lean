/- The tokens of a text, as a list of bytes: what stands behind a token matters little. The gap between tokens, byte by byte; Scan as a recursion over lists. A list of tokens in memory: one token's place written anew; a list behind another one. -/
import Derived.Test.YtegobakoflbnfaaGreatDoorGd
import Derived.Laws.AppendOwnNone
namespace Go.Proofs.YtegobakoflbnfaaGreatDoor
open Go Go.RowKit

theorem pre_app (p : UInt8 → Bool) : ∀ (a b : List UInt8), a.all p = true → pre p (a ++ b) = a.length + pre p b
  | [], b, _ => by simp
  | c :: a, b, h => by
    rw [List.all_cons, Bool.and_eq_true] at h
    have := pre_app p a b h.2
    unfold pre at this ⊢
    rw [List.cons_append, List.takeWhile_cons, h.1, if_pos rfl, List.length_cons, this, List.length_cons]
    omega
theorem pre_stop (p : UInt8 → Bool) : ∀ (a : List UInt8) (c : UInt8) (b : List UInt8), p c = false → pre p (a ++ c :: b) = pre p a
  | [], c, b, h => by
    unfold pre
    rw [List.nil_append, List.takeWhile_cons, h]; rfl
  | d :: a, c, b, h => by
    have := pre_stop p a c b h
    unfold pre at this ⊢
    rw [List.cons_append, List.takeWhile_cons, List.takeWhile_cons]
    split
    · rw [List.length_cons, List.length_cons, this]
    · rfl
theorem pre_nil (p : UInt8 → Bool) : pre p [] = 0 := rfl
theorem pre_no (p : UInt8 → Bool) (c : UInt8) (b : List UInt8) (h : p c = false) : pre p (c :: b) = 0 := pre_stop p [] c b h
theorem pre_yes (p : UInt8 → Bool) (c : UInt8) (b : List UInt8) (h : p c = true) : pre p (c :: b) = pre p b + 1 := by
  have := pre_app p [c] b (by simp [h])
  rw [List.singleton_append] at this
  rw [this]; simp; omega
theorem pre_zero_take {p : UInt8 → Bool} : ∀ {l : List UInt8} (j : Nat), pre p l = 0 → pre p (l.take j) = 0
  | [], j, _ => by rw [List.take_nil]; rfl
  | c :: l, 0, _ => rfl
  | c :: l, j + 1, h => by
    rw [List.take_succ_cons]
    cases hc : p c
    · exact pre_no p c _ hc
    · rw [pre_yes p c _ hc] at h; omega
theorem pre_drop (p : UInt8 → Bool) : ∀ (l : List UInt8), pre p (l.drop (pre p l)) = 0
  | [] => rfl
  | c :: l => by
    cases hc : p c
    · rw [pre_no p c _ hc]; exact pre_no p c _ hc
    · rw [pre_yes p c _ hc, List.drop_succ_cons]; exact pre_drop p l
theorem hp_nil (a : UInt8) : Lib.hasPrefix [] [a] = false := rfl
theorem hp_cons (a b : UInt8) (l : List UInt8) : Lib.hasPrefix (b :: l) [a] = (a == b) := by
  unfold Lib.hasPrefix
  simp [List.isPrefixOf]
theorem hp_app (x : List UInt8) (a c : UInt8) (y : List UInt8) (h : a ≠ c) : Lib.hasPrefix (x ++ c :: y) [a] = Lib.hasPrefix x [a] := by
  cases x with
  | nil => rw [List.nil_append, hp_cons, hp_nil, beq_eq_false_iff_ne]; exact h
  | cons d x => rw [List.cons_append, hp_cons, hp_cons]
def isWs (c : UInt8) : Bool := c == 32 || c == 9 || c == 10
theorem u8_all {p : UInt8 → Bool} (h : ((List.range 256).all fun n => p (UInt8.ofNat n)) = true) (c : UInt8) : p c = true := by
  have h1 := List.all_eq_true.1 h c.toNat (List.mem_range.2 c.toNat_lt)
  rwa [UInt8.ofNat_toNat] at h1
theorem ws_in (c : UInt8) : inC wsC c = isWs c := by
  have := u8_all (p := fun c => inC wsC c == isWs c) (by decide +kernel) c
  simpa using this
theorem ws_word {c : UInt8} (h : isWs c = true) : inC [3, 4, 5] c = false := by
  have := u8_all (p := fun c => !isWs c || !inC [3, 4, 5] c) (by decide +kernel) c
  simpa [h] using this
theorem ws_dig {c : UInt8} (h : isWs c = true) : inC digC c = false := by
  have := u8_all (p := fun c => !isWs c || !inC digC c) (by decide +kernel) c
  simpa [h] using this
theorem nl_str : inC strC 10 = false := by decide +kernel
theorem qu_str : inC strC 34 = false := by decide +kernel
theorem dbl_cons (a b : UInt8) (l : List UInt8) : isDbl dbl (a :: b :: l) = isDbl dbl [a, b] := by
  simp [isDbl, dbl, Lib.hasPrefix, List.isPrefixOf]
theorem dbl_one (a : UInt8) : isDbl dbl [a] = false := by
  simp [isDbl, dbl, Lib.hasPrefix, List.isPrefixOf]
theorem dbl_ws (a c : UInt8) (l : List UInt8) (h : isWs c = true) : isDbl dbl (a :: c :: l) = false := by
  unfold isWs at h
  simp only [Bool.or_eq_true, beq_iff_eq] at h
  rcases h with (rfl | rfl) | rfl <;> simp [isDbl, dbl, Lib.hasPrefix, List.isPrefixOf]

/-- the token that a list of bytes begins with -/
def tk0 (l : List UInt8) : T3 := firstT ⟨l.toArray⟩
theorem ext_list (l : List UInt8) (n : Nat) : (⟨l.toArray⟩ : ByteArray).extract 0 n = ⟨(l.take n).toArray⟩ := by
  apply ByteArray.ext
  rw [← Array.toList_inj, toList_extract]
  simp
theorem ext_list1 (l : List UInt8) (n : Nat) : (⟨l.toArray⟩ : ByteArray).extract 1 (1 + n) = ⟨((l.drop 1).take n).toArray⟩ := by
  apply ByteArray.ext
  rw [← Array.toList_inj, toList_extract]
  simp [List.drop_take]
theorem from_list (s : ByteArray) (i : Nat) : s.extract i s.size = ⟨(s.data.toList.drop i).toArray⟩ := by
  apply ByteArray.ext
  rw [← Array.toList_inj, toList_from]
def clL : List UInt8 → Int
  | [] => -1
  | b :: _ => classN b.toNat
def wordL (l : List UInt8) : T3 :=
  if 20 < pre (inC [3, 4, 5]) l then noT
  else (if isKey (l.take (pre (inC [3, 4, 5]) l)) then 2 else 1, ⟨(l.take (pre (inC [3, 4, 5]) l)).toArray⟩, pre (inC [3, 4, 5]) l)
def numL (l : List UInt8) : T3 :=
  if 15 < pre (inC digC) l ∨ 15 < placesT l (pre (inC digC) l) then noT
  else (3, ⟨(fracL (l.take (pre (inC digC) l)) ((l.drop (pre (inC digC) l + 1)).take (placesT l (pre (inC digC) l)))).toArray⟩, numLen (pre (inC digC) l) (placesT l (pre (inC digC) l)))
def quoL (l : List UInt8) : T3 :=
  if 40 < pre (inC strC) (l.drop 1) ∨ Lib.hasPrefix (l.drop (1 + pre (inC strC) (l.drop 1))) [34] = false then noT
  else (4, ⟨((l.drop 1).take (pre (inC strC) (l.drop 1))).toArray⟩, pre (inC strC) (l.drop 1) + 2)
def symL (l : List UInt8) : T3 := (5, ⟨(l.take (symN l)).toArray⟩, symN l)
theorem tk0_eq (l : List UInt8) : tk0 l = if clL l = 3 then wordL l else if clL l = 4 then numL l else if clL l = 6 then quoL l else if clL l = 7 then symL l else noT := by
  unfold tk0 firstT
  have h1 : cl0 ⟨l.toArray⟩ = clL l := by unfold cl0 clL; cases l <;> rfl
  have h2 : wordT ⟨l.toArray⟩ = wordL l := by
    unfold wordT wordL
    rw [ext_list, Lib.toList_data]
    show (if 20 < pre (inC [3, 4, 5]) l then noT else if isKey (l.take (pre (inC [3, 4, 5]) l)) = true then _ else _) = _
    split
    · rfl
    · by_cases h : isKey (l.take (pre (inC [3, 4, 5]) l)) = true
      · rw [if_pos h, if_pos h]
      · rw [if_neg h, if_neg h]
  have h3 : numberT ⟨l.toArray⟩ = numL l := rfl
  have h4 : quotedT ⟨l.toArray⟩ = quoL l := by
    unfold quotedT quoL
    rw [ext_list1]
  have h5 : symT ⟨l.toArray⟩ = symL l := by
    unfold symT symL
    rw [ext_list]
  rw [h1, h2, h3, h4, h5]
theorem cl_app (x y : List UInt8) (h : x ≠ []) : clL (x ++ y) = clL x := by
  cases x with
  | nil => exact absurd rfl h
  | cons a x => rfl
theorem take_app_le {x y : List UInt8} {n : Nat} (h : n ≤ x.length) : (x ++ y).take n = x.take n := by
  rw [List.take_append_of_le_length h]
theorem drop_app_le {x y : List UInt8} {n : Nat} (h : n ≤ x.length) : (x ++ y).drop n = x.drop n ++ y := by
  rw [List.drop_append_of_le_length h]
/-- a newline behind a text changes nothing of the token that the text begins with -/
theorem tk0_nl (x y : List UInt8) (hx : x ≠ []) : tk0 (x ++ 10 :: y) = tk0 x := by
  rw [tk0_eq, tk0_eq, cl_app _ _ hx]
  have hw : wordL (x ++ 10 :: y) = wordL x := by
    unfold wordL
    rw [pre_stop _ _ _ _ (ws_word (by decide)), take_app_le (pre_le _ _)]
  have hp : placesT (x ++ 10 :: y) (pre (inC digC) x) = placesT x (pre (inC digC) x) := by
    unfold placesT
    have h1 := pre_le (inC digC) x
    rw [drop_app_le h1, hp_app _ _ _ _ (by decide)]
    cases hh : Lib.hasPrefix (x.drop (pre (inC digC) x)) [46]
    · rfl
    · obtain ⟨u, hu⟩ := has_one hh
      have : (x.drop (pre (inC digC) x)).length = u.length + 1 := by rw [hu]; rfl
      rw [List.length_drop] at this
      rw [if_pos rfl, if_pos rfl, drop_app_le (by omega), pre_stop _ _ _ _ (ws_dig (by decide))]
  have hn : numL (x ++ 10 :: y) = numL x := by
    unfold numL
    rw [pre_stop _ _ _ _ (ws_dig (by decide)), hp, take_app_le (pre_le _ _)]
    by_cases h0 : placesT x (pre (inC digC) x) = 0
    · rw [h0, List.take_zero, List.take_zero]
    · have h1 : pre (inC digC) x + 1 + placesT x (pre (inC digC) x) ≤ x.length := by
        have := places_le x (pre (inC digC) x) (pre_le _ _)
        unfold numLen at this
        rw [if_pos (by omega)] at this
        omega
      rw [drop_app_le (by omega), take_app_le (by rw [List.length_drop]; omega)]
  have hq : quoL (x ++ 10 :: y) = quoL x := by
    obtain ⟨a, x, rfl⟩ : ∃ a t, x = a :: t := by cases x with | nil => exact absurd rfl hx | cons a t => exact ⟨a, t, rfl⟩
    unfold quoL
    have e1 : (a :: x ++ 10 :: y).drop 1 = x ++ 10 :: y := rfl
    have e2 : (a :: x).drop 1 = x := rfl
    have e3 : ∀ k, (a :: x ++ 10 :: y).drop (1 + k) = (x ++ 10 :: y).drop k := fun k => by rw [Nat.add_comm]; rfl
    have e4 : ∀ k, (a :: x).drop (1 + k) = x.drop k := fun k => by rw [Nat.add_comm]; rfl
    rw [e1, e2, pre_stop _ _ _ _ nl_str, e3, e4, drop_app_le (pre_le _ _), hp_app _ _ _ _ (by decide), take_app_le (pre_le _ _)]
  have hs : symL (x ++ 10 :: y) = symL x := by
    obtain ⟨a, x, rfl⟩ : ∃ a t, x = a :: t := by cases x with | nil => exact absurd rfl hx | cons a t => exact ⟨a, t, rfl⟩
    have hd : isDbl dbl (a :: x ++ 10 :: y) = isDbl dbl (a :: x) := by
      cases x with
      | nil => rw [dbl_one]; exact dbl_ws _ _ _ (by decide)
      | cons b x => rw [dbl_cons a b x]; exact dbl_cons a b _
    have hN : symN (a :: x ++ 10 :: y) = symN (a :: x) := by unfold symN; rw [hd]
    unfold symL
    rw [hN]
    have hle : symN (a :: x) ≤ (a :: x).length := by
      cases x with
      | nil => unfold symN; rw [dbl_one]; exact Nat.le_refl _
      | cons b x => unfold symN; split <;> simp
    rw [take_app_le hle]
  rw [hw, hn, hq, hs]
end Go.Proofs.YtegobakoflbnfaaGreatDoor

namespace Go.Proofs.YtegobakoflbnfaaGreatDoor
open Go Go.RowKit

/-- the bytes between tokens; `true`: within a remark -/
def gG : Bool → List UInt8 → Nat
  | _, [] => 0
  | true, c :: l => 1 + gG (c != 10) l
  | false, c :: l => if isWs c then 1 + gG false l else if c == 47 && Lib.hasPrefix l [47] then 1 + gG true l else 0
theorem gG_le : ∀ (m : Bool) (l : List UInt8), gG m l ≤ l.length
  | true, [] => Nat.le_refl _
  | false, [] => Nat.le_refl _
  | true, c :: l => by
    have := gG_le (c != 10) l
    rw [gG, List.length_cons]; omega
  | false, c :: l => by
    have h1 := gG_le false l
    have h2 := gG_le true l
    rw [gG, List.length_cons]
    split
    · omega
    · split <;> omega
theorem line_nil : lineLen [] = 0 := rfl
theorem line_nl (l : List UInt8) : lineLen (10 :: l) = 0 := by
  unfold lineLen
  have := cut_at (l := []) (r := l) (c := 10) (by simp)
  rw [List.nil_append] at this
  rw [this]; rfl
theorem line_cons (c : UInt8) (l : List UInt8) (h : c ≠ 10) : lineLen (c :: l) = lineLen l + 1 := by
  unfold lineLen Lib.cut
  rw [Lib.index_one, Lib.index_one]
  have hge := Lib.indexByte_ge l 10
  have e : Lib.indexByte (c :: l) 10 = if Lib.indexByte l 10 == -1 then -1 else Lib.indexByte l 10 + 1 := by
    rw [Lib.indexByte, if_neg (by simpa using h)]
  by_cases h0 : Lib.indexByte l 10 = -1
  · rw [e, h0]; simp
  · have e2 : Lib.indexByte (c :: l) 10 = Lib.indexByte l 10 + 1 := by rw [e, if_neg (by simpa using h0)]
    rw [e2, if_pos (by omega), if_pos (by omega)]
    show (List.take _ (c :: l)).length = (List.take _ l).length + 1
    rw [show (Lib.indexByte l 10 + 1).toNat = (Lib.indexByte l 10).toNat + 1 by omega, List.take_succ_cons, List.length_cons]
theorem g_remark : ∀ t : List UInt8, gG true t = lineLen t + gG false (t.drop (lineLen t))
  | [] => rfl
  | c :: l => by
    by_cases h : c = 10
    · subst h
      rw [line_nl, Nat.zero_add, List.drop_zero, gG, gG]; rfl
    · rw [line_cons c l h, List.drop_succ_cons, gG, show (c != 10) = true by simpa using h, g_remark l]; omega
theorem g_ws : ∀ t : List UInt8, gG false t = pre (inC wsC) t + gG false (t.drop (pre (inC wsC) t))
  | [] => rfl
  | c :: l => by
    cases h : isWs c
    · rw [pre_no _ _ _ (by rw [ws_in]; exact h), Nat.zero_add, List.drop_zero]
    · rw [pre_yes _ _ _ (by rw [ws_in]; exact h), List.drop_succ_cons, gG, h, if_pos rfl, g_ws l]; omega
theorem hp_two (t : List UInt8) (h : Lib.hasPrefix t [47, 47] = true) : ∃ u, t = 47 :: 47 :: u := by
  unfold Lib.hasPrefix at h
  obtain ⟨u, hu⟩ := List.isPrefixOf_iff_prefix.1 h
  exact ⟨u, by rw [← hu]; rfl⟩
theorem hp_two_no (t : List UInt8) (h : Lib.hasPrefix t [47, 47] = false) (hw : pre (inC wsC) t = 0) : gG false t = 0 := by
  cases t with
  | nil => rfl
  | cons c l =>
    have hc : isWs c = false := by
      cases hc : isWs c
      · rfl
      · rw [pre_yes _ _ _ (by rw [ws_in]; exact hc)] at hw; omega
    rw [gG, hc, if_neg (by decide)]
    have : (c == 47 && Lib.hasPrefix l [47]) = false := by
      cases l with
      | nil => rw [hp_nil, Bool.and_false]
      | cons d l =>
        rw [hp_cons]
        unfold Lib.hasPrefix at h
        simp only [List.isPrefixOf, Bool.and_true] at h
        rw [← h]
        rw [show (c == 47) = (47 == c) from Bool.eq_iff_iff.2 (by simp only [beq_iff_eq]; exact eq_comm)]
    rw [this]; rfl
theorem tail_g : ∀ (f : Nat) (t : List UInt8), t.length < f → pre (inC wsC) t = 0 → tailG f t = gG false t
  | 0, t, h, _ => by omega
  | f + 1, t, h, hw => by
    rw [tailG]
    cases hp : Lib.hasPrefix t [47, 47]
    · rw [hp_two_no t hp hw]; rfl
    · rw [if_pos rfl]
      obtain ⟨u, rfl⟩ := hp_two t hp
      have e1 : gG false (47 :: 47 :: u) = gG true (47 :: 47 :: u) := by
        rw [gG, gG, show isWs 47 = false by decide, hp_cons]; rfl
      have h2 := line_two hp
      rw [e1, g_remark, g_ws, Nat.add_assoc]
      rw [tail_g f _ (by rw [List.length_drop, List.length_cons, List.length_cons]; rw [List.length_cons, List.length_cons] at h; omega) (by rw [← List.drop_drop]; exact pre_drop _ _), List.drop_drop]
theorem gap_g (t : List UInt8) : gapT t = gG false t := by
  unfold gapT
  rw [g_ws t, tail_g _ _ (by rw [List.length_drop]; omega) (pre_drop _ _)]
/-- a newline behind a text ends what is between tokens there, or goes on with it -/
theorem g_nl : ∀ (m : Bool) (x y : List UInt8), gG m (x ++ 10 :: y) = if gG m x = x.length then x.length + 1 + gG false y else gG m x
  | true, [], y => by rw [List.nil_append, gG, gG]; simp
  | false, [], y => by rw [List.nil_append, gG, gG]; simp [isWs]
  | true, c :: x, y => by
    rw [List.cons_append, gG, gG, g_nl _ x y, List.length_cons]
    by_cases h : gG (c != 10) x = x.length
    · rw [if_pos h, if_pos (by omega)]; omega
    · rw [if_neg h, if_neg (by omega)]
  | false, c :: x, y => by
    rw [List.cons_append, gG, gG, g_nl _ x y, g_nl _ x y, hp_app _ _ _ _ (by decide), List.length_cons]
    cases isWs c
    · cases (c == 47 && Lib.hasPrefix x [47])
      · simp
      · simp only [Bool.false_eq_true, if_false, if_true]
        by_cases h : gG true x = x.length
        · rw [if_pos h, if_pos (by omega)]; omega
        · rw [if_neg h, if_neg (by omega)]
    · simp only [if_true]
      by_cases h : gG false x = x.length
      · rw [if_pos h, if_pos (by omega)]; omega
      · rw [if_neg h, if_neg (by omega)]

/-- tokens ahead of what is read -/
def appR (a : List Tk) (r : R3) : R3 := if r.2.2 = 0 then (a ++ r.1, 0, 0) else r
theorem appR_app (a b : List Tk) (r : R3) : appR a (appR b r) = appR (a ++ b) r := by
  unfold appR
  by_cases h : r.2.2 = 0
  · rw [if_pos h, if_pos h, if_pos rfl, List.append_assoc]
  · rw [if_neg h, if_neg h, if_neg h]
/-- Scan, from a place on -/
def sc (k : Nat) (l : List UInt8) : R3 :=
  if _h : gapT l < l.length then
    if _h0 : (tk0 (l.drop (gapT l))).2.2 = 0 then ([], k + gapT l, 1)
    else appR [((tk0 (l.drop (gapT l))).1, (tk0 (l.drop (gapT l))).2.1, k + gapT l)] (sc (k + gapT l + (tk0 (l.drop (gapT l))).2.2) (l.drop (gapT l + (tk0 (l.drop (gapT l))).2.2)))
  else ([], 0, 0)
termination_by l.length
decreasing_by
  rw [List.length_drop]; omega
theorem sc_end {k : Nat} {l : List UInt8} (h : gapT l = l.length) : sc k l = ([], 0, 0) := by
  rw [sc, dif_neg (by omega)]
theorem sc_bad {k : Nat} {l : List UInt8} (h : gapT l < l.length) (h0 : (tk0 (l.drop (gapT l))).2.2 = 0) : sc k l = ([], k + gapT l, 1) := by
  rw [sc, dif_pos h, dif_pos h0]
theorem sc_tok {k : Nat} {l : List UInt8} {t : T3} (h : gapT l < l.length) (ht : tk0 (l.drop (gapT l)) = t) (h0 : t.2.2 ≠ 0) : sc k l = appR [(t.1, t.2.1, k + gapT l)] (sc (k + gapT l + t.2.2) (l.drop (gapT l + t.2.2))) := by
  subst ht
  rw [sc, dif_pos h, dif_neg h0]
theorem tk0_le (l : List UInt8) : (tk0 l).2.2 ≤ l.length := first_le ⟨l.toArray⟩
theorem gap_len (l : List UInt8) : gapT l ≤ l.length := gap_le l
theorem scan_sc (s : ByteArray) (hs : s.size ≤ 2000) : ∀ (f k : Nat) (acc : List Tk), k ≤ s.size → acc.length ≤ k → s.size - k < f →
    scanL s f (k + gapT (s.data.toList.drop k)) acc = appR acc (sc k (s.data.toList.drop k))
  | 0, k, acc, _, _, h => by omega
  | f + 1, k, acc, hk, ha, h => by
    have hl : (s.data.toList.drop k).length = s.size - k := by rw [List.length_drop, Array.length_toList]; rfl
    have hg := gap_len (s.data.toList.drop k)
    rw [scanL]
    by_cases hlt : k + gapT (s.data.toList.drop k) < s.size
    · rw [if_pos hlt]
      have e : firstT (s.extract (k + gapT (s.data.toList.drop k)) s.size) = tk0 ((s.data.toList.drop k).drop (gapT (s.data.toList.drop k))) := by
        rw [from_list, List.drop_drop]; rfl
      rw [e]
      obtain ⟨t, ht⟩ : ∃ t, tk0 ((s.data.toList.drop k).drop (gapT (s.data.toList.drop k))) = t := ⟨_, rfl⟩
      have htl := tk0_le ((s.data.toList.drop k).drop (gapT (s.data.toList.drop k)))
      rw [ht, List.length_drop, hl] at htl
      by_cases h0 : t.2.2 = 0
      · rw [sc_bad (by omega) (by rw [ht]; exact h0), ht, if_pos h0]; rfl
      · rw [sc_tok (by omega) ht h0, ht, if_neg h0, if_neg (by omega), appR_app, List.drop_drop]
        rw [← Nat.add_assoc]
        exact scan_sc s hs f (k + gapT (s.data.toList.drop k) + t.2.2) _ (by omega) (by rw [List.length_append, List.length_singleton]; omega) (by omega)
    · rw [if_neg hlt, sc_end (by omega)]
      unfold appR; rw [if_pos rfl, List.append_nil]
theorem sc_code : ∀ (n k : Nat) (l : List UInt8), l.length ≤ n → ((sc k l).2.2 = 0 ∧ (sc k l).2.1 = 0) ∨ ((sc k l).2.2 = 1 ∧ (sc k l).1 = [])
  | n, k, l, h => by
    have hg := gap_len l
    by_cases he : gapT l = l.length
    · rw [sc_end he]; exact Or.inl ⟨rfl, rfl⟩
    · obtain ⟨t, ht⟩ : ∃ t, tk0 (l.drop (gapT l)) = t := ⟨_, rfl⟩
      by_cases h0 : t.2.2 = 0
      · rw [sc_bad (by omega) (by rw [ht]; exact h0)]; exact Or.inr ⟨rfl, rfl⟩
      · rw [sc_tok (by omega) ht h0]
        cases n with
        | zero => omega
        | succ n =>
          have ih := sc_code n (k + gapT l + t.2.2) (l.drop (gapT l + t.2.2)) (by rw [List.length_drop]; omega)
          unfold appR
          rcases ih with ih | ih
          · rw [if_pos ih.1]; exact Or.inl ⟨rfl, rfl⟩
          · rw [if_neg (by rw [ih.1]; decide)]; exact Or.inr ih
theorem appR_nil (k : Nat) (l : List UInt8) : appR [] (sc k l) = sc k l := by
  rcases sc_code l.length k l (Nat.le_refl _) with h | h
  · obtain ⟨⟨a, b, c⟩, hs⟩ : ∃ r, r = sc k l := ⟨_, rfl⟩
    rw [← hs] at h ⊢
    obtain ⟨h1, h2⟩ := h
    simp only at h1 h2
    subst h1; subst h2
    rfl
  · unfold appR
    rw [if_neg (by rw [h.1]; decide)]
theorem scan_eq (s : ByteArray) (hs : s.size ≤ 2000) : scanT s = sc 0 s.data.toList := by
  unfold scanT
  rw [if_neg (by omega)]
  have := scan_sc s hs (s.size + 1) 0 [] (Nat.zero_le _) (Nat.le_refl _) (by omega)
  rw [List.drop_zero, Nat.zero_add, appR_nil] at this
  exact this
/-- bytes that are not of a token may be left out ahead -/
theorem sc_skip {k d : Nat} {l : List UInt8} (hd : d ≤ l.length) (h : gapT l = d + gapT (l.drop d)) : sc k l = sc (k + d) (l.drop d) := by
  have hg := gap_len (l.drop d)
  have hl : (l.drop d).length = l.length - d := List.length_drop
  by_cases he : gapT l = l.length
  · rw [sc_end he, sc_end (by omega)]
  · have e : (l.drop d).drop (gapT (l.drop d)) = l.drop (gapT l) := by rw [List.drop_drop, ← h]
    obtain ⟨t, ht⟩ : ∃ t, tk0 (l.drop (gapT l)) = t := ⟨_, rfl⟩
    have hlt := gap_len l
    have ek : k + d + gapT (l.drop d) = k + gapT l := by omega
    by_cases h0 : t.2.2 = 0
    · rw [sc_bad (by omega) (by rw [ht]; exact h0), sc_bad (by omega) (by rw [e, ht]; exact h0), ek]
    · rw [sc_tok (by omega) ht h0, sc_tok (l := l.drop d) (by omega) (by rw [e]; exact ht) h0, ek, List.drop_drop]
      rw [show d + (gapT (l.drop d) + t.2.2) = gapT l + t.2.2 by omega]
theorem appR_if (t : List Tk) (r q : R3) : appR t (if r.2.2 = 0 then appR r.1 q else r) = if (appR t r).2.2 = 0 then appR (appR t r).1 q else appR t r := by
  by_cases h : r.2.2 = 0
  · have e : appR t r = (t ++ r.1, 0, 0) := by unfold appR; rw [if_pos h]
    rw [if_pos h, e, if_pos rfl, appR_app]
  · have e : appR t r = r := by unfold appR; rw [if_neg h]
    rw [if_neg h, e, if_neg h]
/-- two texts with a newline between them -/
theorem sc_nl (y : List UInt8) : ∀ (n : Nat) (k : Nat) (x : List UInt8), x.length ≤ n → sc k (x ++ 10 :: y) = if (sc k x).2.2 = 0 then appR (sc k x).1 (sc (k + x.length + 1) y) else sc k x
  | n, k, x, h => by
    have hg := gap_len x
    have hl : (x ++ 10 :: y).length = x.length + 1 + y.length := by rw [List.length_append, List.length_cons]; omega
    have hn := g_nl false x y
    rw [← gap_g, ← gap_g, ← gap_g] at hn
    by_cases he : gapT x = x.length
    · rw [if_pos he] at hn
      have hd : (x ++ 10 :: y).drop (x.length + 1) = y := by
        rw [← List.drop_drop, List.drop_left]; rfl
      rw [sc_skip (d := x.length + 1) (by omega) (by rw [hd]; exact hn), hd, sc_end he, if_pos rfl, appR_nil, ← Nat.add_assoc]
    · rw [if_neg he] at hn
      have hx : x.drop (gapT x) ≠ [] := by
        intro h0
        have : (x.drop (gapT x)).length = 0 := by rw [h0]; rfl
        rw [List.length_drop] at this
        omega
      obtain ⟨t, ht⟩ : ∃ t, tk0 (x.drop (gapT x)) = t := ⟨_, rfl⟩
      have ht2 : tk0 ((x ++ 10 :: y).drop (gapT (x ++ 10 :: y))) = t := by rw [hn, drop_app_le hg, tk0_nl _ _ hx, ht]
      by_cases h0 : t.2.2 = 0
      · rw [sc_bad (by omega) (by rw [ht2]; exact h0), sc_bad (by omega) (by rw [ht]; exact h0), if_neg (show ¬ (1 : Int) = 0 by decide), hn]
      · have htl := tk0_le (x.drop (gapT x))
        rw [ht, List.length_drop] at htl
        cases n with
        | zero => omega
        | succ n =>
          rw [sc_tok (by omega) ht2 h0, hn, sc_tok (by omega) ht h0, drop_app_le (by omega)]
          rw [sc_nl y n _ _ (by rw [List.length_drop]; omega), appR_if, List.length_drop]
          rw [show k + gapT x + t.2.2 + (x.length - (gapT x + t.2.2)) + 1 = k + x.length + 1 by omega]
def shT (d : Nat) (t : Tk) : Tk := (t.1, t.2.1, t.2.2 + d)
def shR (d : Nat) (r : R3) : R3 := if r.2.2 = 0 then (r.1.map (shT d), 0, 0) else (r.1, r.2.1 + d, r.2.2)
theorem sh_app (d : Nat) (t : Tk) (r : R3) : shR d (appR [t] r) = appR [shT d t] (shR d r) := by
  by_cases h : r.2.2 = 0
  · simp [shR, appR, h]
  · simp [shR, appR, h]
theorem sc_shift (d : Nat) : ∀ (n k : Nat) (l : List UInt8), l.length ≤ n → sc (k + d) l = shR d (sc k l)
  | n, k, l, h => by
    have hg := gap_len l
    by_cases he : gapT l = l.length
    · rw [sc_end he, sc_end he]; rfl
    · obtain ⟨t, ht⟩ : ∃ t, tk0 (l.drop (gapT l)) = t := ⟨_, rfl⟩
      by_cases h0 : t.2.2 = 0
      · rw [sc_bad (by omega) (by rw [ht]; exact h0), sc_bad (by omega) (by rw [ht]; exact h0)]
        unfold shR
        rw [if_neg (show ¬ (1 : Int) = 0 by decide)]
        show ([], k + d + gapT l, (1 : Int)) = ([], k + gapT l + d, 1)
        rw [show k + d + gapT l = k + gapT l + d by omega]
      · cases n with
        | zero => omega
        | succ n =>
          rw [sc_tok (by omega) ht h0, sc_tok (by omega) ht h0, sh_app, ← sc_shift d n _ _ (by rw [List.length_drop]; omega)]
          rw [show k + d + gapT l = k + gapT l + d by omega, show k + gapT l + d + t.2.2 = k + gapT l + t.2.2 + d by omega]
          rfl
end Go.Proofs.YtegobakoflbnfaaGreatDoor

namespace Go.Proofs.YtegobakoflbnfaaGreatDoor
open Go Go.RowKit

theorem tkL_set : ∀ (L : List Tk) (i : Nat) (hi : i < L.length) (n : Nat), tkL (L.set i (L[i].1, L[i].2.1, n)) = (tkL L).set (i * 3 + 2) (.int .i64 (n : Int))
  | t :: L, 0, _, n => rfl
  | t :: L, i + 1, hi, n => by
    have h := tkL_set L i (by simpa using hi) n
    have e : ∀ (u : Tk) (M : List Tk), tkL (u :: M) = .int .i64 u.1 :: .string u.2.1 :: .int .i64 (u.2.2 : Int) :: tkL M := fun _ _ => rfl
    rw [List.set_cons_succ, e, e, show (i + 1) * 3 + 2 = i * 3 + 2 + 1 + 1 + 1 by omega]
    rw [List.set_cons_succ, List.set_cons_succ, List.set_cons_succ, ← h]
    rfl
theorem grown_set (w : World) (a : Addr) (u : Value) : w.grownBy (w.setCell a u) (some a.block) :=
  ⟨rfl, rfl, rfl, by simp, fun k hk hne => heap_setCell_other w a k u (fun h => hne (by rw [h]))⟩
/-- the block of a list of tokens, if it has one -/
theorem OwnT.open {w : World} {B : Nat} {v : Value} {L : List Tk} (h : OwnT w B v L) (h0 : 0 < L.length) : ∃ g cap, v = .slice (some ⟨g, 0, none⟩) L.length cap ∧ B ≤ g ∧ g < w.heap.size ∧
    ∀ i (hi : i < L.length), w.cell? ⟨g, i * 3 + 2, none⟩ = some (.int .i64 (L[i].2.2 : Int)) ∧ w.frozen? ⟨g, i * 3 + 2, none⟩ = false ∧ ∀ n : Nat, OwnT (w.setCell ⟨g, i * 3 + 2, none⟩ (.int .i64 (n : Int))) B v (L.set i (L[i].1, L[i].2.1, n)) := by
  have ht := h.tokAt
  obtain ⟨⟨h1, h2⟩, h3⟩ := h
  rcases h2 with ⟨_, h2⟩ | ⟨g, cap, cur, rfl, a1, a2, a3, a4, a5, a6⟩
  · omega
  · refine ⟨g, cap, rfl, a1, lt_of_block a2, fun i hi => ?_⟩
    obtain ⟨o, cap', e, ht⟩ := ht
    injection e with e1 e2 e3
    subst e1
    obtain ⟨g', e4, hc⟩ := ht h0
    injection e4 with e5
    injection e5 with e6
    subst e6
    refine ⟨(hc i hi).2.2, frozen_of_row _ _ _ _ _ a2, fun n => ⟨⟨?_, ?_⟩, ?_⟩⟩
    · rw [tkL_len]
    · refine Or.inr ⟨g, cap, cur.setIfInBounds (i * 3 + 2) (.int .i64 (n : Int)), by rw [List.length_set], a1, heap_setCell_same _ _ _ _ _ _ a2, by rw [List.length_set]; exact a3, a4, by rw [Array.size_setIfInBounds]; exact a5, ?_⟩
      rw [tkL_set L i hi n, ← a6, Array.toList_setIfInBounds, List.length_set, List.take_set]
    · exact Nat.le_trans h3 (by simp)
theorem OwnT.grown {w w' : World} {B : Nat} {v : Value} {L : List Tk} {r : Option Nat} (h : OwnT w B v L) (hg : w.grownBy w' r) (hne : v.ownBlock = none ∨ v.ownBlock ≠ r) : OwnT w' B v L :=
  ⟨h.1.kept hg hne, Nat.le_trans h.2 hg.size⟩
theorem OwnT.weak {w : World} {B C : Nat} {v : Value} {L : List Tk} (h : OwnT w B v L) (hC : C ≤ B) : OwnT w C v L := by
  obtain ⟨⟨h1, h2⟩, h3⟩ := h
  refine ⟨⟨h1, ?_⟩, Nat.le_trans hC h3⟩
  rcases h2 with h2 | ⟨g, cap, cur, rfl, a1, a2⟩
  · exact Or.inl h2
  · exact Or.inr ⟨g, cap, cur, rfl, Nat.le_trans hC a1, a2⟩
set_option maxRecDepth 100000 in
theorem tok_apps {ops : Array Oper} {rest : List Oper} {o : Oper} {a : Act} {w : World} {Q : Exit → Act → World → Prop} (hgd : o.guard = none) (s x : Operand)
    (ho : o.op = .call { callee := .builtin .append, args := #[s, x], argTypes := #[22, 22] }) {B B2 : Nat} {v v2 : Value} {L M : List Tk} (hs : a.eval s = v) (hown : OwnT w B v L)
    (hx : a.eval x = v2) (hM : OwnT w B2 v2 M) (hL : L.length + M.length ≤ 4000)
    (h : ∀ v' w', OwnT w' B v' (L ++ M) → w.grownBy w' v.ownBlock → (∀ W C, C ≤ B → Below C W w → Below C W w') → wpList Tryz.prog ops Q rest (a.put o.dst v') w') : wpList Tryz.prog ops Q (o :: rest) a w := by
  obtain ⟨i0, hi, hz0, hz1, hz2⟩ := info_parts tok_info
  rcases Nat.eq_zero_or_pos M.length with hM0 | hM0
  · have hMn := List.eq_nil_of_length_eq_zero hM0
    subst hMn
    obtain ⟨⟨h1, h2⟩, h3⟩ := hM
    rcases h2 with ⟨rfl, _⟩ | ⟨g, cap, cur, rfl, a1, a2, a3, a4, a5, a6⟩
    · refine wpList_append_own_none hgd s x 22 ho B 37 i0 3 Tryz.underlying22 hi v L.length (tkL L) hs hown.1 hx ?_
      refine h v w ?_ (World.grownBy.refl _ _) (fun _ _ _ hb => hb)
      rw [List.append_nil]; exact hown
    · refine wpList_append_own w hgd s x 22 ho B 37 i0 (.agg #[.int .i64 0, .string ⟨#[]⟩, .int .i64 0]) 3 32 Tryz.underlying22 hi hz0 hz1 hz2 rfl (by omega) v L.length (tkL L) hs hown.1 ⟨g, 0, none⟩ 0 cap [] hx rfl (by intro j u hu; simp at hu) (by intro u hu; simp at hu) (by unfold maxLen; simp at hL; omega) (by simp at hL; omega) hown.2 ?_
      intro v' w' h1 h2 _
      refine h v' w' ⟨?_, Nat.le_trans hown.2 h2.size⟩ h2 fun W C hC hb => hb.grown h2 (Nat.le_trans hC hown.2) (fun k hk => Nat.le_trans hC (World.ownsRow.lt hown.1 k hk).1)
      rw [List.append_nil]
      rw [List.append_nil] at h1
      exact h1
  · obtain ⟨o2, c2, rfl, ht⟩ := hM.tokAt
    obtain ⟨g, rfl, hc⟩ := ht hM0
    refine wpList_append_own w hgd s x 22 ho B 37 i0 (.agg #[.int .i64 0, .string ⟨#[]⟩, .int .i64 0]) 3 32 Tryz.underlying22 hi hz0 hz1 hz2 rfl (by omega) v L.length (tkL L) hs hown.1 ⟨g, 0, none⟩ M.length c2 (tkL M) hx (tkL_len M) ?_ ?_ (by unfold maxLen; omega) (by omega) hown.2 ?_
    · intro j u hu
      have hj : j < M.length * 3 := by
        rw [← tkL_len]
        exact (List.getElem?_eq_some_iff.1 hu).1
      obtain ⟨i, r, rfl, hr⟩ : ∃ i r, j = i * 3 + r ∧ r < 3 := ⟨j / 3, j % 3, by omega, by omega⟩
      have hi2 : i < M.length := by omega
      obtain ⟨b0, b1, b2⟩ := tkL_at M i hi2
      obtain ⟨d0, d1, d2⟩ := hc i hi2
      have ha : (⟨g, 0, none⟩ : Addr).add (i * 3 + r) = ⟨g, i * 3 + r, none⟩ := by
        unfold Addr.add
        split
        · rename_i h0; rw [h0]
        · show (⟨g, 0 + (i * 3 + r), none⟩ : Addr) = _; rw [Nat.zero_add]
      rw [ha]
      match r, hr, hu with
      | 0, _, hu => rw [Nat.add_zero] at hu ⊢; rw [b0] at hu; rw [← hu]; exact d0
      | 1, _, hu => rw [b1] at hu; rw [← hu]; exact d1
      | 2, _, hu => rw [b2] at hu; rw [← hu]; exact d2
    · intro u hu
      unfold tkL at hu
      obtain ⟨t, _, ht2⟩ := List.mem_flatMap.1 hu
      simp [tkC] at ht2
      rcases ht2 with rfl | rfl | rfl <;> rfl
    · intro v' w' h1 h2 _
      refine h v' w' ⟨?_, Nat.le_trans hown.2 h2.size⟩ h2 fun W C hC hb => hb.grown h2 (Nat.le_trans hC hown.2) (fun k hk => Nat.le_trans hC (World.ownsRow.lt hown.1 k hk).1)
      rw [List.length_append]
      have : tkL (L ++ M) = tkL L ++ tkL M := by unfold tkL; exact List.flatMap_append
      rw [this]
      exact h1
end Go.Proofs.YtegobakoflbnfaaGreatDoor
