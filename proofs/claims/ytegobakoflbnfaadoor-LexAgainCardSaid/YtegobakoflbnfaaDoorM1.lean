/- The tokens of a text, as a list of bytes: what stands behind a token matters little. -/
import Derived.Test.YtegobakoflbnfaaDoorU
namespace Go.Proofs.YtegobakoflbnfaaDoor
open Go Go.RowKit

theorem pre_app (p : UInt8 → Bool) : ∀ (a b : List UInt8), a.all p = true → pre p (a ++ b) = a.length + pre p b
  | [], b, _ => by simp
  | c :: a, b, h => by
    rw [List.all_cons, Bool.and_eq_true] at h
    have := pre_app p a b h.2
    unfold pre at this ⊢
    rw [List.cons_append, List.takeWhile_cons, h.1, if_pos rfl, List.length_cons, this, List.length_cons]
    omega
theorem pre_stop (p : UInt8 → Bool) : ∀ (a : List UInt8) (c : UInt8) (b : List UInt8), p c = false → pre p (a ++ c :: b) = pre p a
  | [], c, b, h => by
    unfold pre
    rw [List.nil_append, List.takeWhile_cons, h]; rfl
  | d :: a, c, b, h => by
    have := pre_stop p a c b h
    unfold pre at this ⊢
    rw [List.cons_append, List.takeWhile_cons, List.takeWhile_cons]
    split
    · rw [List.length_cons, List.length_cons, this]
    · rfl
theorem pre_nil (p : UInt8 → Bool) : pre p [] = 0 := rfl
theorem pre_no (p : UInt8 → Bool) (c : UInt8) (b : List UInt8) (h : p c = false) : pre p (c :: b) = 0 := pre_stop p [] c b h
theorem pre_yes (p : UInt8 → Bool) (c : UInt8) (b : List UInt8) (h : p c = true) : pre p (c :: b) = pre p b + 1 := by
  have := pre_app p [c] b (by simp [h])
  rw [List.singleton_append] at this
  rw [this]; simp; omega
theorem pre_zero_take {p : UInt8 → Bool} : ∀ {l : List UInt8} (j : Nat), pre p l = 0 → pre p (l.take j) = 0
  | [], j, _ => by rw [List.take_nil]; rfl
  | c :: l, 0, _ => rfl
  | c :: l, j + 1, h => by
    rw [List.take_succ_cons]
    cases hc : p c
    · exact pre_no p c _ hc
    · rw [pre_yes p c _ hc] at h; omega
theorem pre_drop (p : UInt8 → Bool) : ∀ (l : List UInt8), pre p (l.drop (pre p l)) = 0
  | [] => rfl
  | c :: l => by
    cases hc : p c
    · rw [pre_no p c _ hc]; exact pre_no p c _ hc
    · rw [pre_yes p c _ hc, List.drop_succ_cons]; exact pre_drop p l
theorem hp_nil (a : UInt8) : Lib.hasPrefix [] [a] = false := rfl
theorem hp_cons (a b : UInt8) (l : List UInt8) : Lib.hasPrefix (b :: l) [a] = (a == b) := by
  unfold Lib.hasPrefix
  simp [List.isPrefixOf]
theorem hp_app (x : List UInt8) (a c : UInt8) (y : List UInt8) (h : a ≠ c) : Lib.hasPrefix (x ++ c :: y) [a] = Lib.hasPrefix x [a] := by
  cases x with
  | nil => rw [List.nil_append, hp_cons, hp_nil, beq_eq_false_iff_ne]; exact h
  | cons d x => rw [List.cons_append, hp_cons, hp_cons]
def isWs (c : UInt8) : Bool := c == 32 || c == 9 || c == 10
theorem u8_all {p : UInt8 → Bool} (h : ((List.range 256).all fun n => p (UInt8.ofNat n)) = true) (c : UInt8) : p c = true := by
  have h1 := List.all_eq_true.1 h c.toNat (List.mem_range.2 c.toNat_lt)
  rwa [UInt8.ofNat_toNat] at h1
theorem ws_in (c : UInt8) : inC wsC c = isWs c := by
  have := u8_all (p := fun c => inC wsC c == isWs c) (by decide +kernel) c
  simpa using this
theorem ws_word {c : UInt8} (h : isWs c = true) : inC [3, 4, 5] c = false := by
  have := u8_all (p := fun c => !isWs c || !inC [3, 4, 5] c) (by decide +kernel) c
  simpa [h] using this
theorem ws_dig {c : UInt8} (h : isWs c = true) : inC digC c = false := by
  have := u8_all (p := fun c => !isWs c || !inC digC c) (by decide +kernel) c
  simpa [h] using this
theorem nl_str : inC strC 10 = false := by decide +kernel
theorem qu_str : inC strC 34 = false := by decide +kernel
theorem dbl_cons (a b : UInt8) (l : List UInt8) : isDbl dbl (a :: b :: l) = isDbl dbl [a, b] := by
  simp [isDbl, dbl, Lib.hasPrefix, List.isPrefixOf]
theorem dbl_one (a : UInt8) : isDbl dbl [a] = false := by
  simp [isDbl, dbl, Lib.hasPrefix, List.isPrefixOf]
theorem dbl_ws (a c : UInt8) (l : List UInt8) (h : isWs c = true) : isDbl dbl (a :: c :: l) = false := by
  unfold isWs at h
  simp only [Bool.or_eq_true, beq_iff_eq] at h
  rcases h with (rfl | rfl) | rfl <;> simp [isDbl, dbl, Lib.hasPrefix, List.isPrefixOf]

/-- the token that a list of bytes begins with -/
def tk0 (l : List UInt8) : T3 := firstT ⟨l.toArray⟩
theorem ext_list (l : List UInt8) (n : Nat) : (⟨l.toArray⟩ : ByteArray).extract 0 n = ⟨(l.take n).toArray⟩ := by
  apply ByteArray.ext
  rw [← Array.toList_inj, toList_extract]
  simp
theorem ext_list1 (l : List UInt8) (n : Nat) : (⟨l.toArray⟩ : ByteArray).extract 1 (1 + n) = ⟨((l.drop 1).take n).toArray⟩ := by
  apply ByteArray.ext
  rw [← Array.toList_inj, toList_extract]
  simp [List.drop_take]
theorem from_list (s : ByteArray) (i : Nat) : s.extract i s.size = ⟨(s.data.toList.drop i).toArray⟩ := by
  apply ByteArray.ext
  rw [← Array.toList_inj, toList_from]
def clL : List UInt8 → Int
  | [] => -1
  | b :: _ => classN b.toNat
def wordL (l : List UInt8) : T3 :=
  if 20 < pre (inC [3, 4, 5]) l then noT
  else (if isKey (l.take (pre (inC [3, 4, 5]) l)) then 2 else 1, ⟨(l.take (pre (inC [3, 4, 5]) l)).toArray⟩, pre (inC [3, 4, 5]) l)
def numL (l : List UInt8) : T3 :=
  if 15 < pre (inC digC) l ∨ 15 < placesT l (pre (inC digC) l) then noT
  else (3, ⟨(fracL (l.take (pre (inC digC) l)) ((l.drop (pre (inC digC) l + 1)).take (placesT l (pre (inC digC) l)))).toArray⟩, numLen (pre (inC digC) l) (placesT l (pre (inC digC) l)))
def quoL (l : List UInt8) : T3 :=
  if 40 < pre (inC strC) (l.drop 1) ∨ Lib.hasPrefix (l.drop (1 + pre (inC strC) (l.drop 1))) [34] = false then noT
  else (4, ⟨((l.drop 1).take (pre (inC strC) (l.drop 1))).toArray⟩, pre (inC strC) (l.drop 1) + 2)
def symL (l : List UInt8) : T3 := (5, ⟨(l.take (symN l)).toArray⟩, symN l)
theorem tk0_eq (l : List UInt8) : tk0 l = if clL l = 3 then wordL l else if clL l = 4 then numL l else if clL l = 6 then quoL l else if clL l = 7 then symL l else noT := by
  unfold tk0 firstT
  have h1 : cl0 ⟨l.toArray⟩ = clL l := by unfold cl0 clL; cases l <;> rfl
  have h2 : wordT ⟨l.toArray⟩ = wordL l := by
    unfold wordT wordL
    rw [ext_list, Lib.toList_data]
    show (if 20 < pre (inC [3, 4, 5]) l then noT else if isKey (l.take (pre (inC [3, 4, 5]) l)) = true then _ else _) = _
    split
    · rfl
    · by_cases h : isKey (l.take (pre (inC [3, 4, 5]) l)) = true
      · rw [if_pos h, if_pos h]
      · rw [if_neg h, if_neg h]
  have h3 : numberT ⟨l.toArray⟩ = numL l := rfl
  have h4 : quotedT ⟨l.toArray⟩ = quoL l := by
    unfold quotedT quoL
    rw [ext_list1]
  have h5 : symT ⟨l.toArray⟩ = symL l := by
    unfold symT symL
    rw [ext_list]
  rw [h1, h2, h3, h4, h5]
theorem cl_app (x y : List UInt8) (h : x ≠ []) : clL (x ++ y) = clL x := by
  cases x with
  | nil => exact absurd rfl h
  | cons a x => rfl
theorem take_app_le {x y : List UInt8} {n : Nat} (h : n ≤ x.length) : (x ++ y).take n = x.take n := by
  rw [List.take_append_of_le_length h]
theorem drop_app_le {x y : List UInt8} {n : Nat} (h : n ≤ x.length) : (x ++ y).drop n = x.drop n ++ y := by
  rw [List.drop_append_of_le_length h]
/-- a newline behind a text changes nothing of the token that the text begins with -/
theorem tk0_nl (x y : List UInt8) (hx : x ≠ []) : tk0 (x ++ 10 :: y) = tk0 x := by
  rw [tk0_eq, tk0_eq, cl_app _ _ hx]
  have hw : wordL (x ++ 10 :: y) = wordL x := by
    unfold wordL
    rw [pre_stop _ _ _ _ (ws_word (by decide)), take_app_le (pre_le _ _)]
  have hp : placesT (x ++ 10 :: y) (pre (inC digC) x) = placesT x (pre (inC digC) x) := by
    unfold placesT
    have h1 := pre_le (inC digC) x
    rw [drop_app_le h1, hp_app _ _ _ _ (by decide)]
    cases hh : Lib.hasPrefix (x.drop (pre (inC digC) x)) [46]
    · rfl
    · obtain ⟨u, hu⟩ := has_one hh
      have : (x.drop (pre (inC digC) x)).length = u.length + 1 := by rw [hu]; rfl
      rw [List.length_drop] at this
      rw [if_pos rfl, if_pos rfl, drop_app_le (by omega), pre_stop _ _ _ _ (ws_dig (by decide))]
  have hn : numL (x ++ 10 :: y) = numL x := by
    unfold numL
    rw [pre_stop _ _ _ _ (ws_dig (by decide)), hp, take_app_le (pre_le _ _)]
    by_cases h0 : placesT x (pre (inC digC) x) = 0
    · rw [h0, List.take_zero, List.take_zero]
    · have h1 : pre (inC digC) x + 1 + placesT x (pre (inC digC) x) ≤ x.length := by
        have := places_le x (pre (inC digC) x) (pre_le _ _)
        unfold numLen at this
        rw [if_pos (by omega)] at this
        omega
      rw [drop_app_le (by omega), take_app_le (by rw [List.length_drop]; omega)]
  have hq : quoL (x ++ 10 :: y) = quoL x := by
    obtain ⟨a, x, rfl⟩ : ∃ a t, x = a :: t := by cases x with | nil => exact absurd rfl hx | cons a t => exact ⟨a, t, rfl⟩
    unfold quoL
    have e1 : (a :: x ++ 10 :: y).drop 1 = x ++ 10 :: y := rfl
    have e2 : (a :: x).drop 1 = x := rfl
    have e3 : ∀ k, (a :: x ++ 10 :: y).drop (1 + k) = (x ++ 10 :: y).drop k := fun k => by rw [Nat.add_comm]; rfl
    have e4 : ∀ k, (a :: x).drop (1 + k) = x.drop k := fun k => by rw [Nat.add_comm]; rfl
    rw [e1, e2, pre_stop _ _ _ _ nl_str, e3, e4, drop_app_le (pre_le _ _), hp_app _ _ _ _ (by decide), take_app_le (pre_le _ _)]
  have hs : symL (x ++ 10 :: y) = symL x := by
    obtain ⟨a, x, rfl⟩ : ∃ a t, x = a :: t := by cases x with | nil => exact absurd rfl hx | cons a t => exact ⟨a, t, rfl⟩
    have hd : isDbl dbl (a :: x ++ 10 :: y) = isDbl dbl (a :: x) := by
      cases x with
      | nil => rw [dbl_one]; exact dbl_ws _ _ _ (by decide)
      | cons b x => rw [dbl_cons a b x]; exact dbl_cons a b _
    have hN : symN (a :: x ++ 10 :: y) = symN (a :: x) := by unfold symN; rw [hd]
    unfold symL
    rw [hN]
    have hle : symN (a :: x) ≤ (a :: x).length := by
      cases x with
      | nil => unfold symN; rw [dbl_one]; exact Nat.le_refl _
      | cons b x => unfold symN; split <;> simp
    rw [take_app_le hle]
  rw [hw, hn, hq, hs]
end Go.Proofs.YtegobakoflbnfaaDoor
