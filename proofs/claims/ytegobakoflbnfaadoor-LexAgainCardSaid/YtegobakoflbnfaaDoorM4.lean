/- What stands behind a token may be cut off, or be another thing, as long as it does not make the token longer. -/
import Derived.Test.YtegobakoflbnfaaDoorM2
namespace Go.Proofs.YtegobakoflbnfaaDoor
open Go Go.RowKit

/-- r begins as l does, or with a blank: what comes behind the first blank does not matter, nor what comes behind two bytes -/
def Near (r l : List UInt8) : Prop :=
  r = [] ∨ ∃ c r2, r = c :: r2 ∧ (isWs c = true ∨ ∃ l2, l = c :: l2 ∧ (r2 = [] ∨ ∃ d r3, r2 = d :: r3 ∧ (isWs d = true ∨ ∃ l3, l2 = d :: l3)))
theorem Near.nil (l : List UInt8) : Near [] l := Or.inl rfl
theorem Near.ws (c : UInt8) (r l : List UInt8) (h : isWs c = true) : Near (c :: r) l := Or.inr ⟨c, r, rfl, Or.inl h⟩
theorem Near.take (l : List UInt8) (j : Nat) : Near (l.take j) l := by
  match l, j with
  | [], _ => rw [List.take_nil]; exact Near.nil _
  | _ :: _, 0 => exact Near.nil _
  | c :: l2, j + 1 =>
    refine Or.inr ⟨c, l2.take j, by rw [List.take_succ_cons], Or.inr ⟨l2, rfl, ?_⟩⟩
    match l2, j with
    | [], _ => rw [List.take_nil]; exact Or.inl rfl
    | _ :: _, 0 => exact Or.inl rfl
    | d :: l3, j + 1 => exact Or.inr ⟨d, l3.take j, by rw [List.take_succ_cons], Or.inr ⟨l3, rfl⟩⟩
theorem Near.pre {p : UInt8 → Bool} (hp : ∀ c, isWs c = true → p c = false) {r l : List UInt8} (h : Near r l) (h0 : pre p l = 0) : pre p r = 0 := by
  rcases h with rfl | ⟨c, r2, rfl, h⟩
  · rfl
  · rcases h with h | ⟨l2, rfl, h⟩
    · exact pre_no _ _ _ (hp c h)
    · cases hc : p c
      · exact pre_no _ _ _ hc
      · rw [pre_yes _ _ _ hc] at h0; omega
theorem word_loc {l r : List UInt8} (hn : Near r (l.drop (pre (inC [3, 4, 5]) l))) : wordL (l.take (pre (inC [3, 4, 5]) l) ++ r) = wordL l := by
  have e : pre (inC [3, 4, 5]) (l.take (pre (inC [3, 4, 5]) l) ++ r) = pre (inC [3, 4, 5]) l := by
    rw [pre_app _ _ _ (pre_all _ _), hn.pre (fun c hc => ws_word hc) (pre_drop _ _), List.length_take]
    have := pre_le (inC [3, 4, 5]) l
    omega
  unfold wordL
  rw [e, take_app_le (by rw [List.length_take]; have := pre_le (inC [3, 4, 5]) l; omega), List.take_take, Nat.min_self]
theorem num_loc {l r : List UInt8} {w p : Nat} (hwe : w = pre (inC digC) l) (hpe : p = placesT l w) (hn : Near r (l.drop (numLen w p))) : numL (l.take (numLen w p) ++ r) = numL l := by
  have hw := pre_le (inC digC) l
  have hall := pre_all (inC digC) l
  have hwd := pre_drop (inC digC) l
  unfold numL
  rw [← hwe] at hw hall hwd ⊢
  rw [← hpe]
  have hlw : (l.take w).length = w := by rw [List.length_take]; omega
  by_cases hp : 0 < p
  · have hN : numLen w p = w + (1 + p) := by unfold numLen; rw [if_pos hp]
    rw [hN] at hn ⊢
    have hh : Lib.hasPrefix (l.drop w) [46] = true := by
      unfold placesT at hpe
      split at hpe
      · assumption
      · omega
    obtain ⟨u, hu⟩ := has_one hh
    have hu2 : l.drop (w + 1) = u := by rw [← List.drop_drop, hu]; rfl
    have hpu : p = pre (inC digC) u := by
      unfold placesT at hpe
      rw [if_pos hh, hu2] at hpe
      exact hpe
    have hpl := pre_le (inC digC) u
    have ht : l.take (w + (1 + p)) = l.take w ++ 46 :: u.take p := by
      rw [List.take_add, hu, show 1 + p = p + 1 by omega, List.take_succ_cons]
    have hd : l.drop (w + (1 + p)) = u.drop p := by rw [← Nat.add_assoc, ← List.drop_drop, hu2]
    rw [hd] at hn
    have hr0 : pre (inC digC) r = 0 := hn.pre (fun c hc => ws_dig hc) (by rw [hpu]; exact pre_drop _ _)
    have e1 : pre (inC digC) (l.take (w + (1 + p)) ++ r) = w := by
      rw [ht, List.append_assoc, pre_app _ _ _ hall, List.cons_append, pre_no _ _ _ (by decide +kernel), hlw, Nat.add_zero]
    have e2 : (l.take (w + (1 + p)) ++ r).drop w = 46 :: (u.take p ++ r) := by
      rw [ht, List.append_assoc]
      have := List.drop_left (l₁ := l.take w) (l₂ := 46 :: u.take p ++ r)
      rw [hlw] at this
      exact this
    have e3 : (l.take (w + (1 + p)) ++ r).drop (w + 1) = u.take p ++ r := by rw [← List.drop_drop, e2]; rfl
    have hup : (u.take p).length = p := by rw [List.length_take]; omega
    have e4 : placesT (l.take (w + (1 + p)) ++ r) w = p := by
      unfold placesT
      rw [e2, hp_cons, e3, pre_app _ _ _ (by rw [hpu]; exact pre_all _ _), hr0, hup]; rfl
    have e5 : (u.take p ++ r).take p = u.take p := by rw [take_app_le (by omega), List.take_take, Nat.min_self]
    have e6 : (l.take (w + (1 + p)) ++ r).take w = l.take w := by
      rw [ht, List.append_assoc, take_app_le (by omega), List.take_take, Nat.min_self]
    rw [e1, e4, e3, e5, e6, hN, hu2]
  · have hp0 : p = 0 := by omega
    have hN : numLen w p = w := by unfold numLen; rw [if_neg hp]
    rw [hN] at hn ⊢
    have hr0 : pre (inC digC) r = 0 := hn.pre (fun c hc => ws_dig hc) hwd
    have e1 : pre (inC digC) (l.take w ++ r) = w := by rw [pre_app _ _ _ hall, hr0, hlw, Nat.add_zero]
    have e2 : (l.take w ++ r).drop w = r := by
      have := List.drop_left (l₁ := l.take w) (l₂ := r)
      rw [hlw] at this
      exact this
    have e4 : placesT (l.take w ++ r) w = 0 := by
      unfold placesT
      rw [← List.drop_drop, e2]
      rcases hn with rfl | ⟨c, r2, rfl, h⟩
      · rw [hp_nil]; rfl
      · rw [hp_cons]
        by_cases hc : (46 : UInt8) = c
        · subst hc
          rw [beq_self_eq_true, if_pos rfl]
          show pre (inC digC) r2 = 0
          rcases h with h | ⟨l2, hl2, h⟩
          · exact absurd h (by decide)
          · have hl3 : l.drop (w + 1) = l2 := by rw [← List.drop_drop, hl2]; rfl
            have hz : pre (inC digC) l2 = 0 := by
              unfold placesT at hpe
              rw [hl2, hp_cons, hl3, beq_self_eq_true, if_pos rfl] at hpe
              omega
            rcases h with rfl | ⟨d, r3, rfl, h⟩
            · rfl
            · rcases h with h | ⟨l3, rfl⟩
              · exact pre_no _ _ _ (ws_dig h)
              · cases hd : inC digC d
                · exact pre_no _ _ _ hd
                · rw [pre_yes _ _ _ hd] at hz; omega
        · rw [show ((46 : UInt8) == c) = false from by rw [beq_eq_false_iff_ne]; exact hc]; rfl
    rw [e1, e4, hp0, List.take_zero, List.take_zero, take_app_le (by omega), List.take_take, Nat.min_self]
    rfl
theorem quo_loc {b : UInt8} {m r : List UInt8} {k : Nat} (hk : k = pre (inC strC) m) (hh : Lib.hasPrefix (m.drop k) [34] = true) : quoL ((b :: m).take (k + 2) ++ r) = quoL (b :: m) := by
  have hall := pre_all (inC strC) m
  unfold quoL
  have hd1 : (b :: m).drop 1 = m := rfl
  rw [hd1, ← hk] at *
  have hdk : ∀ t : List UInt8, (b :: t).drop (1 + k) = t.drop k := fun t => by rw [Nat.add_comm]; rfl
  obtain ⟨u, hu⟩ := has_one hh
  have hkm : k + 1 ≤ m.length := by
    have : (m.drop k).length = u.length + 1 := by rw [hu]; rfl
    rw [List.length_drop] at this; omega
  have hlk : (m.take k).length = k := by rw [List.length_take]; omega
  have ht : (b :: m).take (k + 2) ++ r = b :: (m.take k ++ 34 :: r) := by
    rw [List.take_succ_cons, List.take_add, hu]
    simp
  rw [ht]
  have e1 : (b :: (m.take k ++ 34 :: r)).drop 1 = m.take k ++ 34 :: r := rfl
  have e2 : pre (inC strC) (m.take k ++ 34 :: r) = k := by rw [pre_app _ _ _ hall, pre_no _ _ _ qu_str, hlk, Nat.add_zero]
  have e3 : (m.take k ++ 34 :: r).drop k = 34 :: r := by
    have := List.drop_left (l₁ := m.take k) (l₂ := 34 :: r)
    rw [hlk] at this
    exact this
  rw [e1, e2, hdk, hdk, e3, hh, hp_cons, take_app_le (by omega), List.take_take, Nat.min_self]
  rfl
theorem sym_loc {b : UInt8} {m r : List UInt8} (hn : Near r ((b :: m).drop (symN (b :: m)))) : symL ((b :: m).take (symN (b :: m)) ++ r) = symL (b :: m) := by
  have hdd : isDbl dbl ((b :: m).take (symN (b :: m)) ++ r) = isDbl dbl (b :: m) := by
    unfold symN at hn ⊢
    cases hd : isDbl dbl (b :: m)
    · rw [hd] at hn
      have hn2 : Near r m := hn
      show isDbl dbl (b :: r) = false
      rcases hn2 with rfl | ⟨c, r2, rfl, h⟩
      · exact dbl_one b
      · rcases h with h | ⟨l2, rfl, -⟩
        · exact dbl_ws _ _ _ h
        · rw [dbl_cons] at hd ⊢; exact hd
    · cases m with
      | nil => rw [dbl_one] at hd; cases hd
      | cons c m =>
        rw [dbl_cons] at hd
        show isDbl dbl (b :: c :: r) = true
        rw [dbl_cons]; exact hd
  have hN : symN ((b :: m).take (symN (b :: m)) ++ r) = symN (b :: m) := by
    show (if isDbl dbl ((b :: m).take (symN (b :: m)) ++ r) = true then 2 else 1) = symN (b :: m)
    rw [hdd]; rfl
  have hle : symN (b :: m) ≤ (b :: m).length := by
    cases m with
    | nil => unfold symN; rw [dbl_one]; exact Nat.le_refl _
    | cons c m => unfold symN; split <;> simp
  unfold symL
  rw [hN, take_app_le (by rw [List.length_take]; omega), List.take_take, Nat.min_self]
theorem tk0_loc {l r : List UInt8} {t : T3} (ht : tk0 l = t) (h0 : t.2.2 ≠ 0) (hn : Near r (l.drop t.2.2)) : tk0 (l.take t.2.2 ++ r) = t := by
  have hle := tk0_le l
  obtain ⟨b, m, rfl⟩ : ∃ b m, l = b :: m := by
    cases l with
    | nil => rw [tk0_eq] at ht; subst ht; exact absurd rfl h0
    | cons b m => exact ⟨b, m, rfl⟩
  have hcl : clL ((b :: m).take t.2.2 ++ r) = clL (b :: m) := by
    obtain ⟨n, hne⟩ : ∃ n, n + 1 = t.2.2 := ⟨t.2.2 - 1, by omega⟩
    rw [← hne]; rfl
  rw [tk0_eq] at ht
  rw [tk0_eq, hcl]
  by_cases h3 : clL (b :: m) = 3
  · rw [if_pos h3] at ht ⊢
    by_cases h20 : 20 < pre (inC [3, 4, 5]) (b :: m)
    · unfold wordL at ht
      rw [if_pos h20] at ht; subst ht; exact absurd rfl h0
    · have e : t.2.2 = pre (inC [3, 4, 5]) (b :: m) := by rw [← ht]; unfold wordL; rw [if_neg h20]
      rw [e] at hn ⊢
      rw [word_loc hn, ht]
  · rw [if_neg h3] at ht ⊢
    by_cases h4 : clL (b :: m) = 4
    · rw [if_pos h4] at ht ⊢
      by_cases h15 : 15 < pre (inC digC) (b :: m) ∨ 15 < placesT (b :: m) (pre (inC digC) (b :: m))
      · unfold numL at ht
        rw [if_pos h15] at ht; subst ht; exact absurd rfl h0
      · have e : t.2.2 = numLen (pre (inC digC) (b :: m)) (placesT (b :: m) (pre (inC digC) (b :: m))) := by rw [← ht]; unfold numL; rw [if_neg h15]
        rw [e] at hn ⊢
        rw [num_loc rfl rfl hn, ht]
    · rw [if_neg h4] at ht ⊢
      by_cases h6 : clL (b :: m) = 6
      · rw [if_pos h6] at ht ⊢
        by_cases h40 : 40 < pre (inC strC) m ∨ Lib.hasPrefix (m.drop (pre (inC strC) m)) [34] = false
        · have h41 : 40 < pre (inC strC) ((b :: m).drop 1) ∨ Lib.hasPrefix ((b :: m).drop (1 + pre (inC strC) ((b :: m).drop 1))) [34] = false := by
            rw [Nat.add_comm 1]; exact h40
          unfold quoL at ht
          rw [if_pos h41] at ht; subst ht; exact absurd rfl h0
        · have h41 : ¬ (40 < pre (inC strC) ((b :: m).drop 1) ∨ Lib.hasPrefix ((b :: m).drop (1 + pre (inC strC) ((b :: m).drop 1))) [34] = false) := by
            rw [Nat.add_comm 1]; exact h40
          have e : t.2.2 = pre (inC strC) m + 2 := by rw [← ht]; unfold quoL; rw [if_neg h41]; rfl
          have hh : Lib.hasPrefix (m.drop (pre (inC strC) m)) [34] = true := by
            cases hc : Lib.hasPrefix (m.drop (pre (inC strC) m)) [34]
            · exact absurd (Or.inr hc) h40
            · rfl
          rw [e, quo_loc rfl hh, ht]
      · rw [if_neg h6] at ht ⊢
        by_cases h7 : clL (b :: m) = 7
        · rw [if_pos h7] at ht ⊢
          have e : t.2.2 = symN (b :: m) := by rw [← ht]; rfl
          rw [e] at hn ⊢
          rw [sym_loc hn, ht]
        · rw [if_neg h7] at ht
          subst ht; exact absurd rfl h0
/-- what is no gap stays so -/
theorem gap_loc {l r : List UInt8} {n : Nat} (hn : 0 < n) (hl : n ≤ l.length) (h0 : gG false l = 0) (h : Near r (l.drop n)) : gG false (l.take n ++ r) = 0 := by
  obtain ⟨b, m, rfl⟩ : ∃ b m, l = b :: m := by
    cases l with
    | nil => simp at hl; omega
    | cons b m => exact ⟨b, m, rfl⟩
  obtain ⟨n, rfl⟩ : ∃ k, n = k + 1 := ⟨n - 1, by omega⟩
  rw [gG] at h0
  rw [List.take_succ_cons, List.cons_append, gG]
  cases hw : isWs b
  · rw [hw, if_neg (by decide)] at h0
    rw [if_neg (by decide)]
    cases h47 : (b == 47)
    · rw [Bool.false_and, if_neg (by decide)]
    · rw [h47, Bool.true_and] at h0
      rw [Bool.true_and]
      have hm : Lib.hasPrefix m [47] = false := by
        cases hc : Lib.hasPrefix m [47]
        · rfl
        · rw [hc, if_pos rfl] at h0; omega
      have : Lib.hasPrefix (m.take n ++ r) [47] = false := by
        cases n with
        | zero =>
          rw [List.take_zero, List.nil_append]
          have h2 : Near r m := h
          clear h
          rcases h2 with rfl | ⟨c, r2, rfl, h3⟩
          · rfl
          · rw [hp_cons]
            rcases h3 with h4 | ⟨l2, rfl, -⟩
            · rw [beq_eq_false_iff_ne]; intro h9; subst h9; exact absurd h4 (by decide)
            · rw [hp_cons] at hm; exact hm
        | succ n =>
          cases m with
          | nil => simp at hl
          | cons c m => rw [List.take_succ_cons, List.cons_append, hp_cons]; rw [hp_cons] at hm; exact hm
      rw [this, if_neg (by decide)]
  · rw [hw, if_pos rfl] at h0; omega
end Go.Proofs.YtegobakoflbnfaaDoor
