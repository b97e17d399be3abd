/- Tokens with blanks between them are read back. -/
import Derived.Test.YtegobakoflbnfaaDoorTx
import Derived.Test.YtegobakoflbnfaaDoorSp
namespace Go.Proofs.YtegobakoflbnfaaDoor
open Go Go.RowKit

/-- a text that is a token whole begins with no gap -/
theorem tok_nogap {l : List UInt8} {t : T3} (ht : tk0 l = t) (hn : t.2.2 = l.length) (h0 : t.2.2 ≠ 0) : gG false l = 0 := by
  obtain ⟨b, m, rfl⟩ : ∃ b m, l = b :: m := by
    cases l with
    | nil => simp at hn; omega
    | cons b m => exact ⟨b, m, rfl⟩
  rw [tk0_eq] at ht
  have hcl : clL (b :: m) = classN b.toNat := rfl
  rw [hcl] at ht
  have hws : isWs b = false := by
    cases hw : isWs b
    · rfl
    · have h1 := u8_all (p := fun c => !isWs c || (classN c.toNat != 3 && classN c.toNat != 4 && classN c.toNat != 6 && classN c.toNat != 7)) (by decide +kernel) b
      rw [hw] at h1
      simp at h1
      rw [if_neg h1.1.1.1, if_neg h1.1.1.2, if_neg h1.1.2, if_neg h1.2] at ht
      subst ht
      exact absurd rfl h0
  rw [gG, hws, if_neg (by decide)]
  cases hs : (b == 47)
  · rw [Bool.false_and, if_neg (by decide)]
  · have hb : b = 47 := by simpa using hs
    subst hb
    rw [if_neg (by decide +kernel), if_neg (by decide +kernel), if_neg (by decide +kernel), if_pos (by decide +kernel)] at ht
    have e : t.2.2 = symN (47 :: m) := by rw [← ht]; rfl
    have e2 : symN (47 :: m) = 1 := by
      unfold symN
      have : isDbl dbl (47 :: m) = false := by
        cases m with
        | nil => exact dbl_one _
        | cons c m => rw [dbl_cons]; simp [isDbl, dbl, Lib.hasPrefix, List.isPrefixOf]
      rw [this]; rfl
    rw [e, e2, List.length_cons] at hn
    have : m = [] := List.eq_nil_of_length_eq_zero (by omega)
    subst this
    rfl
theorem isT_tok {t : Tk} (h : isT t = true) : tk0 (wrT t).data.toList = (t.1, t.2.1, (wrT t).data.toList.length) ∧ (wrT t).data.toList.length ≠ 0 := by
  unfold isT isTokB at h
  simp only [Bool.and_eq_true, decide_eq_true_eq] at h
  obtain ⟨⟨⟨h1, h2⟩, h3⟩, h4⟩ := h
  have hl : (wrT t).data.toList.length = (wrT t).size := Array.length_toList
  have e : tk0 (wrT t).data.toList = firstT (writT t.1 t.2.1) := by
    unfold tk0
    congr 1
  have e3 : (firstT (writT t.1 t.2.1)).1 = t.1 := by simpa using h3
  have e4 : (firstT (writT t.1 t.2.1)).2.1 = t.2.1 := by
    rw [Lib.toList_data, Lib.toList_data, beq_iff_eq] at h4
    exact ByteArray.ext (Array.toList_inj.1 h4)
  have h2' : (firstT (writT t.1 t.2.1)).2.2 = (wrT t).size := h2
  refine ⟨?_, by rw [hl]; omega⟩
  rw [e, hl, ← h2']
  exact Prod.ext e3 (Prod.ext e4 rfl)
def tailJ (L : List Tk) : List UInt8 := Lib.joinTail [32] (L.map fun t => (wrT t).data.toList)
theorem tail_cons (a : Tk) (l : List Tk) : tailJ (a :: l) = 32 :: ((wrT a).data.toList ++ tailJ l) := by
  unfold tailJ Lib.joinTail
  rw [List.map_cons, List.map_cons, List.flatten_cons]; rfl
theorem sc_join : ∀ (l : List Tk) (a : Tk) (k : Nat), isT a = true → l.all isT = true → (sc k ((wrT a).data.toList ++ tailJ l)).2.2 = 0 ∧ bare (sc k ((wrT a).data.toList ++ tailJ l)).1 = bare (a :: l)
  | l, a, k, ha, hl => by
    obtain ⟨h1, h2⟩ := isT_tok ha
    have hnear : Near (tailJ l) ((wrT a).data.toList.drop (wrT a).data.toList.length) := by
      cases l with
      | nil => exact Near.nil _
      | cons b l => rw [tail_cons]; exact Near.ws _ _ _ (by decide)
    have e1 : (wrT a).data.toList.take (wrT a).data.toList.length = (wrT a).data.toList := List.take_length
    have a1 := tk0_loc (r := tailJ l) h1 h2 hnear
    have a2 := gap_loc (r := tailJ l) (n := (wrT a).data.toList.length) (Nat.pos_of_ne_zero h2) (Nat.le_refl _) (tok_nogap h1 rfl h2) hnear
    simp only [] at a1
    rw [e1] at a1 a2
    have hg : gapT ((wrT a).data.toList ++ tailJ l) = 0 := by rw [gap_g]; exact a2
    rw [sc_tok (t := (a.1, a.2.1, (wrT a).data.toList.length)) (by rw [hg, List.length_append]; omega) (by rw [hg]; exact a1) h2, hg]
    simp only [Nat.zero_add]
    rw [List.drop_left]
    have hbare : ∀ r : R3, r.2.2 = 0 → bare r.1 = bare l → (appR [(a.1, a.2.1, k + 0)] r).2.2 = 0 ∧ bare (appR [(a.1, a.2.1, k + 0)] r).1 = bare (a :: l) := fun r hr hb => by
      unfold appR
      rw [if_pos hr]
      refine ⟨rfl, ?_⟩
      unfold bare at hb ⊢
      rw [List.map_append, hb]; rfl
    cases l with
    | nil => exact hbare _ (by rw [show tailJ [] = [] from rfl, sc_end rfl]) (by rw [show tailJ [] = [] from rfl, sc_end rfl])
    | cons b l =>
      rw [List.all_cons, Bool.and_eq_true] at hl
      rw [tail_cons]
      have hs := sc_skip (k := k + 0 + (wrT a).data.toList.length) (d := 1) (l := 32 :: ((wrT b).data.toList ++ tailJ l)) (by simp) (by
        rw [gap_g, gap_g, gG, show isWs 32 = true by decide, if_pos rfl]; rfl)
      rw [hs]
      obtain ⟨i1, i2⟩ := sc_join l b (k + 0 + (wrT a).data.toList.length + 1) hl.1 hl.2
      exact hbare _ i1 i2
/-- Scan of the joined text -/
theorem scan_joined {L : List Tk} (h : L.all isT = true) (hs : (joinedT L).size ≤ 8000) (hl : L.length ≤ 2000) : (scanT (joinedT L)).2.2 = 0 ∧ (scanT (joinedT L)).2.1 = 0 ∧ sameB false L (scanT (joinedT L)).1 = true ∧ (scanT (joinedT L)).1.length = L.length := by
  have hd : (joinedT L).data.toList = Lib.join (L.map fun t => (wrT t).data.toList) [32] := rfl
  have key : (sc 0 (joinedT L).data.toList).2.2 = 0 ∧ bare (sc 0 (joinedT L).data.toList).1 = bare L := by
    cases L with
    | nil =>
      have e : (joinedT []).data.toList = [] := rfl
      rw [e, sc_end rfl]; exact ⟨rfl, rfl⟩
    | cons a l =>
      rw [List.all_cons, Bool.and_eq_true] at h
      rw [hd, List.map_cons, Lib.join_cons]
      exact sc_join l a 0 h.1 h.2
  have hlen := bare_len key.2
  rw [scan_eq2 _ hs key.1 (by omega)]
  rcases sc_code _ 0 (joinedT L).data.toList (Nat.le_refl _) with h9 | h9
  · exact ⟨h9.1, h9.2, bare_same key.2.symm, hlen⟩
  · rw [key.1] at h9
    exact absurd h9.1 (by decide)
end Go.Proofs.YtegobakoflbnfaaDoor
