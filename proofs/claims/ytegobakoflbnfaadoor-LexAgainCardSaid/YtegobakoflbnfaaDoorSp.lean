/- LexSpaces: what the law builds, as a list of bytes. -/
import Derived.Test.YtegobakoflbnfaaDoorM5
namespace Go.Proofs.YtegobakoflbnfaaDoor
open Go Go.RowKit

def insT (x : List UInt8) (pc : Nat → List UInt8) : List Tk → Nat → Nat → List UInt8
  | [], last, _ => x.drop last ++ [10]
  | t :: R, last, j => (x.take t.2.2).drop last ++ pc j ++ insT x pc R t.2.2 (j + 1)
/-- the tokens' places rise -/
def Asc (n : Nat) : Nat → List Tk → Prop
  | last, [] => last ≤ n
  | last, t :: R => last ≤ t.2.2 ∧ Asc n t.2.2 R
theorem Asc.le {n : Nat} : ∀ {R : List Tk} {last : Nat}, Asc n last R → last ≤ n
  | [], _, h => h
  | _ :: _, _, h => Nat.le_trans h.1 (Asc.le h.2)
theorem Asc.weak {n : Nat} : ∀ {R : List Tk} {a b : Nat}, Asc n b R → a ≤ b → Asc n a R
  | [], _, _, h, hab => Nat.le_trans hab h
  | _ :: _, _, _, h, hab => ⟨Nat.le_trans hab h.1, h.2⟩
theorem sc_asc : ∀ (n k m : Nat) (l : List UInt8), l.length ≤ n → k + l.length = m → Asc m k (sc k l).1
  | n, k, m, l, h, hm => by
    have hg := gap_len l
    by_cases he : gapT l = l.length
    · rw [sc_end he]; show k ≤ m; omega
    · obtain ⟨t, ht⟩ : ∃ t, tk0 (l.drop (gapT l)) = t := ⟨_, rfl⟩
      by_cases h0 : t.2.2 = 0
      · rw [sc_bad (by omega) (by rw [ht]; exact h0)]; show k ≤ m; omega
      · have htl := tk0_le (l.drop (gapT l))
        rw [ht, List.length_drop] at htl
        rw [sc_tok (by omega) ht h0]
        cases n with
        | zero => omega
        | succ n =>
          have ih := sc_asc n (k + gapT l + t.2.2) m (l.drop (gapT l + t.2.2)) (by rw [List.length_drop]; omega) (by rw [List.length_drop]; omega)
          unfold appR
          split
          · exact ⟨by show k ≤ k + gapT l; omega, ih.weak (by show k + gapT l ≤ _; omega)⟩
          · exact ih.weak (by omega)
theorem ins_built (x : List UInt8) (pc : Nat → List UInt8) : ∀ (n k last j : Nat) (l : List UInt8), l.length ≤ n → l = x.drop k → last ≤ k → k ≤ x.length → (sc k l).2.2 = 0 →
    insT x pc (sc k l).1 last j = (x.take k).drop last ++ built pc j l
  | n, k, last, j, l, h, hl, hlk, hkx, hok => by
    have hg := gap_len l
    have hll : l.length = x.length - k := by rw [hl, List.length_drop]
    have hsplit : ∀ q, k ≤ q → (x.take q).drop last = (x.take k).drop last ++ l.take (q - k) := fun q hq => by
      obtain ⟨d, rfl⟩ : ∃ d, q = k + d := ⟨q - k, by omega⟩
      rw [hl, List.take_add, List.drop_append_of_le_length (by rw [List.length_take]; omega), show k + d - k = d by omega]
    have hld : ∀ q, l.drop q = x.drop (k + q) := fun q => by rw [hl, List.drop_drop]
    by_cases he : gapT l = l.length
    · rw [sc_end he, built_end he]
      show x.drop last ++ [10] = _
      rw [← List.append_assoc]
      have := hsplit x.length hkx
      rw [List.take_length, List.take_of_length_le (l := l) (i := x.length - k) (by omega)] at this
      rw [this]
    · obtain ⟨t, ht⟩ : ∃ t, tk0 (l.drop (gapT l)) = t := ⟨_, rfl⟩
      by_cases h0 : t.2.2 = 0
      · rw [sc_bad (by omega) (by rw [ht]; exact h0)] at hok
        exact absurd hok (show ¬ (1 : Int) = 0 by decide)
      · have htl := tk0_le (l.drop (gapT l))
        rw [ht, List.length_drop] at htl
        rw [sc_tok (by omega) ht h0] at hok ⊢
        cases n with
        | zero => omega
        | succ n =>
          have hok2 : (sc (k + gapT l + t.2.2) (l.drop (gapT l + t.2.2))).2.2 = 0 := by
            unfold appR at hok
            split at hok
            · assumption
            · exact hok
          have ih := ins_built x pc n (k + gapT l + t.2.2) (k + gapT l) (j + 1) (l.drop (gapT l + t.2.2)) (by rw [List.length_drop]; omega) (by rw [hl, List.drop_drop, Nat.add_assoc]) (by omega) (by omega) hok2
          unfold appR
          rw [if_pos hok2]
          show (x.take (k + gapT l)).drop last ++ pc j ++ insT x pc (sc (k + gapT l + t.2.2) (l.drop (gapT l + t.2.2))).1 (k + gapT l) (j + 1) = _
          rw [ih, built_tok (by omega) ht h0, hsplit _ (by omega), show k + gapT l - k = gapT l by omega]
          have e : (x.take (k + gapT l + t.2.2)).drop (k + gapT l) = (l.drop (gapT l)).take t.2.2 := by
            rw [hld, List.take_add, List.drop_append_of_le_length (by rw [List.length_take]; omega), List.drop_eq_nil_of_le (by rw [List.length_take]; omega), List.nil_append]
          rw [e]
          simp only [List.append_assoc]
theorem ins_len (x : List UInt8) (pc : Nat → List UInt8) (hpc : ∀ j, (pc j).length ≤ 13) : ∀ (R : List Tk) (last j : Nat), Asc x.length last R → (insT x pc R last j).length ≤ x.length - last + 13 * R.length + 1
  | [], last, j, h => by
    show (x.drop last ++ [10]).length ≤ _
    rw [List.length_append, List.length_drop]; simp
  | t :: R, last, j, h => by
    have ih := ins_len x pc hpc R t.2.2 (j + 1) h.2
    have h1 := hpc j
    have h2 := h.1
    have h3 := h.2.le
    show ((x.take t.2.2).drop last ++ pc j ++ insT x pc R t.2.2 (j + 1)).length ≤ _
    rw [List.length_append, List.length_append, List.length_drop, List.length_take, List.length_cons]
    omega
theorem bare_same : ∀ {L M : List Tk}, bare L = bare M → sameB false L M = true
  | [], [], _ => rfl
  | [], b :: m, h => by cases h
  | a :: l, [], h => by cases h
  | a :: l, b :: m, h => by
    unfold bare at h
    rw [List.map_cons, List.map_cons, List.cons.injEq, Prod.mk.injEq] at h
    obtain ⟨⟨h1, h2⟩, h3⟩ := h
    rw [sameB, bare_same (L := l) (M := m) h3, h1, h2]
    simp
theorem bare_len {L M : List Tk} (h : bare L = bare M) : L.length = M.length := by
  have := congrArg List.length h
  unfold bare at this
  rw [List.length_map, List.length_map] at this
  exact this
/-- a text of more bytes, of few tokens -/
theorem scan_sc2 (s : ByteArray) : ∀ (f k : Nat) (acc : List Tk), k ≤ s.size → (sc k (s.data.toList.drop k)).2.2 = 0 → acc.length + (sc k (s.data.toList.drop k)).1.length ≤ 2000 → s.size - k < f →
    scanL s f (k + gapT (s.data.toList.drop k)) acc = appR acc (sc k (s.data.toList.drop k))
  | 0, k, acc, _, _, _, h => by omega
  | f + 1, k, acc, hk, hok, ha, h => by
    have hl : (s.data.toList.drop k).length = s.size - k := by rw [List.length_drop, Array.length_toList]; rfl
    have hg := gap_len (s.data.toList.drop k)
    rw [scanL]
    by_cases hlt : k + gapT (s.data.toList.drop k) < s.size
    · rw [if_pos hlt]
      have e : firstT (s.extract (k + gapT (s.data.toList.drop k)) s.size) = tk0 ((s.data.toList.drop k).drop (gapT (s.data.toList.drop k))) := by
        rw [from_list, List.drop_drop]; rfl
      rw [e]
      obtain ⟨t, ht⟩ : ∃ t, tk0 ((s.data.toList.drop k).drop (gapT (s.data.toList.drop k))) = t := ⟨_, rfl⟩
      have htl := tk0_le ((s.data.toList.drop k).drop (gapT (s.data.toList.drop k)))
      rw [ht, List.length_drop, hl] at htl
      by_cases h0 : t.2.2 = 0
      · rw [sc_bad (by omega) (by rw [ht]; exact h0), ht, if_pos h0]; rfl
      · rw [sc_tok (by omega) ht h0] at hok ha ⊢
        have hok2 : (sc (k + gapT (s.data.toList.drop k) + t.2.2) ((s.data.toList.drop k).drop (gapT (s.data.toList.drop k) + t.2.2))).2.2 = 0 := by
          unfold appR at hok
          split at hok
          · assumption
          · exact hok
        have hln : ∀ r : R3, r.2.2 = 0 → ∀ u : Tk, (appR [u] r).1.length = r.1.length + 1 := fun r hr u => by unfold appR; rw [if_pos hr, List.length_append]; simp; omega
        rw [hln _ hok2] at ha
        rw [ht, if_neg h0, if_neg (by omega), appR_app]
        rw [List.drop_drop] at hok2 ha ⊢
        have e9 : k + (gapT (s.data.toList.drop k) + t.2.2) = k + gapT (s.data.toList.drop k) + t.2.2 := by omega
        rw [e9] at hok2 ha ⊢
        exact scan_sc2 s f (k + gapT (s.data.toList.drop k) + t.2.2) _ (by omega) hok2 (by rw [List.length_append, List.length_singleton]; omega) (by omega)
    · rw [if_neg hlt, sc_end (by omega)]
      unfold appR; rw [if_pos rfl, List.append_nil]
theorem scan_eq2 (s : ByteArray) (hs : s.size ≤ 8000) (hok : (sc 0 s.data.toList).2.2 = 0) (hl : (sc 0 s.data.toList).1.length ≤ 2000) : scanT s = sc 0 s.data.toList := by
  unfold scanT
  rw [if_neg (by omega)]
  have := scan_sc2 s (s.size + 1) 0 [] (Nat.zero_le _) (by rw [List.drop_zero]; exact hok) (by rw [List.drop_zero]; simpa using hl) (by omega)
  rw [List.drop_zero, Nat.zero_add, appR_nil] at this
  exact this
/-- the law's pieces -/
def pc4 (n : Nat) : List UInt8 := if n = 0 then [] else if n = 1 then [32] else if n = 2 then [10, 9] else [32, 47, 47, 32, 109, 111, 100, 101, 108, 32, 61, 32, 10]
def pcL (zs : List Int) (j : Nat) : List UInt8 := if j < zs.length then pc4 ((zs.getD j 0).toNat % 4) else []
theorem pc4_piece (n : Nat) : Piece (pc4 n) ∧ (pc4 n).length ≤ 13 := by
  unfold pc4
  have h0 : Piece [] := ⟨rfl, by intro c r h; cases h⟩
  split
  · exact ⟨h0, by decide⟩
  · split
    · exact ⟨⟨by decide, by intro c r h; simp at h; rw [← h.1]; decide⟩, by decide⟩
    · split
      · exact ⟨⟨by decide, by intro c r h; simp at h; rw [← h.1]; decide⟩, by decide⟩
      · exact ⟨⟨by decide, by intro c r h; simp at h; rw [← h.1]; decide⟩, by decide⟩
theorem pcL_piece (zs : List Int) (j : Nat) : Piece (pcL zs j) ∧ (pcL zs j).length ≤ 13 := by
  unfold pcL
  split
  · exact pc4_piece _
  · exact ⟨⟨rfl, by intro c r h; cases h⟩, by decide⟩
theorem spaces_facts (s : ByteArray) (zs : List Int) (hs : s.size ≤ 400) (hok : (scanT s).2.2 = 0) :
    Asc s.size 0 (scanT s).1 ∧ (scanT s).1.length ≤ 400 ∧ (insT s.data.toList (pcL zs) (scanT s).1 0 0).length ≤ 5601 ∧
    ∀ u : ByteArray, u.data.toList = insT s.data.toList (pcL zs) (scanT s).1 0 0 → (scanT u).2.2 = 0 ∧ sameB false (scanT s).1 (scanT u).1 = true ∧ (scanT u).1.length ≤ 400 := by
  have h2 : s.data.toList.length = s.size := Array.length_toList
  rw [scan_eq s (by omega)] at hok ⊢
  have a := sc_asc _ 0 s.size s.data.toList (Nat.le_refl _) (by omega)
  have l := sc_len _ 0 s.data.toList (Nat.le_refl _)
  have il := ins_len s.data.toList (pcL zs) (fun j => (pcL_piece zs j).2) _ 0 0 (by rw [h2]; exact a)
  have ib := ins_built s.data.toList (pcL zs) _ 0 0 0 s.data.toList (Nat.le_refl _) rfl (Nat.le_refl _) (Nat.zero_le _) hok
  obtain ⟨b1, b2⟩ := built_scan (pcL zs) (fun j => (pcL_piece zs j).1) _ 0 0 0 s.data.toList (Nat.le_refl _) hok
  refine ⟨a, by omega, by omega, fun u hu => ?_⟩
  rw [ib] at hu
  rw [List.take_zero, List.drop_nil, List.nil_append] at hu
  have hlb := bare_len b2
  have hus : u.size ≤ 8000 := by
    have h1 : u.data.toList.length = u.size := Array.length_toList
    rw [ib] at il
    rw [List.take_zero, List.drop_nil, List.nil_append] at il
    rw [hu] at h1
    omega
  rw [← hu] at b1 b2 hlb
  rw [scan_eq2 u hus b1 (by omega)]
  exact ⟨b1, bare_same b2.symm, by omega⟩
end Go.Proofs.YtegobakoflbnfaaDoor
