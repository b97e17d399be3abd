/- Which tokens there are: the reference's answer and the program's are the same. -/
import Derived.Test.YtegobakoflbnfaaGreatDoorRq
import Derived.Test.YtegobakoflbnfaaGreatDoorGk
namespace Go.Proofs.YtegobakoflbnfaaGreatDoor
open Go Go.RowKit

theorem word_kind (l : List UInt8) : (wordL l).1 = 0 ∨ (wordL l).1 = 1 ∨ (wordL l).1 = 2 := by
  unfold wordL
  split
  · exact Or.inl rfl
  · show (if _ then (2 : Int) else 1) = 0 ∨ (if _ then (2 : Int) else 1) = 1 ∨ (if _ then (2 : Int) else 1) = 2
    split
    · exact Or.inr (Or.inr rfl)
    · exact Or.inr (Or.inl rfl)
theorem num_kind (l : List UInt8) : (numL l).1 = 0 ∨ (numL l).1 = 3 := by
  unfold numL
  split
  · exact Or.inl rfl
  · exact Or.inr rfl
theorem quo_kind (l : List UInt8) : (quoL l).1 = 0 ∨ (quoL l).1 = 4 := by
  unfold quoL
  split
  · exact Or.inl rfl
  · exact Or.inr rfl
/-- of each kind of token, where it was found -/
theorem tk0_kind {l : List UInt8} {k : Int} {s : ByteArray} {n : Nat} (h : tk0 l = (k, s, n)) (h0 : n ≠ 0) :
    ((k = 1 ∨ k = 2) ∧ wordL l = (k, s, n)) ∨ k = 3 ∨ (k = 4 ∧ quoL l = (k, s, n)) ∨ (k = 5 ∧ clL l = 7 ∧ symL l = (k, s, n)) := by
  rw [tk0_eq] at h
  by_cases c3 : clL l = 3
  · rw [if_pos c3] at h
    left
    refine ⟨?_, h⟩
    have hk := word_kind l
    have h1 : (wordL l).1 = k := by rw [h]
    rw [h1] at hk
    rcases hk with hk | hk | hk
    · exfalso
      unfold wordL at h
      split at h
      · exact h0 (congrArg (fun t => t.2.2) h).symm
      · have := congrArg Prod.fst h
        revert this
        show (if _ then (2 : Int) else 1) = k → False
        split <;> omega
    · exact Or.inl hk
    · exact Or.inr hk
  rw [if_neg c3] at h
  by_cases c4 : clL l = 4
  · rw [if_pos c4] at h
    right; left
    have hk := num_kind l
    have h1 : (numL l).1 = k := by rw [h]
    rw [h1] at hk
    rcases hk with hk | hk
    · exfalso
      unfold numL at h
      split at h
      · exact h0 (congrArg (fun t => t.2.2) h).symm
      · have := congrArg Prod.fst h
        rw [hk] at this
        exact absurd this (by show (3 : Int) ≠ 0; decide)
    · exact hk
  rw [if_neg c4] at h
  by_cases c6 : clL l = 6
  · rw [if_pos c6] at h
    right; right; left
    have hk := quo_kind l
    have h1 : (quoL l).1 = k := by rw [h]
    rw [h1] at hk
    refine ⟨?_, h⟩
    rcases hk with hk | hk
    · exfalso
      unfold quoL at h
      split at h
      · exact h0 (congrArg (fun t => t.2.2) h).symm
      · have := congrArg Prod.fst h
        rw [hk] at this
        exact absurd this (by show (4 : Int) ≠ 0; decide)
    · exact hk
  rw [if_neg c6] at h
  by_cases c7 : clL l = 7
  · rw [if_pos c7] at h
    right; right; right
    exact ⟨(congrArg Prod.fst h).symm, c7, h⟩
  · rw [if_neg c7] at h
    exact absurd (congrArg (fun t => t.2.2) h).symm h0
theorem wr_plain {k : Int} (h3 : k ≠ 3) (h4 : k ≠ 4) (s : ByteArray) : writT k s = s := by unfold writT; rw [if_neg h3, if_neg h4]
theorem tok_of {k : Int} {s : ByteArray} (h : isTokB k s = true) : tk0 (writT k s).data.toList = (k, s, (writT k s).data.toList.length) ∧ (writT k s).data.toList.length ≠ 0 := isT_tok (t := (k, s, 0)) h
theorem bytes_eq {s : ByteArray} {l : List UInt8} (h : (⟨l.toArray⟩ : ByteArray) = s) : s.data.toList = l := by subst h; simp
theorem bytes_mk (s : ByteArray) : (⟨s.data.toList.toArray⟩ : ByteArray) = s := ByteArray.ext (by simp)
theorem tok1 (s : ByteArray) : isTokB 1 s = refWordB s := by
  rw [← same_word]
  unfold isTokB isWordB
  rw [wr_plain (by decide) (by decide)]
theorem tok2 (s : ByteArray) : isTokB 2 s = anyS keysB s := by
  rw [any_key, Bool.eq_iff_iff]
  constructor
  · intro h
    obtain ⟨h1, h2⟩ := tok_of h
    rw [wr_plain (by decide) (by decide)] at h1 h2
    rcases tk0_kind h1 h2 with ⟨-, hw⟩ | h3 | ⟨h3, -⟩ | ⟨h3, -⟩
    · unfold wordL at hw
      split at hw
      · exact absurd (congrArg (fun t => t.2.2) hw).symm h2
      · have e1 := congrArg Prod.fst hw
        have e2 := congrArg (fun t => t.2.1) hw
        have e3 : s.data.toList = s.data.toList.take (pre (inC [3, 4, 5]) s.data.toList) := bytes_eq e2
        rw [Lib.toList_data, e3]
        cases hk : isKey (s.data.toList.take (pre (inC [3, 4, 5]) s.data.toList))
        · rw [hk] at e1
          exact absurd e1 (by show (1 : Int) ≠ 2; decide)
        · rfl
    · exact absurd h3 (by decide)
    · exact absurd h3 (by decide)
    · exact absurd h3 (by decide)
  · intro h
    have tab : ∀ k ∈ keysL, isTokB 2 ⟨k.toArray⟩ = true := by decide +kernel
    unfold isKey at h
    rw [List.any_eq_true] at h
    obtain ⟨k, hk, he⟩ := h
    rw [beq_iff_eq, Lib.toList_data] at he
    have := tab k hk
    rwa [← he, bytes_mk] at this
theorem quote_list (s : ByteArray) : (writT 4 s).data.toList = 34 :: (s.data.toList ++ [34]) := by
  unfold writT
  rw [if_neg (by decide), if_pos rfl]
  simp [ByteArray.data_append]
theorem tok4 (s : ByteArray) : isTokB 4 s = isStrB s := by
  rw [Bool.eq_iff_iff]
  unfold isStrB
  rw [str_class, Bool.and_eq_true, decide_eq_true_eq]
  have hsz : s.data.toList.length = s.size := Array.length_toList
  constructor
  · intro h
    obtain ⟨h1, h2⟩ := tok_of h
    rw [quote_list] at h1 h2
    rcases tk0_kind h1 h2 with ⟨h3, -⟩ | h3 | ⟨-, hq⟩ | ⟨h3, -⟩
    · exact absurd h3 (by decide)
    · exact absurd h3 (by decide)
    · unfold quoL at hq
      split at hq
      · exact absurd (congrArg (fun t => t.2.2) hq).symm h2
      · rename_i hc
        have e2 := congrArg (fun t => t.2.1) hq
        have e3 := bytes_eq e2
        have hle : (s.data.toList).length ≤ 40 := by
          rw [e3, List.length_take]
          rcases Nat.lt_or_ge 40 (pre (inC strC) ((34 :: (s.data.toList ++ [34])).drop 1)) with h9 | h9
          · exact absurd (Or.inl h9) hc
          · omega
        refine ⟨by omega, ?_⟩
        rw [e3]; exact pre_all _ _
    · exact absurd h3 (by decide)
  · rintro ⟨h40, hall⟩
    have hp : pre (inC strC) (s.data.toList ++ [34]) = s.data.toList.length := by
      rw [pre_app _ _ _ hall, pre_no _ _ _ qu_str]; rfl
    refine isTok_of (quote_list s) ?_ (by simp)
    rw [tk0_eq]
    have hc : clL (34 :: (s.data.toList ++ [34])) = 6 := by show classN (34 : UInt8).toNat = 6; decide +kernel
    rw [hc, if_neg (by decide), if_neg (by decide), if_pos rfl]
    unfold quoL
    have hd : (34 :: (s.data.toList ++ [34])).drop 1 = s.data.toList ++ [34] := rfl
    rw [hd, hp]
    have hd2 : (34 :: (s.data.toList ++ [34])).drop (1 + s.data.toList.length) = [34] := by
      rw [Nat.add_comm]
      show (s.data.toList ++ [34]).drop s.data.toList.length = [34]
      rw [List.drop_left]
    rw [hd2, if_neg (by
      intro h9
      rcases h9 with h9 | h9
      · omega
      · exact absurd h9 (by decide)), List.take_left, bytes_mk]
    simp
theorem symF_mem {l : List UInt8} {k : Int} {s : ByteArray} {n : Nat} (h0 : n ≠ 0) : ∀ {L : List ByteArray}, symF l L = (k, s, n) → s ∈ L
  | [], h => absurd (congrArg (fun t => t.2.2) h).symm h0
  | a :: L, h => by
    rw [symF] at h
    split at h
    · have := congrArg (fun t => t.2.1) h
      rw [show a = s from this]; exact List.mem_cons_self ..
    · exact List.mem_cons_of_mem _ (symF_mem h0 h)
theorem tok5 (s : ByteArray) : isTokB 5 s = anyS symsB s := by
  rw [Bool.eq_iff_iff]
  unfold anyS
  rw [List.any_eq_true]
  constructor
  · intro h
    obtain ⟨h1, h2⟩ := tok_of h
    rw [wr_plain (by decide) (by decide)] at h1 h2
    have hne : s.data.toList ≠ [] := fun h9 => h2 (by rw [h9]; rfl)
    rcases tk0_kind h1 h2 with ⟨h3, -⟩ | h3 | ⟨h3, -⟩ | ⟨-, c7, hs⟩
    · exact absurd h3 (by decide)
    · exact absurd h3 (by decide)
    · exact absurd h3 (by decide)
    · have h4 := rsym_eq _ hne
      unfold symQ at h4
      rw [if_pos c7, hs, rsym_F] at h4
      exact ⟨s, symF_mem h2 h4, by rw [beq_iff_eq]⟩
  · rintro ⟨k, hk, he⟩
    have tab : ∀ k ∈ symsB, isTokB 5 k = true := by decide +kernel
    rw [beq_iff_eq, Lib.toList_data, Lib.toList_data] at he
    have : k = s := ByteArray.ext (Array.toList_inj.1 he)
    rw [← this]; exact tab k hk
theorem tokN {k : Int} (h1 : k ≠ 1) (h2 : k ≠ 2) (h3 : k ≠ 3) (h4 : k ≠ 4) (h5 : k ≠ 5) (s : ByteArray) : isTokB k s = false := by
  cases h : isTokB k s
  · rfl
  · obtain ⟨a, b⟩ := tok_of h
    rcases tk0_kind a b with ⟨c, -⟩ | c | ⟨c, -⟩ | ⟨c, -⟩
    · rcases c with c | c
      · exact absurd c h1
      · exact absurd c h2
    · exact absurd c h3
    · exact absurd c h4
    · exact absurd c h5
end Go.Proofs.YtegobakoflbnfaaGreatDoor
