/- LexJoined: the law's walk. -/
import Derived.Test.YtegobakoflbnfaaDoorM2
import Derived.Test.YtegobakoflbnfaaDoorM3
import Derived.Test.YtegobakoflbnfaaDoorX
namespace Go.Proofs.YtegobakoflbnfaaDoor
open Go Go.RowKit

def mixL (d i : Nat) (L : List Tk) : List Tk := (L.take i).map (shT d) ++ L.drop i
theorem mix_zero (d : Nat) (L : List Tk) : mixL d 0 L = L := rfl
theorem mix_len (d i : Nat) (L : List Tk) : (mixL d i L).length = L.length := by
  unfold mixL
  rw [List.length_append, List.length_map, List.length_take, List.length_drop]; omega
theorem mix_all (d : Nat) (L : List Tk) : mixL d L.length L = L.map (shT d) := by
  unfold mixL
  rw [List.take_length, List.drop_length, List.append_nil]
theorem mix_get (d i : Nat) (L : List Tk) (hi : i < L.length) (h2 : i < (mixL d i L).length) : (mixL d i L)[i] = L[i] := by
  have : (mixL d i L)[i]? = some L[i] := by
    unfold mixL
    rw [List.getElem?_append_right (by rw [List.length_map, List.length_take]; omega), List.length_map, List.length_take, List.getElem?_drop]
    rw [show i + (i - min i L.length) = i by omega, List.getElem?_eq_getElem hi]
  rw [List.getElem?_eq_getElem h2] at this
  exact Option.some.inj this
theorem mix_step (d i : Nat) (L : List Tk) (hi : i < L.length) : (mixL d i L).set i (shT d L[i]) = mixL d (i + 1) L := by
  unfold mixL
  have h1 : ((L.take i).map (shT d)).length = i := by rw [List.length_map, List.length_take]; omega
  rw [List.set_append_right _ _ (by omega), h1, Nat.sub_self, List.drop_eq_getElem_cons hi, List.set_cons_zero]
  rw [List.take_add_one, List.getElem?_eq_getElem hi, List.map_append, List.append_assoc]
  rfl
theorem same_refl (st : Bool) : ∀ L : List Tk, sameB st L L = true
  | [] => rfl
  | a :: l => by rw [sameB, same_refl st l]; simp
theorem sc_len : ∀ (n k : Nat) (l : List UInt8), l.length ≤ n → (sc k l).1.length ≤ l.length
  | n, k, l, h => by
    have hg := gap_len l
    by_cases he : gapT l = l.length
    · rw [sc_end he]; exact Nat.zero_le _
    · obtain ⟨t, ht⟩ : ∃ t, tk0 (l.drop (gapT l)) = t := ⟨_, rfl⟩
      by_cases h0 : t.2.2 = 0
      · rw [sc_bad (by omega) (by rw [ht]; exact h0)]; exact Nat.zero_le _
      · rw [sc_tok (by omega) ht h0]
        cases n with
        | zero => omega
        | succ n =>
          have ih := sc_len n (k + gapT l + t.2.2) (l.drop (gapT l + t.2.2)) (by rw [List.length_drop]; omega)
          have htl := tk0_le (l.drop (gapT l))
          rw [ht, List.length_drop] at htl
          rw [List.length_drop] at ih
          unfold appR
          split
          · rw [List.length_append]; simp only [List.length_singleton]; omega
          · omega
/-- what Scan answers to the three texts -/
theorem joined_facts (s t u : ByteArray) (hs : s.size ≤ 400) (ht : t.size ≤ 400) (hu : u.data.toList = s.data.toList ++ 10 :: t.data.toList) :
    ((scanT s).2.2 ≠ 0 → scanT u = scanT s) ∧
    ((scanT s).2.2 = 0 → (scanT t).2.2 ≠ 0 → (scanT u).2.2 = (scanT t).2.2 ∧ (scanT u).2.1 = s.size + 1 + (scanT t).2.1) ∧
    ((scanT s).2.2 = 0 → (scanT t).2.2 = 0 → (scanT u).2.2 = 0 ∧ (scanT u).1 = (scanT s).1 ++ (scanT t).1.map (shT (s.size + 1))) ∧
    (scanT s).1.length ≤ 400 ∧ (scanT t).1.length ≤ 400 ∧ (scanT u).1.length ≤ 801 := by
  have hus : u.size = s.size + 1 + t.size := by
    have h1 : u.data.toList.length = u.size := Array.length_toList
    have h2 : s.data.toList.length = s.size := Array.length_toList
    have h3 : t.data.toList.length = t.size := Array.length_toList
    rw [hu, List.length_append, List.length_cons] at h1
    omega
  rw [scan_eq s (by omega), scan_eq t (by omega), scan_eq u (by omega), hu, sc_nl _ _ _ _ (Nat.le_refl _)]
  have h2 : s.data.toList.length = s.size := Array.length_toList
  have h3 : t.data.toList.length = t.size := Array.length_toList
  have l1 := sc_len _ 0 s.data.toList (Nat.le_refl _)
  have l2 := sc_len _ 0 t.data.toList (Nat.le_refl _)
  have e := sc_shift (s.size + 1) _ 0 t.data.toList (Nat.le_refl _)
  rw [h2, Nat.zero_add] at *
  rw [e]
  refine ⟨fun h => by rw [if_neg h], fun h h2 => ?_, fun h h2 => ?_, by omega, by omega, ?_⟩
  · rw [if_pos h]
    unfold appR shR
    rw [if_neg h2, if_neg h2]
    exact ⟨rfl, by show _ + _ = _; omega⟩
  · rw [if_pos h]
    unfold appR shR
    rw [if_pos h2, if_pos rfl]
    exact ⟨rfl, rfl⟩
  · by_cases h : (sc 0 s.data.toList).2.2 = 0
    · rw [if_pos h]
      unfold appR shR
      by_cases h5 : (sc 0 t.data.toList).2.2 = 0
      · rw [if_pos h5, if_pos rfl, List.length_append, List.length_map]; omega
      · rw [if_neg h5, if_neg h5]
        show (sc 0 t.data.toList).1.length ≤ 801
        omega
    · rw [if_neg h]; omega
end Go.Proofs.YtegobakoflbnfaaDoor
