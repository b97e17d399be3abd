/- More blanks and remarks between tokens. -/
import Derived.Test.YtegobakoflbnfaaDoorM4
import Derived.Test.YtegobakoflbnfaaDoorJoined
namespace Go.Proofs.YtegobakoflbnfaaDoor
open Go Go.RowKit

/-- all of it stands between tokens, and it ends outside of a remark -/
def gc : Bool → List UInt8 → Bool
  | true, [] => false
  | false, [] => true
  | true, c :: u => gc (c != 10) u
  | false, c :: u => if isWs c then gc false u else c == 47 && Lib.hasPrefix u [47] && gc true u
theorem hp_left {u : List UInt8} {a : UInt8} (h : Lib.hasPrefix u [a] = true) (z : List UInt8) : Lib.hasPrefix (u ++ z) [a] = true := by
  obtain ⟨v, rfl⟩ := has_one h
  rw [List.cons_append, hp_cons]; exact beq_self_eq_true a
theorem gc_gap : ∀ (m : Bool) (u z : List UInt8), gc m u = true → gG m (u ++ z) = u.length + gG false z
  | true, [], z, h => by cases h
  | false, [], z, _ => by rw [List.nil_append, List.length_nil, Nat.zero_add]
  | true, c :: u, z, h => by
    rw [gc] at h
    rw [List.cons_append, gG, gc_gap _ u z h, List.length_cons]; omega
  | false, c :: u, z, h => by
    rw [gc] at h
    rw [List.cons_append, gG, List.length_cons]
    cases hw : isWs c
    · rw [hw, if_neg (by decide), Bool.and_eq_true, Bool.and_eq_true] at h
      rw [if_neg (by decide), h.1.1, hp_left h.1.2, gc_gap _ u z h.2]
      simp; omega
    · rw [hw, if_pos rfl] at h
      rw [if_pos rfl, gc_gap _ u z h]; omega
theorem gc_app : ∀ (m : Bool) (u v : List UInt8), gc m u = true → gc false v = true → gc m (u ++ v) = true
  | true, [], v, h, _ => by cases h
  | false, [], v, _, h => h
  | true, c :: u, v, h, hv => by
    rw [gc] at h
    rw [List.cons_append, gc]; exact gc_app _ u v h hv
  | false, c :: u, v, h, hv => by
    rw [gc] at h
    rw [List.cons_append, gc]
    cases hw : isWs c
    · rw [hw, if_neg (by decide), Bool.and_eq_true, Bool.and_eq_true] at h
      rw [if_neg (by decide), h.1.1, hp_left h.1.2, gc_app _ u v h.2 hv]; rfl
    · rw [hw, if_pos rfl] at h
      rw [if_pos rfl]; exact gc_app _ u v h hv
theorem gc_take : ∀ (m : Bool) (l : List UInt8), gG m l < l.length → gc m (l.take (gG m l)) = true
  | true, [], h => by simp at h
  | false, [], h => by simp at h
  | true, c :: l, h => by
    rw [gG, List.length_cons] at h
    rw [gG, Nat.add_comm, List.take_succ_cons, gc]
    exact gc_take _ l (by omega)
  | false, c :: l, h => by
    rw [gG, List.length_cons] at h
    rw [gG]
    cases hw : isWs c
    · rw [hw, if_neg (by decide)] at h
      rw [if_neg (by decide)]
      cases hs : (c == 47 && Lib.hasPrefix l [47])
      · rw [if_neg (by decide), List.take_zero]; rfl
      · rw [hs, if_pos rfl] at h
        rw [if_pos rfl, Nat.add_comm, List.take_succ_cons, gc, hw, if_neg (by decide)]
        have ih := gc_take true l (by omega)
        rw [Bool.and_eq_true] at hs
        obtain ⟨v, rfl⟩ := has_one hs.2
        rw [hs.1, ih, gG, Nat.add_comm, List.take_succ_cons, hp_cons]; rfl
    · rw [hw, if_pos rfl] at h
      rw [if_pos rfl, Nat.add_comm, List.take_succ_cons, gc, hw, if_pos rfl]
      exact gc_take _ l (by omega)
/-- a source with more between its tokens -/
def built (pc : Nat → List UInt8) (j : Nat) (l : List UInt8) : List UInt8 :=
  if h : gapT l < l.length then
    if _h0 : (tk0 (l.drop (gapT l))).2.2 = 0 then []
    else l.take (gapT l) ++ pc j ++ (l.drop (gapT l)).take (tk0 (l.drop (gapT l))).2.2 ++ built pc (j + 1) (l.drop (gapT l + (tk0 (l.drop (gapT l))).2.2))
  else l ++ [10]
termination_by l.length
decreasing_by
  rw [List.length_drop]; omega
theorem built_end {pc : Nat → List UInt8} {j : Nat} {l : List UInt8} (h : gapT l = l.length) : built pc j l = l ++ [10] := by
  rw [built, dif_neg (by omega)]
theorem built_tok {pc : Nat → List UInt8} {j : Nat} {l : List UInt8} {t : T3} (h : gapT l < l.length) (ht : tk0 (l.drop (gapT l)) = t) (h0 : t.2.2 ≠ 0) :
    built pc j l = l.take (gapT l) ++ pc j ++ (l.drop (gapT l)).take t.2.2 ++ built pc (j + 1) (l.drop (gapT l + t.2.2)) := by
  subst ht
  rw [built, dif_pos h, dif_neg h0]
/-- pieces that may be laid between tokens -/
def Piece (p : List UInt8) : Prop := gc false p = true ∧ ∀ c r, p = c :: r → isWs c = true
theorem near_app {u z l : List UInt8} (h2 : 2 ≤ u.length) (hu : l.take u.length = u) : Near (u ++ z) l := by
  match u, h2, hu with
  | c :: d :: u, _, hu =>
    match l, hu with
    | a :: b :: l, hu =>
      simp only [List.length_cons, List.take_succ_cons, List.cons.injEq] at hu
      obtain ⟨rfl, rfl, -⟩ := hu
      exact Or.inr ⟨a, b :: u ++ z, rfl, Or.inr ⟨b :: l, rfl, Or.inr ⟨b, u ++ z, rfl, Or.inr ⟨l, rfl⟩⟩⟩⟩
    | [], hu => simp at hu
    | [a], hu => simp at hu
theorem near_one {c : UInt8} {z l : List UInt8} (h : z = [] ∨ ∃ d r3, z = d :: r3 ∧ (isWs d = true ∨ ∃ l3, l = d :: l3)) : Near (c :: z) (c :: l) :=
  Or.inr ⟨c, z, rfl, Or.inr ⟨l, rfl, h⟩⟩
theorem gap_slash {l : List UInt8} (h : gG false (47 :: l) ≠ 0) : ∃ m, l = 47 :: m := by
  rw [gG] at h
  cases hp : Lib.hasPrefix l [47]
  · rw [hp] at h; exact absurd rfl h
  · exact has_one hp
theorem gap_first {c : UInt8} {l : List UInt8} (h : gG false (c :: l) ≠ 0) (hw : isWs c = false) : c = 47 := by
  rw [gG, hw, if_neg (by decide)] at h
  cases hc : (c == 47)
  · rw [hc] at h; exact absurd rfl h
  · simpa using hc
theorem built_near (pc : Nat → List UInt8) (hpc : ∀ j, Piece (pc j)) : ∀ (n j k : Nat) (l : List UInt8), l.length ≤ n → (sc k l).2.2 = 0 → Near (built pc j l) l ∧ (∃ c r, built pc j l = c :: r ∧ (isWs c = true ∨ ∃ l3, l = c :: l3))
  | n, j, k, l, h, hok => by
    have hg := gap_len l
    by_cases he : gapT l = l.length
    · rw [built_end he]
      match l with
      | [] => exact ⟨Near.ws _ _ _ (by decide), 10, [], rfl, Or.inl (by decide)⟩
      | [a] => exact ⟨near_one (Or.inr ⟨10, [], rfl, Or.inl (by decide)⟩), a, [10], rfl, Or.inr ⟨[], rfl⟩⟩
      | a :: b :: l => exact ⟨near_app (u := a :: b :: l) (by simp) (List.take_length), a, b :: l ++ [10], rfl, Or.inr ⟨b :: l, rfl⟩⟩
    · obtain ⟨t, ht⟩ : ∃ t, tk0 (l.drop (gapT l)) = t := ⟨_, rfl⟩
      by_cases h0 : t.2.2 = 0
      · rw [sc_bad (by omega) (by rw [ht]; exact h0)] at hok
        exact absurd hok (show ¬ (1 : Int) = 0 by decide)
      · rw [built_tok (by omega) ht h0]
        have htl := tk0_le (l.drop (gapT l))
        rw [ht, List.length_drop] at htl
        rw [sc_tok (by omega) ht h0] at hok
        cases n with
        | zero => omega
        | succ n =>
          have hok2 : (sc (k + gapT l + t.2.2) (l.drop (gapT l + t.2.2))).2.2 = 0 := by
            unfold appR at hok
            split at hok
            · assumption
            · exact hok
          have ih := (built_near pc hpc n (j + 1) _ (l.drop (gapT l + t.2.2)) (by rw [List.length_drop]; omega) hok2).2
          by_cases hg0 : gapT l = 0
          · rw [hg0] at ih htl ⊢
            rw [List.take_zero, List.nil_append, List.drop_zero]
            rw [Nat.zero_add] at ih ⊢
            cases hp : pc j with
            | cons c r => exact ⟨Near.ws _ _ _ ((hpc j).2 c r hp), c, _, rfl, Or.inl ((hpc j).2 c r hp)⟩
            | nil =>
              rw [List.nil_append]
              obtain ⟨a, m, rfl⟩ : ∃ a m, l = a :: m := by
                cases l with
                | nil => simp at hg he; omega
                | cons a m => exact ⟨a, m, rfl⟩
              obtain ⟨q, hq⟩ : ∃ q, t.2.2 = q + 1 := ⟨t.2.2 - 1, by omega⟩
              rw [hq] at ih htl ⊢
              rw [List.take_succ_cons, List.cons_append]
              refine ⟨?_, a, _, rfl, Or.inr ⟨m, rfl⟩⟩
              cases q with
              | zero =>
                rw [List.take_zero, List.nil_append]
                obtain ⟨c, r, e, hcr⟩ := ih
                exact near_one (Or.inr ⟨c, r, e, hcr⟩)
              | succ q =>
                have := near_app (u := (a :: m).take (q + 1 + 1)) (z := built pc (j + 1) ((a :: m).drop (q + 1 + 1))) (l := a :: m) (by rw [List.length_take]; omega) (by rw [List.length_take, Nat.min_eq_left (by omega)])
                exact this
          · obtain ⟨a, m, rfl⟩ : ∃ a m, l = a :: m := by
              cases l with
              | nil => simp at hg; omega
              | cons a m => exact ⟨a, m, rfl⟩
            obtain ⟨q, hq⟩ : ∃ q, gapT (a :: m) = q + 1 := ⟨gapT (a :: m) - 1, by omega⟩
            rw [hq]
            have e : ∃ y, (a :: m).take (q + 1) ++ pc j ++ ((a :: m).drop (q + 1)).take t.2.2 ++ built pc (j + 1) ((a :: m).drop (q + 1 + t.2.2)) = (a :: m).take (q + 1) ++ y := ⟨_, by rw [List.append_assoc, List.append_assoc]⟩
            obtain ⟨y, hy⟩ := e
            rw [hy]
            refine ⟨?_, a, _, rfl, Or.inr ⟨m, rfl⟩⟩
            cases hw : isWs a
            · have hg1 := hg0
              rw [gap_g] at hg1
              have h47 := gap_first hg1 hw
              subst h47
              obtain ⟨m2, rfl⟩ := gap_slash hg1
              have hq2 : 1 ≤ q := by
                have : gG false (47 :: 47 :: m2) = 1 + (1 + gG true m2) := by rw [gG, gG, hw, hp_cons]; rfl
                rw [gap_g, this] at hq
                omega
              exact near_app (by rw [List.length_take]; simp; omega) (by rw [List.length_take, Nat.min_eq_left (by omega)])
            · exact Near.ws _ _ _ hw
/-- the tokens without their places -/
def bare (L : List Tk) : List (Int × ByteArray) := L.map fun t => (t.1, t.2.1)
theorem built_scan (pc : Nat → List UInt8) (hpc : ∀ j, Piece (pc j)) : ∀ (n j k k2 : Nat) (l : List UInt8), l.length ≤ n → (sc k l).2.2 = 0 → (sc k2 (built pc j l)).2.2 = 0 ∧ bare (sc k2 (built pc j l)).1 = bare (sc k l).1
  | n, j, k, k2, l, h, hok => by
    have hg := gap_len l
    by_cases he : gapT l = l.length
    · have hn := g_nl false l []
      rw [← gap_g, ← gap_g, if_pos he] at hn
      rw [built_end he, sc_end he, sc_end (by rw [hn, List.length_append]; rfl)]
      exact ⟨rfl, rfl⟩
    · obtain ⟨t, ht⟩ : ∃ t, tk0 (l.drop (gapT l)) = t := ⟨_, rfl⟩
      by_cases h0 : t.2.2 = 0
      · rw [sc_bad (by omega) (by rw [ht]; exact h0)] at hok
        exact absurd hok (show ¬ (1 : Int) = 0 by decide)
      · have htl := tk0_le (l.drop (gapT l))
        rw [ht, List.length_drop] at htl
        rw [sc_tok (by omega) ht h0] at hok ⊢
        cases n with
        | zero => omega
        | succ n =>
          have hok2 : (sc (k + gapT l + t.2.2) (l.drop (gapT l + t.2.2))).2.2 = 0 := by
            unfold appR at hok
            split at hok
            · assumption
            · exact hok
          have hnear := (built_near pc hpc n (j + 1) _ (l.drop (gapT l + t.2.2)) (by rw [List.length_drop]; omega) hok2).1
          obtain ⟨B, hB⟩ : ∃ B, B = built pc (j + 1) (l.drop (gapT l + t.2.2)) := ⟨_, rfl⟩
          have ih := fun k2 => built_scan pc hpc n (j + 1) _ k2 (l.drop (gapT l + t.2.2)) (by rw [List.length_drop]; omega) hok2
          rw [built_tok (by omega) ht h0]
          rw [← hB] at ih hnear ⊢
          rw [← List.drop_drop] at hnear
          have ht2 : tk0 ((l.drop (gapT l)).take t.2.2 ++ B) = t := tk0_loc ht h0 hnear
          have hgl : gG false (l.drop (gapT l)) = 0 := by
            have h1 := gc_take false l (by rw [← gap_g]; omega)
            have h2 := gc_gap false _ (l.drop (gG false l)) h1
            rw [List.take_append_drop, List.length_take, Nat.min_eq_left (by rw [← gap_g]; exact hg)] at h2
            rw [gap_g]
            omega
          have hz : gG false ((l.drop (gapT l)).take t.2.2 ++ B) = 0 := gap_loc (by omega) (by rw [List.length_drop]; exact htl) hgl hnear
          have hgap : gapT (l.take (gapT l) ++ pc j ++ (l.drop (gapT l)).take t.2.2 ++ B) = (l.take (gapT l) ++ pc j).length := by
            rw [gap_g, List.append_assoc, gc_gap false _ _ (gc_app _ _ _ (by rw [gap_g]; exact gc_take false l (by rw [← gap_g]; omega)) (hpc j).1), hz]; rfl
          have hd : (l.take (gapT l) ++ pc j ++ (l.drop (gapT l)).take t.2.2 ++ B).drop (gapT (l.take (gapT l) ++ pc j ++ (l.drop (gapT l)).take t.2.2 ++ B)) = (l.drop (gapT l)).take t.2.2 ++ B := by
            rw [hgap, List.append_assoc, List.drop_left]
          have hlt : ((l.drop (gapT l)).take t.2.2).length = t.2.2 := by rw [List.length_take, List.length_drop]; omega
          have hd2 : (l.take (gapT l) ++ pc j ++ (l.drop (gapT l)).take t.2.2 ++ B).drop (gapT (l.take (gapT l) ++ pc j ++ (l.drop (gapT l)).take t.2.2 ++ B) + t.2.2) = B := by
            rw [← List.drop_drop, hd]
            have := List.drop_left (l₁ := (l.drop (gapT l)).take t.2.2) (l₂ := B)
            rw [hlt] at this
            exact this
          rw [sc_tok (by rw [hgap]; simp only [List.length_append, hlt]; omega) (by rw [hd]; exact ht2) h0, hd2]
          obtain ⟨i1, i2⟩ := ih (k2 + gapT (l.take (gapT l) ++ pc j ++ (l.drop (gapT l)).take t.2.2 ++ B) + t.2.2)
          unfold appR
          rw [if_pos i1, if_pos hok2]
          refine ⟨rfl, ?_⟩
          unfold bare at i2 ⊢
          rw [List.map_append, List.map_append, i2]; rfl
end Go.Proofs.YtegobakoflbnfaaDoor
