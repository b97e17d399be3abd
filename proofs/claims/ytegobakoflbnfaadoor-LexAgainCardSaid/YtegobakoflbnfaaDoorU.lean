/- Scan's list of tokens; what is read is never longer than the text. -/
import Derived.Test.YtegobakoflbnfaaDoorT
import Derived.Laws.AppendOwn
import Derived.OwnWalk
namespace Go.Proofs.YtegobakoflbnfaaDoor
open Go Go.RowKit

/-- a token: its kind, its text, where it begins -/
abbrev Tk := Int × ByteArray × Nat
def tkC (t : Tk) : List Value := [.int .i64 t.1, .string t.2.1, .int .i64 (t.2.2 : Int)]
def tkL (L : List Tk) : List Value := L.flatMap tkC
theorem tkL_len : ∀ L : List Tk, (tkL L).length = L.length * 3
  | [] => rfl
  | t :: L => by
    have := tkL_len L
    unfold tkL at *
    rw [List.flatMap_cons, List.length_append, this, List.length_cons]
    simp [tkC]; omega
theorem tkL_app (L : List Tk) (t : Tk) : tkL (L ++ [t]) = tkL L ++ tkC t := by
  unfold tkL
  rw [List.flatMap_append]; simp
def OwnT (w : World) (B : Nat) (v : Value) (L : List Tk) : Prop := w.ownsRow B 36 3 v L.length (tkL L) ∧ B ≤ w.heap.size
theorem OwnT.nil {w : World} {B : Nat} (h : B ≤ w.heap.size) : OwnT w B (.slice none 0 0) [] := ⟨World.ownsRow_nil _ _ _ _, h⟩
theorem OwnT.go {w w' : World} {B : Nat} {v : Value} {L : List Tk} (h : OwnT w B v L) (hb : Below w.heap.size w w') : OwnT w' B v L := by
  obtain ⟨⟨h1, h2⟩, h3⟩ := h
  refine ⟨⟨h1, ?_⟩, Nat.le_trans h3 hb.size⟩
  rcases h2 with h2 | ⟨g, cap, cur, rfl, a1, a2, a3⟩
  · exact Or.inl h2
  · exact Or.inr ⟨g, cap, cur, rfl, a1, (hb.block g (lt_of_block a2)).trans a2, a3⟩
theorem OwnT.shape {w : World} {B : Nat} {v : Value} {L : List Tk} (h : OwnT w B v L) : ∃ o cap, v = .slice o L.length cap := by
  obtain ⟨⟨h1, h2⟩, h3⟩ := h
  rcases h2 with ⟨rfl, h2⟩ | ⟨g, cap, cur, rfl, _⟩
  · rw [h2]; exact ⟨_, _, rfl⟩
  · exact ⟨_, _, rfl⟩
theorem tok_info : (Tryd.prog.info? 36).map (fun i => (i.zero, i.size, i.bytes)) = some (some (.agg #[.int .i64 0, .string ⟨#[]⟩, .int .i64 0]), 3, 32) := by kernel_rfl
set_option maxRecDepth 100000 in
theorem tok_app {ops : Array Oper} {rest : List Oper} {o : Oper} {a : Act} {w : World} {Q : Exit → Act → World → Prop} (hgd : o.guard = none) (s x : Operand)
    (ho : o.op = .call { callee := .builtin .append, args := #[s, x], argTypes := #[24, 24] }) {B g : Nat} {v : Value} {L : List Tk} {t : Tk} (hs : a.eval s = v) (hown : OwnT w B v L)
    (hx : a.eval x = .slice (some ⟨g, 0, none⟩) 1 1) (hc : BoxT w g (.int .i64 t.1) (.string t.2.1) (.int .i64 (t.2.2 : Int))) (hL : L.length ≤ 2000)
    (h : ∀ v' w', OwnT w' B v' (L ++ [t]) → (∀ W C, C ≤ B → Below C W w → Below C W w') → wpList Tryd.prog ops Q rest (a.put o.dst v') w') : wpList Tryd.prog ops Q (o :: rest) a w := by
  obtain ⟨i0, hi, hz0, hz1, hz2⟩ := info_parts tok_info
  refine wpList_append_own w hgd s x 24 ho B 36 i0 (.agg #[.int .i64 0, .string ⟨#[]⟩, .int .i64 0]) 3 32 Tryd.underlying24 hi hz0 hz1 hz2 rfl (by omega) v L.length (tkL L) hs hown.1 ⟨g, 0, none⟩ 1 1 (tkC t) hx rfl ?_ (by intro u hu; simp [tkC] at hu; rcases hu with rfl | rfl | rfl <;> rfl) (by unfold maxLen; omega) (by omega) hown.2 ?_
  · obtain ⟨c0, c1, c2, -⟩ := hc.facts
    intro j u hu
    match j, hu with
    | 0, hu => simp [tkC] at hu; subst hu; exact c0
    | 1, hu => simp [tkC] at hu; subst hu; exact c1
    | 2, hu => simp [tkC] at hu; subst hu; exact c2
  · intro v' w' h1 h2 _
    refine h v' w' ⟨?_, Nat.le_trans hown.2 ((Below.refl B w).grown h2 hown.2 (fun k hk => (World.ownsRow.lt hown.1 k hk).1)).size⟩ fun W C hC hb => hb.grown h2 (Nat.le_trans hC hown.2) (fun k hk => Nat.le_trans hC (World.ownsRow.lt hown.1 k hk).1)
    rw [List.length_append, tkL_app]
    exact h1
theorem word_le (s : ByteArray) : (wordT s).2.2 ≤ s.size := by
  have h := pre_le (inC [3, 4, 5]) s.data.toList
  rw [Array.length_toList] at h
  have h2 : s.data.size = s.size := rfl
  unfold wordT
  split
  · exact Nat.zero_le _
  · split <;> (show pre (inC [3, 4, 5]) s.data.toList ≤ s.size; omega)
theorem number_le (s : ByteArray) : (numberT s).2.2 ≤ s.size := by
  have h := places_le s.data.toList (pre (inC digC) s.data.toList) (pre_le _ _)
  rw [Array.length_toList] at h
  unfold numberT
  split
  · exact Nat.zero_le _
  · exact h
theorem quoted_le (s : ByteArray) : (quotedT s).2.2 ≤ s.size := by
  unfold quotedT
  split
  · exact Nat.zero_le _
  · rename_i h
    have hp : Lib.hasPrefix (s.data.toList.drop (1 + pre (inC strC) (s.data.toList.drop 1))) [34] = true := by
      cases hk : Lib.hasPrefix (s.data.toList.drop (1 + pre (inC strC) (s.data.toList.drop 1))) [34]
      · exact absurd (Or.inr hk) h
      · rfl
    obtain ⟨u, hu⟩ := has_one hp
    have h2 : (s.data.toList.drop (1 + pre (inC strC) (s.data.toList.drop 1))).length = u.length + 1 := by rw [hu]; rfl
    rw [List.length_drop, Array.length_toList] at h2
    have h3 : s.data.size = s.size := rfl
    show pre (inC strC) (s.data.toList.drop 1) + 2 ≤ s.size
    omega
theorem first_le (s : ByteArray) : (firstT s).2.2 ≤ s.size := by
  unfold firstT
  split
  · exact word_le s
  · split
    · exact number_le s
    · split
      · exact quoted_le s
      · split
        · rename_i h7
          have : 0 < s.size := by
            rcases Nat.eq_zero_or_pos s.size with h0 | h0
            · exfalso
              have : s = ⟨#[]⟩ := by apply ByteArray.ext; exact Array.eq_empty_of_size_eq_zero h0
              subst this
              revert h7; decide
            · exact h0
          exact symN_le this
        · exact Nat.zero_le _
theorem tail_le : ∀ (f : Nat) (t : List UInt8), tailG f t ≤ t.length
  | 0, _ => Nat.zero_le _
  | f + 1, t => by
    rw [tailG]
    split
    · have h1 := line_le t
      have h2 := pre_le (inC wsC) (t.drop (lineLen t))
      have h3 := tail_le f (t.drop (lineLen t + pre (inC wsC) (t.drop (lineLen t))))
      rw [List.length_drop] at h2 h3
      omega
    · exact Nat.zero_le _
theorem gap_le (s : List UInt8) : gapT s ≤ s.length := by
  unfold gapT
  have h1 := pre_le (inC wsC) s
  have h3 := tail_le (s.length + 1) (s.drop (pre (inC wsC) s))
  rw [List.length_drop] at h3
  omega
/-- what Scan answers: the tokens, a place, a code -/
abbrev R3 := List Tk × Nat × Int
def scanL (s : ByteArray) : Nat → Nat → List Tk → R3
  | 0, _, acc => (acc, 0, 0)
  | f + 1, at_, acc =>
    if at_ < s.size then
      if (firstT (s.extract at_ s.size)).2.2 = 0 then ([], at_, 1)
      else if acc.length = 2000 then ([], 0, 2)
      else scanL s f (at_ + (firstT (s.extract at_ s.size)).2.2 + gapT (s.data.toList.drop (at_ + (firstT (s.extract at_ s.size)).2.2))) (acc ++ [((firstT (s.extract at_ s.size)).1, (firstT (s.extract at_ s.size)).2.1, at_)])
    else (acc, 0, 0)
def scanT (s : ByteArray) : R3 := if 8000 < s.size then ([], 0, 2) else scanL s (s.size + 1) (gapT s.data.toList) []
def RetScan (w : World) (x : R3) (e : Ending) (w' : World) : Prop := ∃ v, e = .returned (.tuple #[v, .int .i64 (x.2.1 : Int), .int .i64 x.2.2]) ∧ OwnT w' w.heap.size v x.1 ∧ Below w.heap.size w w'
end Go.Proofs.YtegobakoflbnfaaDoor
