/- word, quoted: what they read. -/
import Derived.Test.YtegobakoflbnfaaDoorE
namespace Go.Proofs.YtegobakoflbnfaaDoor
open Go Go.RowKit

theorem bstep {w w1 w2 : World} (h : Below w.heap.size w w1) (k : Below w1.heap.size w1 w2) : Below w.heap.size w w2 := h.trans (k.mono h.size)
theorem below_alloc (w : World) (o : Obj) : Below w.heap.size w (w.alloc o) := (Below.refl _ w).alloc (Nat.le_refl _) o
theorem cls_new (w : World) (l : List Int) (t : TypeId) : Cls (w.alloc (.cells (l.map (Value.int .i64)).toArray t)) (.slice (some ⟨w.heap.size, 0, none⟩) l.length l.length) l := by
  refine ⟨w.heap.size, 0, l.length, rfl, fun i hi => ?_⟩
  rw [cell_of_row _ _ _ _ _ _ (heap_alloc_new w _)]
  simp [hi]
/-- a box of a token -/
def BoxT (w : World) (p : Nat) (a b c : Value) : Prop := w.heap[p]? = some (.cells #[a, b, c] 36 (0, 0))
theorem BoxT.go {w w' : World} {p : Nat} {a b c : Value} (h : BoxT w p a b c) (hb : Below w.heap.size w w') : BoxT w' p a b c := (hb.block p (lt_of_block h)).trans h
theorem BoxT.new (w : World) (a b c : Value) : BoxT (w.alloc (.cells #[a, b, c] 36)) w.heap.size a b c := heap_alloc_new w _
theorem BoxT.facts {w : World} {p : Nat} {a b c : Value} (h : BoxT w p a b c) : w.cell? ⟨p, 0, none⟩ = some a ∧ w.cell? ⟨p, 1, none⟩ = some b ∧ w.cell? ⟨p, 2, none⟩ = some c ∧ w.frozen? ⟨p, 0, none⟩ = false ∧ w.frozen? ⟨p, 1, none⟩ = false ∧ w.frozen? ⟨p, 2, none⟩ = false := by
  refine ⟨?_, ?_, ?_, frozen_of_row _ _ 0 _ _ h, frozen_of_row _ _ 1 _ _ h, frozen_of_row _ _ 2 _ _ h⟩ <;> (rw [cell_of_row _ _ _ _ _ _ h]; rfl)
theorem BoxT.set {w : World} {p : Nat} {a b c : Value} (h : BoxT w p a b c) (a' b' c' : Value) : BoxT (((w.setCell ⟨p, 0, none⟩ a').setCell ⟨p, 1, none⟩ b').setCell ⟨p, 2, none⟩ c') p a' b' c' := by
  have h1 := heap_setCell_same w p 0 _ 36 a' h
  have h2 := heap_setCell_same _ p 1 _ 36 b' h1
  have h3 := heap_setCell_same _ p 2 _ 36 c' h2
  exact h3
theorem tok_ret {w w' : World} {p : Nat} {a b c : Value} (bx : BoxT w' p a b c) (a' b' c' : Value) (hb : Below w.heap.size w w') (hp : w.heap.size ≤ p) :
    (((w'.setCell ⟨p, 0, none⟩ a').setCell ⟨p, 1, none⟩ b').setCell ⟨p, 2, none⟩ c').cell? ⟨p, 0, none⟩ = some a' ∧
    (((w'.setCell ⟨p, 0, none⟩ a').setCell ⟨p, 1, none⟩ b').setCell ⟨p, 2, none⟩ c').cell? ⟨p, 1, none⟩ = some b' ∧
    (((w'.setCell ⟨p, 0, none⟩ a').setCell ⟨p, 1, none⟩ b').setCell ⟨p, 2, none⟩ c').cell? ⟨p, 2, none⟩ = some c' ∧
    Below w.heap.size w (((w'.setCell ⟨p, 0, none⟩ a').setCell ⟨p, 1, none⟩ b').setCell ⟨p, 2, none⟩ c') := by
  have h := (bx.set a' b' c').facts
  exact ⟨h.1, h.2.1, h.2.2.1, ((hb.setCell (p := ⟨p, 0, none⟩) hp _).setCell (p := ⟨p, 1, none⟩) hp _).setCell (p := ⟨p, 2, none⟩) hp _⟩

/-- a token that was read: its kind, its text, how many bytes it has; no bytes: there is none -/
abbrev T3 := Int × ByteArray × Nat
def noT : T3 := (0, ⟨#[]⟩, 0)
def RetTok (w : World) (x : T3) (e : Ending) (w' : World) : Prop := e = .returned (.tuple #[.agg #[.int .i64 x.1, .string x.2.1, .int .i64 0], .int .i64 (x.2.2 : Nat)]) ∧ Below w.heap.size w w'
def wordT (s : ByteArray) : T3 :=
  if 20 < pre (inC [3, 4, 5]) s.data.toList then noT
  else if isKey (s.extract 0 (pre (inC [3, 4, 5]) s.data.toList)).toList then (2, s.extract 0 (pre (inC [3, 4, 5]) s.data.toList), pre (inC [3, 4, 5]) s.data.toList)
  else (1, s.extract 0 (pre (inC [3, 4, 5]) s.data.toList), pre (inC [3, 4, 5]) s.data.toList)

set_option maxHeartbeats 4000000 in
set_option maxRecDepth 100000 in
theorem word_any (w : World) (s : ByteArray) : Calls Tryd.prog 38 #[.string s] w (RetTok w (wordT s)) := by
  have BX0 := BoxT.new w (.int .i64 0) (.string ⟨#[]⟩) (.int .i64 0)
  have B0 := below_alloc w (.cells #[.int .i64 0, .string ⟨#[]⟩, .int .i64 0] 36)
  have s1 : (w.alloc (.cells #[.int .i64 0, .string ⟨#[]⟩, .int .i64 0] 36)).heap.size = w.heap.size + 1 := by simp
  have C : Cls ((w.alloc (.cells #[.int .i64 0, .string ⟨#[]⟩, .int .i64 0] 36)).alloc (.cells #[.int .i64 3, .int .i64 4, .int .i64 5] 63)) (.slice (some ⟨w.heap.size + 1, 0, none⟩) 3 3) [3, 4, 5] := by
    rw [← s1]; exact cls_new (w.alloc (.cells #[.int .i64 0, .string ⟨#[]⟩, .int .i64 0] 36)) [3, 4, 5] 63
  have B1 := below_alloc (w.alloc (.cells #[.int .i64 0, .string ⟨#[]⟩, .int .i64 0] 36)) (.cells #[.int .i64 3, .int .i64 4, .int .i64 5] 63)
  have RN := Lib.hid (run_any C (by simp) (by decide) s)
  have BX := Lib.hid (BX0.go B1); have HB := Lib.hid (bstep B0 B1)
  have hle := pre_le (inC [3, 4, 5]) s.data.toList
  rw [Array.length_toList] at hle
  obtain ⟨x, hx⟩ : ∃ x, x = wordT s := ⟨_, rfl⟩
  have HX := Lib.hid hx
  rw [← hx]
  unfold wordT at HX
  obtain ⟨n, hn⟩ : ∃ n, pre (inC [3, 4, 5]) s.data.toList = n := ⟨_, rfl⟩
  rw [hn] at RN HX
  have hns : n ≤ s.size := by rw [← hn]; exact hle
  clear BX0 B0 C B1 hle hx hn s1
  go_enter Tryd.func38, Tryd.ntmps38
  go_wp2_with fail
  generalize ((w.alloc (.cells #[.int .i64 0, .string ⟨#[]⟩, .int .i64 0] 36)).alloc (.cells #[.int .i64 3, .int .i64 4, .int .i64 5] 63)) = w1 at *
  refine RN.out.mono ?_; rintro e w2 ⟨rfl, hb2⟩
  have BX2 := Lib.hid (BX.out.go hb2); have HB2 := Lib.hid (bstep HB.out hb2)
  clear hb2 RN BX HB
  obtain ⟨x0, x1, x2, f0, f1, f2⟩ := BX2.out.facts
  by_cases h20 : 20 < n
  · have t1 : decide (20 < (n : Int)) = true := decide_eq_true (by omega)
    have HR : Hid (x = noT) := by show _ = _; rw [HX.out, if_pos h20]
    clear h20
    go_wp2_with fail
    obtain ⟨e0, e1, e2, hb⟩ := tok_ret BX2.out (.int .i64 0) (.string ⟨#[]⟩) (.int .i64 0) HB2.out (by omega)
    refine bodyPost_ret (v := .tuple #[.agg #[.int .i64 0, .string ⟨#[]⟩, .int .i64 0], .int .i64 0]) ?_ rfl ⟨by rw [HR.out]; rfl, hb⟩
    simp [results, Tryd.f38, go_sem, e0, e1, e2]
  · have t1 : decide (20 < (n : Int)) = false := decide_eq_false (by omega)
    have KY := Lib.hid (fun W => key_any W (s.extract 0 n))
    cases hk : isKey (s.extract 0 n).toList
    · rw [hk] at KY
      have HR : Hid (x = (1, s.extract 0 n, n)) := by show _ = _; rw [HX.out, if_neg h20, if_neg (by rw [hk]; decide)]
      clear h20 hk
      go_wp2_with fail
      refine (KY.out _).mono ?_; rintro e w3 ⟨rfl, rfl⟩
      go_wp2_with fail
      obtain ⟨e0, e1, e2, hb⟩ := tok_ret BX2.out (.int .i64 1) (.string (s.extract 0 n)) (.int .i64 0) HB2.out (by omega)
      refine bodyPost_ret (v := .tuple #[.agg #[.int .i64 1, .string (s.extract 0 n), .int .i64 0], .int .i64 (n : Nat)]) ?_ rfl ⟨by rw [HR.out], hb⟩
      simp [results, Tryd.f38, go_sem, e0, e1, e2]
    · rw [hk] at KY
      have HR : Hid (x = (2, s.extract 0 n, n)) := by show _ = _; rw [HX.out, if_neg h20, if_pos hk]
      clear h20 hk
      go_wp2_with fail
      refine (KY.out _).mono ?_; rintro e w3 ⟨rfl, rfl⟩
      go_wp2_with fail
      obtain ⟨e0, e1, e2, hb⟩ := tok_ret BX2.out (.int .i64 2) (.string (s.extract 0 n)) (.int .i64 0) HB2.out (by omega)
      refine bodyPost_ret (v := .tuple #[.agg #[.int .i64 2, .string (s.extract 0 n), .int .i64 0], .int .i64 (n : Nat)]) ?_ rfl ⟨by rw [HR.out], hb⟩
      simp [results, Tryd.f38, go_sem, e0, e1, e2]
end Go.Proofs.YtegobakoflbnfaaDoor
