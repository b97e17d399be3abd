/- alive: the law's own four scans. -/
import Derived.Test.YtegobakoflbnfaaDoorW
namespace Go.Proofs.YtegobakoflbnfaaDoor
open Go Go.RowKit

def lit1 : ByteArray := ⟨#[120, 49, 61, 50, 46, 53, 48, 42, 121, 59]⟩
def lit2 : ByteArray := ⟨#[97, 60, 62, 98, 47, 47, 99]⟩
def lit3 : ByteArray := ⟨#[49, 46]⟩
def lit4 : ByteArray := ⟨#[34, 97]⟩
def half : ByteArray := ⟨(fracL [50] [53, 48]).toArray⟩
def one1 : ByteArray := ⟨(fracL [49] []).toArray⟩
def out1 : List Tk := [(1, ⟨#[120, 49]⟩, 0), (5, ⟨#[61]⟩, 2), (3, half, 3), (5, ⟨#[42]⟩, 7), (1, ⟨#[121]⟩, 8), (5, ⟨#[59]⟩, 9)]
def out2 : List Tk := [(1, ⟨#[97]⟩, 0), (5, ⟨#[60, 62]⟩, 1), (1, ⟨#[98]⟩, 3)]
def out3 : List Tk := [(3, one1, 0), (5, ⟨#[46]⟩, 1)]
theorem scan4 : scanT lit4 = ([], 0, 1) := by kernel_rfl
theorem scan2 : scanT lit2 = (out2, 0, 0) := by kernel_rfl
theorem scan3 : scanT lit3 = (out3, 0, 0) := by kernel_rfl
theorem scan1 : scanT lit1 = (out1, 0, 0) := by kernel_rfl
theorem half_eq : half = ⟨#[53, 47, 50]⟩ := by kernel_rfl
theorem one_eq : one1 = ⟨#[49]⟩ := by kernel_rfl
theorem TokAt.new (w : World) (L : List Tk) : TokAt (w.alloc (.cells (tkL L).toArray 36)) (.slice (some ⟨w.heap.size, 0, none⟩) L.length L.length) L := by
  refine ⟨_, _, rfl, fun _ => ⟨w.heap.size, rfl, fun i hi => ?_⟩⟩
  obtain ⟨b0, b1, b2⟩ := tkL_at L i hi
  refine ⟨?_, ?_, ?_⟩ <;> (rw [cell_of_row _ _ _ _ _ _ (heap_alloc_new w _)]; simp only [List.getElem?_toArray]; assumption)
def exp1 : List Tk := [(1, ⟨#[120, 49]⟩, 0), (5, ⟨#[61]⟩, 0), (3, ⟨#[53, 47, 50]⟩, 0), (5, ⟨#[42]⟩, 0), (1, ⟨#[121]⟩, 0), (5, ⟨#[59]⟩, 0)]
def exp2 : List Tk := [(1, ⟨#[97]⟩, 0), (5, ⟨#[60, 62]⟩, 0), (1, ⟨#[98]⟩, 0)]
def exp3 : List Tk := [(3, ⟨#[49]⟩, 0), (5, ⟨#[46]⟩, 0)]
theorem same1 : sameB false out1 exp1 = true := by unfold out1; rw [half_eq]; kernel_rfl
theorem same2 : sameB false out2 exp2 = true := by kernel_rfl
theorem same3 : sameB false out3 exp3 = true := by unfold out3; rw [one_eq]; kernel_rfl

set_option maxHeartbeats 6400000 in
set_option maxRecDepth 100000 in
theorem alive_any (w : World) (hm : MaxL w) (ht : Pow10 w) : Calls Tryd.prog 13 #[] w fun e w' => e = .returned (.bool true) ∧ Below w.heap.size w w' := by
  have SC : Hid (∀ W, Below w.heap.size w W → ∀ t : ByteArray, t.size ≤ 8000 → Calls Tryd.prog 15 #[.string t] W (RetScan W (scanT t))) := fun W hb t h => scan_any W t (by omega) (hm.go hb) (ht.go hb)
  have S1 : Hid (∀ W, Below w.heap.size w W → Calls Tryd.prog 15 #[.string lit1] W (RetScan W (out1, 0, 0))) := fun W hb => by rw [← scan1]; exact SC.out W hb lit1 (by decide)
  have S2 : Hid (∀ W, Below w.heap.size w W → Calls Tryd.prog 15 #[.string lit2] W (RetScan W (out2, 0, 0))) := fun W hb => by rw [← scan2]; exact SC.out W hb lit2 (by decide)
  have S3 : Hid (∀ W, Below w.heap.size w W → Calls Tryd.prog 15 #[.string lit3] W (RetScan W (out3, 0, 0))) := fun W hb => by rw [← scan3]; exact SC.out W hb lit3 (by decide)
  have S4 : Hid (∀ W, Below w.heap.size w W → Calls Tryd.prog 15 #[.string lit4] W (RetScan W ([], 0, 1))) := fun W hb => by rw [← scan4]; exact SC.out W hb lit4 (by decide)
  have SA : Hid (∀ W v1 v2 L M, TokAt W v1 L → TokAt W v2 M → L.length ≤ 2000 → M.length ≤ 2000 → sameB false L M = true → Calls Tryd.prog 16 #[v1, v2, .bool false] W fun e w' => e = .returned (.bool true) ∧ Below W.heap.size W w') := fun W v1 v2 L M h1 h2 h3 h4 h5 => by
    have := same_any W v1 v2 L M false h1 h2 h3 h4
    rw [h5] at this
    exact this
  clear hm ht SC
  go_enter Tryd.func13, Tryd.ntmps13
  go_wp2_with fail
  refine (S1.out _ (Below.refl _ _)).mono ?_; rintro e w1 ⟨v1, rfl, ho1, hb1⟩
  have B1 := Lib.hid hb1; have T1 := Lib.hid ho1.tokAt; clear ho1 hb1
  go_wp2_with fail
  refine (S2.out _ B1.out).mono ?_; rintro e w2 ⟨v2, rfl, ho2, hb2⟩
  have B2 := Lib.hid (bstep B1.out hb2); have T1 := Lib.hid (T1.out.go hb2); have T2 := Lib.hid ho2.tokAt; clear ho2 hb2 B1
  go_wp2_with fail
  refine (S3.out _ B2.out).mono ?_; rintro e w3 ⟨v3, rfl, ho3, hb3⟩
  have B3 := Lib.hid (bstep B2.out hb3); have T1 := Lib.hid (T1.out.go hb3); have T2 := Lib.hid (T2.out.go hb3); have T3 := Lib.hid ho3.tokAt; clear ho3 hb3 B2
  go_wp2_with fail
  refine (S4.out _ B3.out).mono ?_; rintro e w4 ⟨v4, rfl, ho4, hb4⟩
  have B4 := Lib.hid (bstep B3.out hb4); have T1 := Lib.hid (T1.out.go hb4); have T2 := Lib.hid (T2.out.go hb4); have T3 := Lib.hid (T3.out.go hb4); clear ho4 hb4 B3
  obtain ⟨W5, hW5⟩ : ∃ W, W = ((w4.alloc (.cells (tkL exp1).toArray 36)).alloc (.cells (tkL exp2).toArray 36)).alloc (.cells (tkL exp3).toArray 36) := ⟨_, rfl⟩
  have e1 : (w4.alloc (.cells (tkL exp1).toArray 36)).heap.size = w4.heap.size + 1 := by simp
  have e2 : ((w4.alloc (.cells (tkL exp1).toArray 36)).alloc (.cells (tkL exp2).toArray 36)).heap.size = w4.heap.size + 1 + 1 := by simp
  have X1 : TokAt W5 (.slice (some ⟨w4.heap.size, 0, none⟩) 6 6) exp1 := by rw [hW5]; exact ((TokAt.new w4 exp1).go (below_alloc _ _)).go (below_alloc _ _)
  have X2 : TokAt W5 (.slice (some ⟨w4.heap.size + 1, 0, none⟩) 3 3) exp2 := by
    have := (TokAt.new (w4.alloc (.cells (tkL exp1).toArray 36)) exp2).go (below_alloc _ (.cells (tkL exp3).toArray 36))
    rw [e1] at this
    rw [hW5]; exact this
  have X3 : TokAt W5 (.slice (some ⟨w4.heap.size + 1 + 1, 0, none⟩) 2 2) exp3 := by
    have := TokAt.new ((w4.alloc (.cells (tkL exp1).toArray 36)).alloc (.cells (tkL exp2).toArray 36)) exp3
    rw [e2] at this
    rw [hW5]; exact this
  have b5 : Below w4.heap.size w4 W5 := by rw [hW5]; exact bstep (bstep (below_alloc _ _) (below_alloc _ _)) (below_alloc _ _)
  have B5 := Lib.hid (bstep B4.out b5)
  have T1 := Lib.hid (T1.out.go b5); have T2 := Lib.hid (T2.out.go b5); have T3 := Lib.hid (T3.out.go b5)
  have X1 := Lib.hid X1; have X2 := Lib.hid X2; have X3 := Lib.hid X3
  have HW5 := Lib.hid hW5
  have C1 := Lib.hid (SA.out W5 _ _ _ _ T1.out X1.out (by decide) (by decide) same1)
  clear e1 e2 b5 hW5 B4
  go_wp2_with fail
  have hw : ∀ {v2 : Value} {K : Ending → World → Prop}, Calls Tryd.prog 16 #[v1, v2, .bool false] W5 K → Calls Tryd.prog 16 #[v1, v2, .bool false] (((w4.alloc (.cells (tkL exp1).toArray 36)).alloc (.cells (tkL exp2).toArray 36)).alloc (.cells (tkL exp3).toArray 36)) K := fun h => by rw [← HW5.out]; exact h
  refine hw (C1.out.mono ?_)
  clear hw; rintro e w6 ⟨rfl, hb6⟩
  have B6 := Lib.hid (bstep B5.out hb6)
  have C2 := Lib.hid (SA.out w6 _ _ _ _ (T2.out.go hb6) (X2.out.go hb6) (by decide) (by decide) same2)
  have T3 := Lib.hid (T3.out.go hb6); have X3 := Lib.hid (X3.out.go hb6)
  clear hb6
  go_wp2_with fail
  refine C2.out.mono ?_; rintro e w7 ⟨rfl, hb7⟩
  have B7 := Lib.hid (bstep B6.out hb7)
  have C3 := Lib.hid (SA.out w7 _ _ _ _ (T3.out.go hb7) (X3.out.go hb7) (by decide) (by decide) same3)
  clear hb7
  go_wp2_with fail
  refine C3.out.mono ?_; rintro e w8 ⟨rfl, hb8⟩
  have B8 := Lib.hid (bstep B7.out hb8); clear hb8
  go_wp2_with fail
  go_ret
  exact ⟨rfl, B8.out⟩
end Go.Proofs.YtegobakoflbnfaaDoor
