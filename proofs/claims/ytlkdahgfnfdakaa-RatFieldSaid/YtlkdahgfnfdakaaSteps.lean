import Derived.Test.YtlkdahgfnfdakaaOver
import Derived.Test.YtlkdahgfnfdakaaLehmer
import Derived.Deep.QuietTactic
import Derived.BigQuiet
namespace Go.Proofs.Ytlkdahgfnfdakaa
open Go.RowKit WN LM

theorem div_pow {l : List Nat} (h : Digs 1000000000 l) (m : Nat) : val 1000000000 l / 1000000000 ^ m = val 1000000000 (l.drop m) := by
  by_cases hm : m ≤ l.length
  · rw [val_take_drop _ l m hm, Nat.add_mul_div_left _ _ (Nat.pow_pos (by omega))]
    have := val_lt (B := 1000000000) (by omega) (h.take m)
    rw [List.length_take, Nat.min_eq_left hm] at this
    rw [Nat.div_eq_of_lt this, Nat.zero_add]
  · rw [List.drop_eq_nil_of_le (by omega), val_nil]
    have := val_lt (B := 1000000000) (by omega) h
    exact Nat.div_eq_of_lt (Nat.lt_of_lt_of_le this (Nat.pow_le_pow_right (by omega) (by omega)))

theorem drop_next (l : List Nat) (m : Nat) : val 1000000000 (l.drop m) = (l[m]?.getD 0) + 1000000000 * val 1000000000 (l.drop (m + 1)) := by
  by_cases hm : m < l.length
  · rw [val_drop _ _ _ hm]; simp [hm]
  · rw [List.drop_eq_nil_of_le (by omega), List.drop_eq_nil_of_le (by omega), List.getElem?_eq_none (by omega)]; simp

def TopOut (r : Nat) (w : World) (e : Ending) (w' : World) : Prop := e = .returned (.int .i64 (r : Nat)) ∧ w = w'

set_option maxHeartbeats 1000000 in
set_option maxRecDepth 100000 in
theorem top_num {w : World} {va : Value} {a : Nat} (ha : Num w va a) (n : Nat) (hn2 : 2 ≤ n) (hn : n ≤ 10000000000) (hl : Len a ≤ n) :
    Calls Try.prog 123 #[va, .int .i64 (n : Nat)] w (TopOut (a / 1000000000 ^ (n - 2)) w) := by
  obtain ⟨oa, ca, l, rfl, hr, hc, hv, hll⟩ := ha.open
  have Hr := Lib.hid hr
  have Hc := Lib.hid hc
  have Hll := Lib.hid hll
  have Hres : Hid (a / 1000000000 ^ (n - 2) = val 1000000000 (l.drop (n - 2))) := by show _ = _; rw [← hv, div_pow hc.1]
  clear ha hr hc hv hll
  have hll' : l.length ≤ n := by have := Hll.out; omega
  go_enter Try.func123, Try.ntmps123
  go_wp2
  go_loop [5, 6] (fun v5 v6 => ∃ k : Nat, k ≤ 2 ∧ v5 = .int .i64 (val 1000000000 (l.drop (n - k)) : Nat) ∧ v6 = .int .i64 ((n : Int) - 1 - k)) (fun _ v6 => (intOf v6 + 1).toNat)
  case atStart => exact ⟨0, by omega, by rw [Nat.sub_zero, List.drop_eq_nil_of_le hll']; rfl, by congr 1; omega⟩
  case round =>
    obtain ⟨k, hk, rfl, rfl⟩ := hrel
    by_cases hlt : k < 2
    · obtain ⟨i, hi⟩ : ∃ i, i + 1 + k = n := ⟨n - 1 - k, by omega⟩
      have hz : val 1000000000 (l.drop (n - k)) < 1000000000 := by
        have h := val_lt (B := 1000000000) (by omega) (Hc.out.1.drop (n - k))
        refine Nat.lt_of_lt_of_le h ?_
        have h2 : (l.drop (n - k)).length ≤ 1 := by rw [List.length_drop]; omega
        exact Nat.le_trans (Nat.pow_le_pow_right (by omega) h2) (by simp)
      have hnext := drop_next l i
      rw [show i + 1 = n - k from by omega] at hnext
      have Hnext := Lib.hid hnext; clear hnext
      generalize val 1000000000 (l.drop (n - k)) = z at *
      have hi1 : (n : Int) - 1 - k = (i : Int) := by omega
      rw [hi1]
      clear hi1
      have hge : (n : Int) - 2 ≤ (i : Int) := by omega
      have hin : i < n := by omega
      by_cases hil : i < Len a
      · obtain ⟨b, off, rfl, _, hcell⟩ := Hr.out.at' (Below.refl _ _) i (by have := Hll.out; omega)
        have hy9 := Hc.out.1.get i (by have := Hll.out; omega)
        have HY : Hid (l[i]?.getD 0 = l[i]'(by have := Hll.out; omega)) := by show _ = _; rw [List.getElem?_eq_getElem (by have := Hll.out; omega)]; rfl
        generalize l[i]'_ = y at *
        have Hi := Lib.hid hi; clear hi
        go_wp2
        go_round
        case rel => exact ⟨k + 1, by omega, by
          refine i64_eq ?_
          rw [show n - (k + 1) = i from by have := Hi.out; omega, Hnext.out, HY.out] <;> omega, i64_eq (by have := Hi.out; omega)⟩
        case measure => simp [intOf] <;> omega
      · have HY : Hid (l[i]?.getD 0 = 0) := by
          show _ = _
          have h := Hll.out
          have h2 : l.length ≤ i := by omega
          rw [List.getElem?_eq_none h2]; rfl
        have Hi := Lib.hid hi; clear hi
        go_wp2
        go_round
        case rel => exact ⟨k + 1, by omega, by
          refine i64_eq ?_
          rw [show n - (k + 1) = i from by have := Hi.out; omega, Hnext.out, HY.out] <;> omega, i64_eq (by have := Hi.out; omega)⟩
        case measure => simp [intOf] <;> omega
    · obtain rfl : k = 2 := by omega
      go_wp2
      go_ret
      exact ⟨by rw [Hres.out]; rfl, rfl⟩

def StepsOut (x0 y0 : Int) (w : World) (e : Ending) (w' : World) : Prop :=
  ∃ A B C D x y : Int, e = .returned (.agg #[.int .i64 A, .int .i64 B, .int .i64 C, .int .i64 D]) ∧ CS x0 y0 A B C D x y ∧ (∃ st : Prop, LM.Good x0 y0 A B C D st ∧ (st ∨ B = 0)) ∧ Below w.heap.size w w'

theorem four_set {w : World} {g : Nat} {t : TypeId} {a0 a1 a2 a3 : Value} (b0 b1 b2 b3 : Value) (h : w.heap[g]? = some (.cells #[a0, a1, a2, a3] t (0, 0))) :
    ((((w.setCell ⟨g, 0, none⟩ b0).setCell ⟨g, 1, none⟩ b1).setCell ⟨g, 2, none⟩ b2).setCell ⟨g, 3, none⟩ b3).heap[g]? = some (.cells #[b0, b1, b2, b3] t (0, 0)) := by
  have h1 := heap_setCell_same w g 0 _ t b0 h
  have h2 := heap_setCell_same _ g 1 _ t b1 h1
  have h3 := heap_setCell_same _ g 2 _ t b2 h2
  have h4 := heap_setCell_same _ g 3 _ t b3 h3
  exact h4
theorem four_other {w : World} {g k : Nat} (b0 b1 b2 b3 : Value) (hk : k ≠ g) :
    ((((w.setCell ⟨g, 0, none⟩ b0).setCell ⟨g, 1, none⟩ b1).setCell ⟨g, 2, none⟩ b2).setCell ⟨g, 3, none⟩ b3).heap[k]? = w.heap[k]? := by
  rw [heap_setCell_other _ _ _ _ hk, heap_setCell_other _ _ _ _ hk, heap_setCell_other _ _ _ _ hk, heap_setCell_other _ _ _ _ hk]
theorem four_below {w w' : World} {B g : Nat} (b0 b1 b2 b3 : Value) (h : Below B w w') (hg : B ≤ g) :
    Below B w ((((w'.setCell ⟨g, 0, none⟩ b0).setCell ⟨g, 1, none⟩ b1).setCell ⟨g, 2, none⟩ b2).setCell ⟨g, 3, none⟩ b3) :=
  (((h.setCell (p := ⟨g, 0, none⟩) hg _).setCell (p := ⟨g, 1, none⟩) hg _).setCell (p := ⟨g, 2, none⟩) hg _).setCell (p := ⟨g, 3, none⟩) hg _

set_option maxHeartbeats 2000000 in
set_option maxRecDepth 100000 in
theorem commonSteps_any (x0 y0 : Int) (h0 : 0 ≤ y0) (hyx : y0 ≤ x0) (hx0 : x0 < 1000000000000000000) (w : World) :
    Calls Try.prog 122 #[.int .i64 x0, .int .i64 y0] w (StepsOut x0 y0 w) := by
  go_enter Try.func122, Try.ntmps122
  go_wp2
  have Hx0 := Lib.hid hx0; clear hx0
  go_loopw [0, 1] (fun v0 v1 wr => ∃ A B C D x y : Int, v0 = .int .i64 x ∧ v1 = .int .i64 y ∧ Hid (CS x0 y0 A B C D x y) ∧ x ≤ x0 ∧ y ≤ x0 ∧ Hid (∃ st : Prop, LM.Good x0 y0 A B C D st ∧ (st ∨ B = 0)) ∧
      wr.heap[w.heap.size]? = some (.cells #[.int .i64 0, .int .i64 0, .int .i64 0, .int .i64 0] 110 (0, 0)) ∧ wr.heap[w.heap.size + 1]? = some (.cells #[.int .i64 A, .int .i64 B, .int .i64 C, .int .i64 D] 110 (0, 0)) ∧ Below w.heap.size w wr) (fun _ v1 _ => (intOf v1).toNat)
  case atStart => exact ⟨1, 0, 0, 1, x0, y0, rfl, rfl, CS.start h0 hyx, Int.le_refl _, hyx, ⟨False, Good.start h0 (by omega), .inr rfl⟩, by rw [alloc_lt _ _ _ (by simp)]; exact alloc_at _ _ _ rfl, alloc_at _ _ _ (by simp), ((Below.refl _ w).alloc (Nat.le_refl _) _).alloc (by simp) _⟩
  case round =>
    obtain ⟨A, B, C, D, x, y, rfl, rfl, cs, hxx, hyy, gd, hbr, hbs, hb⟩ := hrel
    obtain ⟨hyC, hyD, hy0', hx0', hxA, hxB, hle, hbA, hbB, hbC, hbD⟩ : 0 ≤ y + C ∧ 0 ≤ y + D ∧ 0 ≤ y ∧ 0 ≤ x ∧ 0 ≤ x + A ∧ 0 ≤ x + B ∧ y + C ≤ x + A ∧ (-1000000000 < A ∧ A < 1000000000) ∧ (-1000000000 < B ∧ B < 1000000000) ∧ (-1000000000 < C ∧ C < 1000000000) ∧ (-1000000000 < D ∧ D < 1000000000) := by
      have h := cs.out; exact ⟨h.yC, h.yD, h.y0', h.x0', h.xA, h.xB, h.le, h.bA, h.bB, h.bC, h.bD⟩
    have hx9 : x < 1000000000000000000 := by have := Hx0.out; omega
    have hy9 : y < 1000000000000000000 := by have := Hx0.out; omega
    have c0 : wr.cell? ⟨w.heap.size + 1, 0, none⟩ = some (.int .i64 A) := by rw [cell_of_row _ _ _ _ _ _ hbs]; rfl
    have c1 : wr.cell? ⟨w.heap.size + 1, 1, none⟩ = some (.int .i64 B) := by rw [cell_of_row _ _ _ _ _ _ hbs]; rfl
    have c2 : wr.cell? ⟨w.heap.size + 1, 2, none⟩ = some (.int .i64 C) := by rw [cell_of_row _ _ _ _ _ _ hbs]; rfl
    have c3 : wr.cell? ⟨w.heap.size + 1, 3, none⟩ = some (.int .i64 D) := by rw [cell_of_row _ _ _ _ _ _ hbs]; rfl
    have f0 := frozen_of_row _ _ 0 _ _ hbs
    have f1 := frozen_of_row _ _ 1 _ _ hbs
    have f2 := frozen_of_row _ _ 2 _ _ hbs
    have f3 := frozen_of_row _ _ 3 _ _ hbs
    have r0 : wr.cell? ⟨w.heap.size, 0, none⟩ = some (.int .i64 0) := by rw [cell_of_row _ _ _ _ _ _ hbr]; rfl
    have r1 : wr.cell? ⟨w.heap.size, 1, none⟩ = some (.int .i64 0) := by rw [cell_of_row _ _ _ _ _ _ hbr]; rfl
    have r2 : wr.cell? ⟨w.heap.size, 2, none⟩ = some (.int .i64 0) := by rw [cell_of_row _ _ _ _ _ _ hbr]; rfl
    have r3 : wr.cell? ⟨w.heap.size, 3, none⟩ = some (.int .i64 0) := by rw [cell_of_row _ _ _ _ _ _ hbr]; rfl
    have g0 := frozen_of_row _ _ 0 _ _ hbr
    have g1 := frozen_of_row _ _ 1 _ _ hbr
    have g2 := frozen_of_row _ _ 2 _ _ hbr
    have g3 := frozen_of_row _ _ 3 _ _ hbr
    have Hbr := Lib.hid hbr; clear hbr
    have Hbs := Lib.hid hbs; clear hbs
    by_cases z1 : y + C = 0
    · have t1 : (y + C != 0) = false := by simp [z1]
      have Z1 := Lib.hid z1; clear z1
      go_wp2
      have hrow := four_set (.int .i64 A) (.int .i64 B) (.int .i64 C) (.int .i64 D) Hbr.out
      have e0 := (cell_of_row _ _ 0 _ _ _ hrow)
      have e1 := (cell_of_row _ _ 1 _ _ _ hrow)
      have e2 := (cell_of_row _ _ 2 _ _ _ hrow)
      have e3 := (cell_of_row _ _ 3 _ _ _ hrow)
      refine bodyPost_ret (v := .agg #[.int .i64 A, .int .i64 B, .int .i64 C, .int .i64 D]) ?_ rfl ⟨A, B, C, D, x, y, rfl, cs.out, gd.out, four_below _ _ _ _ hb (Nat.le_refl _)⟩
      simp at e0 e1 e2 e3
      simp [results, Try.f122, go_sem, e0, e1, e2, e3]
    by_cases z2 : y + D = 0
    · have t1 : (y + C != 0) = true := by simp [z1]
      have t2 : (y + D != 0) = false := by simp [z2]
      have Z2 := Lib.hid z2; clear z2 z1
      go_wp2
      have hrow := four_set (.int .i64 A) (.int .i64 B) (.int .i64 C) (.int .i64 D) Hbr.out
      have e0 := (cell_of_row _ _ 0 _ _ _ hrow)
      have e1 := (cell_of_row _ _ 1 _ _ _ hrow)
      have e2 := (cell_of_row _ _ 2 _ _ _ hrow)
      have e3 := (cell_of_row _ _ 3 _ _ _ hrow)
      refine bodyPost_ret (v := .agg #[.int .i64 A, .int .i64 B, .int .i64 C, .int .i64 D]) ?_ rfl ⟨A, B, C, D, x, y, rfl, cs.out, gd.out, four_below _ _ _ _ hb (Nat.le_refl _)⟩
      simp at e0 e1 e2 e3
      simp [results, Try.f122, go_sem, e0, e1, e2, e3]
    have p1 : 0 < y + C := by omega
    have p2 : 0 < y + D := by omega
    have t1 : (y + C != 0) = true := by simp [z1]
    have t2 : (y + D != 0) = true := by simp [z2]
    clear z1 z2
    by_cases hq : (x + A) / (y + C) = (x + B) / (y + D)
    · obtain ⟨q, e1⟩ : ∃ q, (x + A) / (y + C) = q := ⟨_, rfl⟩
      have e2 : (x + B) / (y + D) = q := by rw [← hq]; exact e1
      clear hq
      obtain ⟨cs', hq1, hqy, hqx, hqC, hqD, l1, l2⟩ := cs.out.step Hx0.out h0 hyx p1 p2 e1 e2
      have Gd : Hid (∃ st : Prop, LM.Good x0 y0 C D (A - q * C) (B - q * D) st ∧ (st ∨ D = 0)) := by
        obtain ⟨st, g, _⟩ := gd.out
        exact ⟨True, g.step cs.out Hx0.out h0 hyx p1 p2 e1 e2, .inl trivial⟩
      have Cs := Lib.hid cs'
      have hs' := cs'.bC
      have hs'' := cs'.bD
      have hlast : x - q * y < y := by
        have := cs'.yC
        have := cs'.yD
        have := cs.out.sg
        rcases this with ⟨s1, s2, s3, s4, -, -⟩ | ⟨s1, s2, s3, s4, -, -⟩
        · have := Int.mul_nonpos_of_nonneg_of_nonpos (by omega : 0 ≤ q) s3
          omega
        · have := Int.mul_nonpos_of_nonneg_of_nonpos (by omega : 0 ≤ q) s4
          omega
      have Hlast := Lib.hid hlast
      have hyn : 0 ≤ x - q * y := cs'.y0'
      clear cs' hlast l1 l2
      go_wp2
      go_roundw
      case rel => exact ⟨C, D, A - q * C, B - q * D, y, x - q * y, rfl, rfl, Cs.out, hyy, by omega, Gd.out, by rw [four_other _ _ _ _ (by omega)]; exact Hbr.out, four_set _ _ _ _ Hbs.out, four_below _ _ _ _ hb (by omega)⟩
      case measure => have := Hlast.out; simp [intOf]; omega
    · have t3 : ((x + A) / (y + C) != (x + B) / (y + D)) = true := by simp [hq]
      clear hq
      go_wp2
      have hrow := four_set (.int .i64 A) (.int .i64 B) (.int .i64 C) (.int .i64 D) Hbr.out
      have e0 := (cell_of_row _ _ 0 _ _ _ hrow)
      have e1 := (cell_of_row _ _ 1 _ _ _ hrow)
      have e2 := (cell_of_row _ _ 2 _ _ _ hrow)
      have e3 := (cell_of_row _ _ 3 _ _ _ hrow)
      refine bodyPost_ret (v := .agg #[.int .i64 A, .int .i64 B, .int .i64 C, .int .i64 D]) ?_ rfl ⟨A, B, C, D, x, y, rfl, cs.out, gd.out, four_below _ _ _ _ hb (Nat.le_refl _)⟩
      simp at e0 e1 e2 e3
      simp [results, Try.f122, go_sem, e0, e1, e2, e3]
end Go.Proofs.Ytlkdahgfnfdakaa
