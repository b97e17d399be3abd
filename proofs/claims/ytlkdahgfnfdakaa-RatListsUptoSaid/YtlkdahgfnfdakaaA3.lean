/- Lehmer's steps: plain numbers. -/
import Derived.Test.YtlkdahgfnfdakaaA2
import Derived.Deep.QuietTactic
import Derived.BigQuiet
import Derived.Deep.RegionHeld
namespace Go.Proofs.Ytlkdahgfnfdakaa.LM

/-- the state of the steps: from x0, y0 to x, y by the factors A, B, C, D -/
structure CS (x0 y0 A B C D x y : Int) : Prop where
  hx : x = A * x0 + B * y0
  hy : y = C * x0 + D * y0
  yC : 0 ≤ y + C
  yD : 0 ≤ y + D
  y0' : 0 ≤ y
  x0' : 0 ≤ x
  xA : 0 ≤ x + A
  xB : 0 ≤ x + B
  le : y + C ≤ x + A
  sg : (0 ≤ A ∧ B ≤ 0 ∧ C ≤ 0 ∧ 0 ≤ D ∧ D * x - B * y = x0 ∧ A * y - C * x = y0) ∨ (A ≤ 0 ∧ 0 ≤ B ∧ 0 ≤ C ∧ D ≤ 0 ∧ B * y - D * x = x0 ∧ C * x - A * y = y0)
  bA : -1000000000 < A ∧ A < 1000000000
  bB : -1000000000 < B ∧ B < 1000000000
  bC : -1000000000 < C ∧ C < 1000000000
  bD : -1000000000 < D ∧ D < 1000000000

theorem CS.start {x0 y0 : Int} (h0 : 0 ≤ y0) (h : y0 ≤ x0) : CS x0 y0 1 0 0 1 x0 y0 :=
  ⟨by omega, by omega, by omega, by omega, by omega, by omega, by omega, by omega, by omega, .inl ⟨by omega, by omega, by omega, by omega, by omega, by omega⟩, by omega, by omega, by omega, by omega⟩

theorem sq_lt {D x x0 : Int} (h0 : 0 ≤ D) (hx : D < x) (hD : D * x ≤ x0) (h : x0 < 1000000000000000000) : D < 1000000000 := by
  rcases Int.lt_or_le D 1000000000 with h1 | h1
  · exact h1
  · have h2 : 1000000000 * 1000000000 ≤ D * x := Int.mul_le_mul h1 (by omega) (by omega) (by omega)
    omega

/-- one step: the quotient is the same at both ends -/
theorem CS.step {x0 y0 A B C D x y q : Int} (h : CS x0 y0 A B C D x y) (hx0 : x0 < 1000000000000000000) (hy0 : 0 ≤ y0) (hyx : y0 ≤ x0) (h1 : 0 < y + C) (h2 : 0 < y + D) (e1 : (x + A) / (y + C) = q) (e2 : (x + B) / (y + D) = q) :
    CS x0 y0 C D (A - q * C) (B - q * D) y (x - q * y) ∧ 1 ≤ q ∧ 0 ≤ q * y ∧ q * y ≤ x ∧ (-1000000000 < q * C ∧ q * C < 1000000000) ∧ (-1000000000 < q * D ∧ q * D < 1000000000) ∧ x - q * y + (A - q * C) < y + C ∧ x - q * y + (B - q * D) < y + D := by
  have a1 : q * (y + C) ≤ x + A := by rw [← e1]; exact Int.ediv_mul_le _ (by omega)
  have a2 : x + A < q * (y + C) + (y + C) := by
    have := Int.lt_ediv_add_one_mul_self (x + A) h1
    rw [e1, Int.add_mul, Int.one_mul] at this; exact this
  have b1 : q * (y + D) ≤ x + B := by rw [← e2]; exact Int.ediv_mul_le _ (by omega)
  have b2 : x + B < q * (y + D) + (y + D) := by
    have := Int.lt_ediv_add_one_mul_self (x + B) h2
    rw [e2, Int.add_mul, Int.one_mul] at this; exact this
  have hq : 1 ≤ q := by
    rw [← e1]
    have := h.le
    rcases Int.lt_or_le ((x + A) / (y + C)) 1 with h3 | h3
    · rw [e1] at h3
      have : q * (y + C) ≤ 0 := Int.mul_nonpos_of_nonpos_of_nonneg (by omega) (by omega)
      omega
    · exact h3
  rw [Int.mul_add] at a1 a2 b1 b2
  have hqy : 0 ≤ q * y := Int.mul_nonneg (by omega) h.y0'
  obtain ⟨hx, hy, yC, yD, y0', x0', xA, xB, le, sg, bA, bB, bC, bD⟩ := h
  have idx : x - q * y = (A - q * C) * x0 + (B - q * D) * y0 := by
    rw [Int.sub_mul, Int.sub_mul, Int.mul_assoc, Int.mul_assoc]
    have : q * y = q * (C * x0) + q * (D * y0) := by rw [hy, Int.mul_add]
    omega
  have n1 : D * (q * y) = q * D * y := by rw [Int.mul_left_comm, Int.mul_assoc]
  have n2 : C * (q * y) = q * C * y := by rw [Int.mul_left_comm, Int.mul_assoc]
  rcases sg with ⟨s1, s2, s3, s4, s5, s6⟩ | ⟨s1, s2, s3, s4, s5, s6⟩
  · have hc : q * C ≤ 0 := Int.mul_nonpos_of_nonneg_of_nonpos (by omega) s3
    have hd : 0 ≤ q * D := Int.mul_nonneg (by omega) s4
    have t1 : (q * D - B) * y + D * (x - q * y) = x0 := by rw [Int.sub_mul, Int.mul_sub, n1]; omega
    have t2 : (A - q * C) * y - C * (x - q * y) = y0 := by rw [Int.sub_mul, Int.mul_sub, n2]; omega
    have hy' : 0 ≤ x - q * y := by omega
    have p1 : 0 ≤ D * (x - q * y) := Int.mul_nonneg s4 hy'
    have p2 : 0 ≤ -C * (x - q * y) := Int.mul_nonneg (by omega) hy'
    rw [Int.neg_mul] at p2
    have k1 : q * D - B < 1000000000 := sq_lt (x := y) (x0 := x0) (by omega) (by omega) (by omega) hx0
    have k2 : A - q * C < 1000000000 := sq_lt (x := y) (x0 := x0) (by omega) (by omega) (by omega) hx0
    refine ⟨⟨hy, idx, by omega, by omega, by omega, y0', yC, yD, by omega, .inr ⟨s3, s4, by omega, by omega, ?_, ?_⟩, bC, bD, by omega, by omega⟩, hq, hqy, by omega, by omega, by omega, by omega, by omega⟩
    · rw [Int.sub_mul] at t1 ⊢; omega
    · exact t2
  · have hc : 0 ≤ q * C := Int.mul_nonneg (by omega) s3
    have hd : q * D ≤ 0 := Int.mul_nonpos_of_nonneg_of_nonpos (by omega) s4
    have t1 : (B - q * D) * y - D * (x - q * y) = x0 := by rw [Int.sub_mul, Int.mul_sub, n1]; omega
    have t2 : (q * C - A) * y + C * (x - q * y) = y0 := by rw [Int.sub_mul, Int.mul_sub, n2]; omega
    have hy' : 0 ≤ x - q * y := by omega
    have p1 : 0 ≤ -D * (x - q * y) := Int.mul_nonneg (by omega) hy'
    have p2 : 0 ≤ C * (x - q * y) := Int.mul_nonneg s3 hy'
    rw [Int.neg_mul] at p1
    have k1 : B - q * D < 1000000000 := sq_lt (x := y) (x0 := x0) (by omega) (by omega) (by omega) hx0
    have k2 : q * C - A < 1000000000 := sq_lt (x := y) (x0 := x0) (by omega) (by omega) (by omega) hx0
    refine ⟨⟨hy, idx, by omega, by omega, by omega, y0', yC, yD, by omega, .inl ⟨s3, s4, by omega, by omega, ?_, ?_⟩, bC, bD, by omega, by omega⟩, hq, hqy, by omega, by omega, by omega, by omega, by omega⟩
    · exact t1
    · rw [Int.sub_mul] at t2 ⊢; omega

/-- what the factors do with all numbers that begin with x0 and y0 -/
structure Good (x0 y0 A B C D : Int) (stepped : Prop) : Prop where
  all : ∀ M a0 b0 : Int, 0 ≤ a0 → a0 < M → 0 ≤ b0 → b0 < M → y0 * M + b0 ≤ x0 * M + a0 →
    0 ≤ A * (x0 * M + a0) + B * (y0 * M + b0) ∧ 0 ≤ C * (x0 * M + a0) + D * (y0 * M + b0) ∧
    A * (x0 * M + a0) + B * (y0 * M + b0) ≤ x0 * M + a0 ∧ C * (x0 * M + a0) + D * (y0 * M + b0) ≤ y0 * M + b0 ∧ (stepped → C * (x0 * M + a0) + D * (y0 * M + b0) < y0 * M + b0 ∧ C * (x0 * M + a0) + D * (y0 * M + b0) ≤ A * (x0 * M + a0) + B * (y0 * M + b0)) ∧
    Int.gcd (A * (x0 * M + a0) + B * (y0 * M + b0)) (C * (x0 * M + a0) + D * (y0 * M + b0)) = Int.gcd (x0 * M + a0) (y0 * M + b0)

theorem Good.start {x0 y0 : Int} (h0 : 0 ≤ y0) (hx : 0 ≤ x0) : Good x0 y0 1 0 0 1 False := by
  refine ⟨fun M a0 b0 ha0 haM hb0 hbM hle => ?_⟩
  have hM : 0 ≤ M := by omega
  have p1 := Int.mul_nonneg hx hM
  have p2 := Int.mul_nonneg h0 hM
  simp only [Int.one_mul, Int.zero_mul, Int.add_zero, Int.zero_add]
  exact ⟨by omega, by omega, by omega, by omega, fun h => h.elim, trivial⟩

theorem Good.step {x0 y0 A B C D x y q : Int} {st : Prop} (h : CS x0 y0 A B C D x y) (hx0 : x0 < 1000000000000000000) (hy0 : 0 ≤ y0) (hyx : y0 ≤ x0) (h1 : 0 < y + C) (h2 : 0 < y + D) (e1 : (x + A) / (y + C) = q) (e2 : (x + B) / (y + D) = q)
    (g : Good x0 y0 A B C D st) : Good x0 y0 C D (A - q * C) (B - q * D) True := by
  obtain ⟨h', hq, hqy, hyx', hqc, hqd, l1, l2⟩ := h.step hx0 hy0 hyx h1 h2 e1 e2
  refine ⟨fun M a0 b0 ha0 haM hb0 hbM hle => ?_⟩
  obtain ⟨g1, g2, g3, g4, g5, g6⟩ := g.all M a0 b0 ha0 haM hb0 hbM hle
  have hM : 0 < M := by omega
  have key : ∀ P Q R S : Int, P * (x0 * M + a0) + Q * (y0 * M + b0) = M * (P * x0 + Q * y0) + P * a0 + Q * b0 := fun P Q R S => by
    rw [Int.mul_add, Int.mul_add, Int.mul_add, ← Int.mul_assoc P, ← Int.mul_assoc Q, Int.mul_comm M, Int.mul_comm M]; omega
  have k1 := key C D 0 0
  have k2 := key (A - q * C) (B - q * D) 0 0
  rw [← h.hy] at k1
  rw [← h'.hy] at k2
  have exp : (A - q * C) * (x0 * M + a0) + (B - q * D) * (y0 * M + b0) = (A * (x0 * M + a0) + B * (y0 * M + b0)) - q * (C * (x0 * M + a0) + D * (y0 * M + b0)) := by
    rw [Int.sub_mul, Int.sub_mul, Int.mul_add q, Int.mul_assoc q C, Int.mul_assoc q D]; omega
  have hqQ : 0 ≤ q * (C * (x0 * M + a0) + D * (y0 * M + b0)) := Int.mul_nonneg (by omega) g2
  -- the new second number is not less than 0, and less than the old one
  have both : 0 ≤ (A - q * C) * (x0 * M + a0) + (B - q * D) * (y0 * M + b0) ∧ (A - q * C) * (x0 * M + a0) + (B - q * D) * (y0 * M + b0) < C * (x0 * M + a0) + D * (y0 * M + b0) := by
    rw [k1, k2]
    have c1 := h'.yC
    have c2 := h'.yD
    generalize hC' : A - q * C = C' at *
    generalize hD' : B - q * D = D' at *
    generalize hy' : x - q * y = y' at *
    have m1 : 0 ≤ M * (y' + C') := Int.mul_nonneg (by omega) c1
    have m2 : 0 ≤ M * (y' + D') := Int.mul_nonneg (by omega) c2
    have m3 : M * 1 ≤ M * (y + C - (y' + C')) := Int.mul_le_mul_of_nonneg_left (by omega) (by omega)
    have m4 : M * 1 ≤ M * (y + D - (y' + D')) := Int.mul_le_mul_of_nonneg_left (by omega) (by omega)
    rw [Int.mul_add] at m1 m2
    rw [Int.mul_sub, Int.mul_add, Int.mul_add] at m3 m4
    have sgn := h.sg
    have sgn' := h'.sg
    rcases sgn with ⟨s1, s2, s3, s4, -, -⟩ | ⟨s1, s2, s3, s4, -, -⟩
    · have hC0 : 0 ≤ C' := by have := Int.mul_nonpos_of_nonneg_of_nonpos (by omega : 0 ≤ q) s3; omega
      have hD0 : D' ≤ 0 := by have := Int.mul_nonneg (by omega : 0 ≤ q) s4; omega
      have n1 : 0 ≤ C' * a0 := Int.mul_nonneg hC0 ha0
      have n2 : 0 ≤ -D' * (M - b0) := Int.mul_nonneg (by omega) (by omega)
      have n3 : 0 ≤ (C' - C) * (M - a0) := Int.mul_nonneg (by omega) (by omega)
      have n4 : 0 ≤ (D - D') * b0 := Int.mul_nonneg (by omega) hb0
      rw [Int.neg_mul, Int.mul_sub] at n2
      rw [Int.mul_sub, Int.sub_mul, Int.sub_mul] at n3
      rw [Int.sub_mul] at n4
      rw [Int.mul_comm D' M] at n2
      rw [Int.mul_comm C' M, Int.mul_comm C M] at n3
      constructor <;> omega
    · have hC0 : C' ≤ 0 := by have := Int.mul_nonneg (by omega : 0 ≤ q) s3; omega
      have hD0 : 0 ≤ D' := by have := Int.mul_nonpos_of_nonneg_of_nonpos (by omega : 0 ≤ q) s4; omega
      have n1 : 0 ≤ D' * b0 := Int.mul_nonneg hD0 hb0
      have n2 : 0 ≤ -C' * (M - a0) := Int.mul_nonneg (by omega) (by omega)
      have n3 : 0 ≤ (D' - D) * (M - b0) := Int.mul_nonneg (by omega) (by omega)
      have n4 : 0 ≤ (C - C') * a0 := Int.mul_nonneg (by omega) ha0
      rw [Int.neg_mul, Int.mul_sub] at n2
      rw [Int.mul_sub, Int.sub_mul, Int.sub_mul] at n3
      rw [Int.sub_mul] at n4
      rw [Int.mul_comm C' M] at n2
      rw [Int.mul_comm D' M, Int.mul_comm D M] at n3
      constructor <;> omega
  refine ⟨g2, both.1, by omega, by omega, fun _ => ⟨by omega, by omega⟩, ?_⟩
  rw [exp, ← g6]
  generalize A * (x0 * M + a0) + B * (y0 * M + b0) = P
  generalize C * (x0 * M + a0) + D * (y0 * M + b0) = Q
  exact (Int.gcd_comm _ _).trans (Int.gcd_sub_mul_right_left _ _ _)
end Go.Proofs.Ytlkdahgfnfdakaa.LM

namespace Go.Proofs.Ytlkdahgfnfdakaa
open Go.RowKit WN LM

theorem div_pow {l : List Nat} (h : Digs 1000000000 l) (m : Nat) : val 1000000000 l / 1000000000 ^ m = val 1000000000 (l.drop m) := by
  by_cases hm : m ≤ l.length
  · rw [val_take_drop _ l m hm, Nat.add_mul_div_left _ _ (Nat.pow_pos (by omega))]
    have := val_lt (B := 1000000000) (by omega) (h.take m)
    rw [List.length_take, Nat.min_eq_left hm] at this
    rw [Nat.div_eq_of_lt this, Nat.zero_add]
  · rw [List.drop_eq_nil_of_le (by omega), val_nil]
    have := val_lt (B := 1000000000) (by omega) h
    exact Nat.div_eq_of_lt (Nat.lt_of_lt_of_le this (Nat.pow_le_pow_right (by omega) (by omega)))

theorem drop_next (l : List Nat) (m : Nat) : val 1000000000 (l.drop m) = (l[m]?.getD 0) + 1000000000 * val 1000000000 (l.drop (m + 1)) := by
  by_cases hm : m < l.length
  · rw [val_drop _ _ _ hm]; simp [hm]
  · rw [List.drop_eq_nil_of_le (by omega), List.drop_eq_nil_of_le (by omega), List.getElem?_eq_none (by omega)]; simp

def TopOut (r : Nat) (w : World) (e : Ending) (w' : World) : Prop := e = .returned (.int .i64 (r : Nat)) ∧ w = w'

set_option maxHeartbeats 1000000 in
set_option maxRecDepth 100000 in
theorem top_num {w : World} {va : Value} {a : Nat} (ha : Num w va a) (n : Nat) (hn2 : 2 ≤ n) (hn : n ≤ 10000000000) (hl : Len a ≤ n) :
    Calls Try.prog 123 #[va, .int .i64 (n : Nat)] w (TopOut (a / 1000000000 ^ (n - 2)) w) := by
  obtain ⟨oa, ca, l, rfl, hr, hc, hv, hll⟩ := ha.open
  have Hr := Lib.hid hr
  have Hc := Lib.hid hc
  have Hll := Lib.hid hll
  have Hres : Hid (a / 1000000000 ^ (n - 2) = val 1000000000 (l.drop (n - 2))) := by show _ = _; rw [← hv, div_pow hc.1]
  clear ha hr hc hv hll
  have hll' : l.length ≤ n := by have := Hll.out; omega
  go_enter Try.func123, Try.ntmps123
  go_wp2
  go_loop [5, 6] (fun v5 v6 => ∃ k : Nat, k ≤ 2 ∧ v5 = .int .i64 (val 1000000000 (l.drop (n - k)) : Nat) ∧ v6 = .int .i64 ((n : Int) - 1 - k)) (fun _ v6 => (intOf v6 + 1).toNat)
  case atStart => exact ⟨0, by omega, by rw [Nat.sub_zero, List.drop_eq_nil_of_le hll']; rfl, by congr 1; omega⟩
  case round =>
    obtain ⟨k, hk, rfl, rfl⟩ := hrel
    by_cases hlt : k < 2
    · obtain ⟨i, hi⟩ : ∃ i, i + 1 + k = n := ⟨n - 1 - k, by omega⟩
      have hz : val 1000000000 (l.drop (n - k)) < 1000000000 := by
        have h := val_lt (B := 1000000000) (by omega) (Hc.out.1.drop (n - k))
        refine Nat.lt_of_lt_of_le h ?_
        have h2 : (l.drop (n - k)).length ≤ 1 := by rw [List.length_drop]; omega
        exact Nat.le_trans (Nat.pow_le_pow_right (by omega) h2) (by simp)
      have hnext := drop_next l i
      rw [show i + 1 = n - k from by omega] at hnext
      have Hnext := Lib.hid hnext; clear hnext
      generalize val 1000000000 (l.drop (n - k)) = z at *
      have hi1 : (n : Int) - 1 - k = (i : Int) := by omega
      rw [hi1]
      clear hi1
      have hge : (n : Int) - 2 ≤ (i : Int) := by omega
      have hin : i < n := by omega
      by_cases hil : i < Len a
      · obtain ⟨b, off, rfl, _, hcell⟩ := Hr.out.at' (Below.refl _ _) i (by have := Hll.out; omega)
        have hy9 := Hc.out.1.get i (by have := Hll.out; omega)
        have HY : Hid (l[i]?.getD 0 = l[i]'(by have := Hll.out; omega)) := by show _ = _; rw [List.getElem?_eq_getElem (by have := Hll.out; omega)]; rfl
        generalize l[i]'_ = y at *
        have Hi := Lib.hid hi; clear hi
        go_wp2
        go_round
        case rel => exact ⟨k + 1, by omega, by
          refine i64_eq ?_
          rw [show n - (k + 1) = i from by have := Hi.out; omega, Hnext.out, HY.out] <;> omega, i64_eq (by have := Hi.out; omega)⟩
        case measure => simp [intOf] <;> omega
      · have HY : Hid (l[i]?.getD 0 = 0) := by
          show _ = _
          have h := Hll.out
          have h2 : l.length ≤ i := by omega
          rw [List.getElem?_eq_none h2]; rfl
        have Hi := Lib.hid hi; clear hi
        go_wp2
        go_round
        case rel => exact ⟨k + 1, by omega, by
          refine i64_eq ?_
          rw [show n - (k + 1) = i from by have := Hi.out; omega, Hnext.out, HY.out] <;> omega, i64_eq (by have := Hi.out; omega)⟩
        case measure => simp [intOf] <;> omega
    · obtain rfl : k = 2 := by omega
      go_wp2
      go_ret
      exact ⟨by rw [Hres.out]; rfl, rfl⟩

def StepsOut (x0 y0 : Int) (w : World) (e : Ending) (w' : World) : Prop :=
  ∃ A B C D x y : Int, e = .returned (.agg #[.int .i64 A, .int .i64 B, .int .i64 C, .int .i64 D]) ∧ CS x0 y0 A B C D x y ∧ (∃ st : Prop, LM.Good x0 y0 A B C D st ∧ (st ∨ B = 0)) ∧ Below w.heap.size w w'

theorem four_set {w : World} {g : Nat} {t : TypeId} {a0 a1 a2 a3 : Value} (b0 b1 b2 b3 : Value) (h : w.heap[g]? = some (.cells #[a0, a1, a2, a3] t (0, 0))) :
    ((((w.setCell ⟨g, 0, none⟩ b0).setCell ⟨g, 1, none⟩ b1).setCell ⟨g, 2, none⟩ b2).setCell ⟨g, 3, none⟩ b3).heap[g]? = some (.cells #[b0, b1, b2, b3] t (0, 0)) := by
  have h1 := heap_setCell_same w g 0 _ t b0 h
  have h2 := heap_setCell_same _ g 1 _ t b1 h1
  have h3 := heap_setCell_same _ g 2 _ t b2 h2
  have h4 := heap_setCell_same _ g 3 _ t b3 h3
  exact h4
theorem four_other {w : World} {g k : Nat} (b0 b1 b2 b3 : Value) (hk : k ≠ g) :
    ((((w.setCell ⟨g, 0, none⟩ b0).setCell ⟨g, 1, none⟩ b1).setCell ⟨g, 2, none⟩ b2).setCell ⟨g, 3, none⟩ b3).heap[k]? = w.heap[k]? := by
  rw [heap_setCell_other _ _ _ _ hk, heap_setCell_other _ _ _ _ hk, heap_setCell_other _ _ _ _ hk, heap_setCell_other _ _ _ _ hk]
theorem four_below {w w' : World} {B g : Nat} (b0 b1 b2 b3 : Value) (h : Below B w w') (hg : B ≤ g) :
    Below B w ((((w'.setCell ⟨g, 0, none⟩ b0).setCell ⟨g, 1, none⟩ b1).setCell ⟨g, 2, none⟩ b2).setCell ⟨g, 3, none⟩ b3) :=
  (((h.setCell (p := ⟨g, 0, none⟩) hg _).setCell (p := ⟨g, 1, none⟩) hg _).setCell (p := ⟨g, 2, none⟩) hg _).setCell (p := ⟨g, 3, none⟩) hg _

set_option maxHeartbeats 2000000 in
set_option maxRecDepth 100000 in
theorem commonSteps_any (x0 y0 : Int) (h0 : 0 ≤ y0) (hyx : y0 ≤ x0) (hx0 : x0 < 1000000000000000000) (w : World) :
    Calls Try.prog 122 #[.int .i64 x0, .int .i64 y0] w (StepsOut x0 y0 w) := by
  go_enter Try.func122, Try.ntmps122
  go_wp2
  have Hx0 := Lib.hid hx0; clear hx0
  go_loopw [0, 1] (fun v0 v1 wr => ∃ A B C D x y : Int, v0 = .int .i64 x ∧ v1 = .int .i64 y ∧ Hid (CS x0 y0 A B C D x y) ∧ x ≤ x0 ∧ y ≤ x0 ∧ Hid (∃ st : Prop, LM.Good x0 y0 A B C D st ∧ (st ∨ B = 0)) ∧
      wr.heap[w.heap.size]? = some (.cells #[.int .i64 0, .int .i64 0, .int .i64 0, .int .i64 0] 110 (0, 0)) ∧ wr.heap[w.heap.size + 1]? = some (.cells #[.int .i64 A, .int .i64 B, .int .i64 C, .int .i64 D] 110 (0, 0)) ∧ Below w.heap.size w wr) (fun _ v1 _ => (intOf v1).toNat)
  case atStart => exact ⟨1, 0, 0, 1, x0, y0, rfl, rfl, CS.start h0 hyx, Int.le_refl _, hyx, ⟨False, Good.start h0 (by omega), .inr rfl⟩, by rw [alloc_lt _ _ _ (by simp)]; exact alloc_at _ _ _ rfl, alloc_at _ _ _ (by simp), ((Below.refl _ w).alloc (Nat.le_refl _) _).alloc (by simp) _⟩
  case round =>
    obtain ⟨A, B, C, D, x, y, rfl, rfl, cs, hxx, hyy, gd, hbr, hbs, hb⟩ := hrel
    obtain ⟨hyC, hyD, hy0', hx0', hxA, hxB, hle, hbA, hbB, hbC, hbD⟩ : 0 ≤ y + C ∧ 0 ≤ y + D ∧ 0 ≤ y ∧ 0 ≤ x ∧ 0 ≤ x + A ∧ 0 ≤ x + B ∧ y + C ≤ x + A ∧ (-1000000000 < A ∧ A < 1000000000) ∧ (-1000000000 < B ∧ B < 1000000000) ∧ (-1000000000 < C ∧ C < 1000000000) ∧ (-1000000000 < D ∧ D < 1000000000) := by
      have h := cs.out; exact ⟨h.yC, h.yD, h.y0', h.x0', h.xA, h.xB, h.le, h.bA, h.bB, h.bC, h.bD⟩
    have hx9 : x < 1000000000000000000 := by have := Hx0.out; omega
    have hy9 : y < 1000000000000000000 := by have := Hx0.out; omega
    have c0 : wr.cell? ⟨w.heap.size + 1, 0, none⟩ = some (.int .i64 A) := by rw [cell_of_row _ _ _ _ _ _ hbs]; rfl
    have c1 : wr.cell? ⟨w.heap.size + 1, 1, none⟩ = some (.int .i64 B) := by rw [cell_of_row _ _ _ _ _ _ hbs]; rfl
    have c2 : wr.cell? ⟨w.heap.size + 1, 2, none⟩ = some (.int .i64 C) := by rw [cell_of_row _ _ _ _ _ _ hbs]; rfl
    have c3 : wr.cell? ⟨w.heap.size + 1, 3, none⟩ = some (.int .i64 D) := by rw [cell_of_row _ _ _ _ _ _ hbs]; rfl
    have f0 := frozen_of_row _ _ 0 _ _ hbs
    have f1 := frozen_of_row _ _ 1 _ _ hbs
    have f2 := frozen_of_row _ _ 2 _ _ hbs
    have f3 := frozen_of_row _ _ 3 _ _ hbs
    have r0 : wr.cell? ⟨w.heap.size, 0, none⟩ = some (.int .i64 0) := by rw [cell_of_row _ _ _ _ _ _ hbr]; rfl
    have r1 : wr.cell? ⟨w.heap.size, 1, none⟩ = some (.int .i64 0) := by rw [cell_of_row _ _ _ _ _ _ hbr]; rfl
    have r2 : wr.cell? ⟨w.heap.size, 2, none⟩ = some (.int .i64 0) := by rw [cell_of_row _ _ _ _ _ _ hbr]; rfl
    have r3 : wr.cell? ⟨w.heap.size, 3, none⟩ = some (.int .i64 0) := by rw [cell_of_row _ _ _ _ _ _ hbr]; rfl
    have g0 := frozen_of_row _ _ 0 _ _ hbr
    have g1 := frozen_of_row _ _ 1 _ _ hbr
    have g2 := frozen_of_row _ _ 2 _ _ hbr
    have g3 := frozen_of_row _ _ 3 _ _ hbr
    have Hbr := Lib.hid hbr; clear hbr
    have Hbs := Lib.hid hbs; clear hbs
    by_cases z1 : y + C = 0
    · have t1 : (y + C != 0) = false := by simp [z1]
      have Z1 := Lib.hid z1; clear z1
      go_wp2
      have hrow := four_set (.int .i64 A) (.int .i64 B) (.int .i64 C) (.int .i64 D) Hbr.out
      have e0 := (cell_of_row _ _ 0 _ _ _ hrow)
      have e1 := (cell_of_row _ _ 1 _ _ _ hrow)
      have e2 := (cell_of_row _ _ 2 _ _ _ hrow)
      have e3 := (cell_of_row _ _ 3 _ _ _ hrow)
      refine bodyPost_ret (v := .agg #[.int .i64 A, .int .i64 B, .int .i64 C, .int .i64 D]) ?_ rfl ⟨A, B, C, D, x, y, rfl, cs.out, gd.out, four_below _ _ _ _ hb (Nat.le_refl _)⟩
      simp at e0 e1 e2 e3
      simp [results, Try.f122, go_sem, e0, e1, e2, e3]
    by_cases z2 : y + D = 0
    · have t1 : (y + C != 0) = true := by simp [z1]
      have t2 : (y + D != 0) = false := by simp [z2]
      have Z2 := Lib.hid z2; clear z2 z1
      go_wp2
      have hrow := four_set (.int .i64 A) (.int .i64 B) (.int .i64 C) (.int .i64 D) Hbr.out
      have e0 := (cell_of_row _ _ 0 _ _ _ hrow)
      have e1 := (cell_of_row _ _ 1 _ _ _ hrow)
      have e2 := (cell_of_row _ _ 2 _ _ _ hrow)
      have e3 := (cell_of_row _ _ 3 _ _ _ hrow)
      refine bodyPost_ret (v := .agg #[.int .i64 A, .int .i64 B, .int .i64 C, .int .i64 D]) ?_ rfl ⟨A, B, C, D, x, y, rfl, cs.out, gd.out, four_below _ _ _ _ hb (Nat.le_refl _)⟩
      simp at e0 e1 e2 e3
      simp [results, Try.f122, go_sem, e0, e1, e2, e3]
    have p1 : 0 < y + C := by omega
    have p2 : 0 < y + D := by omega
    have t1 : (y + C != 0) = true := by simp [z1]
    have t2 : (y + D != 0) = true := by simp [z2]
    clear z1 z2
    by_cases hq : (x + A) / (y + C) = (x + B) / (y + D)
    · obtain ⟨q, e1⟩ : ∃ q, (x + A) / (y + C) = q := ⟨_, rfl⟩
      have e2 : (x + B) / (y + D) = q := by rw [← hq]; exact e1
      clear hq
      obtain ⟨cs', hq1, hqy, hqx, hqC, hqD, l1, l2⟩ := cs.out.step Hx0.out h0 hyx p1 p2 e1 e2
      have Gd : Hid (∃ st : Prop, LM.Good x0 y0 C D (A - q * C) (B - q * D) st ∧ (st ∨ D = 0)) := by
        obtain ⟨st, g, _⟩ := gd.out
        exact ⟨True, g.step cs.out Hx0.out h0 hyx p1 p2 e1 e2, .inl trivial⟩
      have Cs := Lib.hid cs'
      have hs' := cs'.bC
      have hs'' := cs'.bD
      have hlast : x - q * y < y := by
        have := cs'.yC
        have := cs'.yD
        have := cs.out.sg
        rcases this with ⟨s1, s2, s3, s4, -, -⟩ | ⟨s1, s2, s3, s4, -, -⟩
        · have := Int.mul_nonpos_of_nonneg_of_nonpos (by omega : 0 ≤ q) s3
          omega
        · have := Int.mul_nonpos_of_nonneg_of_nonpos (by omega : 0 ≤ q) s4
          omega
      have Hlast := Lib.hid hlast
      have hyn : 0 ≤ x - q * y := cs'.y0'
      clear cs' hlast l1 l2
      go_wp2
      go_roundw
      case rel => exact ⟨C, D, A - q * C, B - q * D, y, x - q * y, rfl, rfl, Cs.out, hyy, by omega, Gd.out, by rw [four_other _ _ _ _ (by omega)]; exact Hbr.out, four_set _ _ _ _ Hbs.out, four_below _ _ _ _ hb (by omega)⟩
      case measure => have := Hlast.out; simp [intOf]; omega
    · have t3 : ((x + A) / (y + C) != (x + B) / (y + D)) = true := by simp [hq]
      clear hq
      go_wp2
      have hrow := four_set (.int .i64 A) (.int .i64 B) (.int .i64 C) (.int .i64 D) Hbr.out
      have e0 := (cell_of_row _ _ 0 _ _ _ hrow)
      have e1 := (cell_of_row _ _ 1 _ _ _ hrow)
      have e2 := (cell_of_row _ _ 2 _ _ _ hrow)
      have e3 := (cell_of_row _ _ 3 _ _ _ hrow)
      refine bodyPost_ret (v := .agg #[.int .i64 A, .int .i64 B, .int .i64 C, .int .i64 D]) ?_ rfl ⟨A, B, C, D, x, y, rfl, cs.out, gd.out, four_below _ _ _ _ hb (Nat.le_refl _)⟩
      simp at e0 e1 e2 e3
      simp [results, Try.f122, go_sem, e0, e1, e2, e3]
end Go.Proofs.Ytlkdahgfnfdakaa

namespace Go.Proofs.Ytlkdahgfnfdakaa
open Go.RowKit WN LM

def CombInv (la lb : List Nat) (f g : Int) (w wr : World) (G k : Nat) (c : Int) : Prop :=
  ∃ s, s.length = k ∧ Digs 1000000000 s ∧ (val 1000000000 s : Int) + ((1000000000 ^ k : Nat) : Int) * c = f * (val 1000000000 (la.take k) : Nat) + g * (val 1000000000 (lb.take k) : Nat) ∧
    Row wr G .u32 117 (s ++ List.replicate (la.length - k) 0) ∧ Below w.heap.size w wr

theorem CombInv.step {la lb : List Nat} {f g : Int} {w wr : World} {G k : Nat} {c : Int} (h : CombInv la lb f g w wr G k c) (hG : w.heap.size ≤ G) (hk : k < la.length) (x y d : Nat) (c' : Int) (hx : la[k]?.getD 0 = x) (hy : lb[k]?.getD 0 = y)
    (he : f * x + c + g * y = d + 1000000000 * c') (hd9 : d < 1000000000) : CombInv la lb f g w (wr.setCell ⟨G, k, none⟩ (.int .u32 (d : Nat))) G (k + 1) c' := by
  obtain ⟨s, hs, hd, hv, hr, hb⟩ := h
  refine ⟨s ++ [d], by simp [hs], hd.snoc hd9, ?_, ?_, hb.setCell hG _⟩
  · rw [val_snoc, hs, val_take_next, val_take_next, hx, hy, Nat.pow_succ]
    generalize 1000000000 ^ k = X at *
    generalize val 1000000000 (la.take k) = U at *
    generalize val 1000000000 (lb.take k) = V at *
    generalize val 1000000000 s = S at *
    have e : (X : Int) * (f * x + c + g * y) = X * (d + 1000000000 * c') := by rw [he]
    rw [Int.mul_add, Int.mul_add, Int.mul_add] at e
    rw [Int.natCast_add, Int.natCast_add, Int.natCast_add, Int.natCast_mul, Int.natCast_mul, Int.natCast_mul, Int.natCast_mul, Int.mul_add f, Int.mul_add g]
    rw [show f * ((X : Int) * x) = X * (f * x) from Int.mul_left_comm _ _ _, show g * ((X : Int) * y) = X * (g * y) from Int.mul_left_comm _ _ _]
    rw [show ((1000000000 : Nat) : Int) = 1000000000 from rfl, Int.mul_assoc (X : Int) 1000000000 c']
    omega
  · rw [← set_next hs (by omega)]; exact hr.set k _

theorem CombInv.rep {la lb : List Nat} {f g : Int} {w wr : World} {G k : Nat} {c : Int} (h : CombInv la lb f g w wr G k c) (hk : k = la.length) (hle : lb.length ≤ la.length) (T : Nat) (hT : f * (val 1000000000 la : Nat) + g * (val 1000000000 lb : Nat) = T) (hT2 : T < 1000000000 ^ la.length) :
    ∃ s, Rep wr .u32 (.slice (some ⟨G, 0, none⟩) la.length la.length) s ∧ Digs 1000000000 s ∧ val 1000000000 s = T ∧ Below w.heap.size w wr := by
  subst hk
  obtain ⟨s, hs, hd, he, hr, hb⟩ := h
  rw [Nat.sub_self, List.replicate_zero, List.append_nil] at hr
  rw [List.take_of_length_le (Nat.le_refl _), List.take_of_length_le hle, hT] at he
  have h1 := val_lt (B := 1000000000) (by omega) hd
  rw [hs] at h1
  generalize 1000000000 ^ la.length = X at *
  have hc : c = 0 := by
    rcases Int.lt_trichotomy c 0 with h | h | h
    · have : (X : Int) * c ≤ X * (-1) := Int.mul_le_mul_of_nonneg_left (by omega) (by omega)
      omega
    · exact h
    · have : (X : Int) * 1 ≤ X * c := Int.mul_le_mul_of_nonneg_left (by omega) (by omega)
      omega
  subst hc
  rw [Int.mul_zero, Int.add_zero] at he
  have := Rep.rowAll hr la.length (by omega)
  rw [hs] at this
  exact ⟨s, this, hd, by omega, hb⟩

theorem fmul_bound (f : Int) (x : Nat) (h1 : -1000000000 < f) (h2 : f < 1000000000) (hx : x < 1000000000) : -999999998000000001 ≤ f * x ∧ f * x ≤ 999999998000000001 := by
  constructor
  · have h : -999999999 * (x : Int) ≤ f * x := Int.mul_le_mul_of_nonneg_right (by omega) (by omega)
    omega
  · have h : f * (x : Int) ≤ 999999999 * x := Int.mul_le_mul_of_nonneg_right (by omega) (by omega)
    omega

theorem tdm (P : Int) : P = 1000000000 * P.tdiv 1000000000 + P.tmod 1000000000 ∧ -1000000000 < P.tmod 1000000000 ∧ P.tmod 1000000000 < 1000000000 := by
  have h1 := Int.mul_tdiv_add_tmod P 1000000000
  refine ⟨by omega, ?_, ?_⟩
  · have := Int.lt_tmod_of_pos P (by omega : (0 : Int) < 1000000000); omega
  · exact Int.tmod_lt_of_pos P (by omega)

set_option maxHeartbeats 2000000 in
set_option maxRecDepth 100000 in
theorem combined_num {w : World} {va vb : Value} {a b : Nat} (ha : Num w va a) (hb : Num w vb b) (la : Len a ≤ 1000000000) (hle : b ≤ a) (f g : Int) (hf : -1000000000 < f ∧ f < 1000000000) (hg : -1000000000 < g ∧ g < 1000000000) (T : Nat) (hT : f * a + g * b = T) (hTa : T ≤ a) :
    Calls Try.prog 124 #[va, vb, .int .i64 f, .int .i64 g] w (Ret1 w T) := by
  obtain ⟨oa, ca, l, rfl, hra, hca, hva, hla⟩ := ha.open
  obtain ⟨ob, cb, m, rfl, hrb, hcb, hvb, hlb⟩ := hb.open
  have Hra := Lib.hid hra
  have Hrb := Lib.hid hrb
  have Hca := Lib.hid hca
  have Hcb := Lib.hid hcb
  have hlen := len_mono hle
  have HT : Hid (f * (val 1000000000 l : Nat) + g * (val 1000000000 m : Nat) = T) := by show _ = _; rw [hva, hvb]; exact hT
  have HT2 : Hid (T < 1000000000 ^ l.length) := by show _ < _; rw [hla]; exact Nat.lt_of_le_of_lt hTa (lt_len a)
  have Hla := Lib.hid hla
  have Hlb := Lib.hid hlb
  have hlm : m.length ≤ l.length := by omega
  rw [← hla, ← hlb] at hlen
  have hll : l.length ≤ 1000000000 := by omega
  rw [← hla, ← hlb]
  rw [← hla] at hra
  rw [← hlb] at hrb
  have Hra := Lib.hid hra
  have Hrb := Lib.hid hrb
  clear ha hb hra hrb hca hcb hva hvb hla hlb hT hTa hle la Hla Hlb
  have hmk := make_words w l.length l.length (by omega) (by omega) (by omega)
  go_enter Try.func124, Try.ntmps124
  go_wp2
  clear hmk
  go_loopw [10, 19] (fun vc vk wr => ∃ (k : Nat) (c : Int), k ≤ l.length ∧ vk = .int .i64 k ∧ vc = .int .i64 c ∧ -2000000010 ≤ c ∧ c ≤ 2000000010 ∧ CombInv l m f g w wr w.heap.size k c) (fun _ vk _ => l.length - (intOf vk).toNat)
  case atStart => exact ⟨0, 0, Nat.zero_le _, rfl, rfl, by omega, by omega, [], rfl, Digs.nil _, by simp, by simpa using Row.new w .u32 117 _, (Below.refl _ _).alloc (Nat.le_refl _) _⟩
  case round =>
    obtain ⟨k, c, hk, rfl, rfl, hc1, hc2, hinv⟩ := hrel
    have Inv := Lib.hid hinv
    obtain ⟨s, hs, hr, hb⟩ : ∃ s, s.length = k ∧ Row wr w.heap.size .u32 117 (s ++ List.replicate (l.length - k) 0) ∧ Below w.heap.size w wr := by
      obtain ⟨s, hs, _, _, hr, hb⟩ := hinv
      exact ⟨s, hs, hr, hb⟩
    clear hinv
    have Hs := Lib.hid hs; clear hs
    have Hr := Lib.hid hr; clear hr
    by_cases hlt : k < l.length
    · obtain ⟨bx, px, rfl, _, hcx'⟩ := Hra.out.at' hb k hlt
      have hx9 := Hca.out.1.get k hlt
      have HX : Hid (l[k]?.getD 0 = l[k]) := by show _ = _; rw [List.getElem?_eq_getElem hlt]; rfl
      generalize l[k] = x at *
      have hfr := Hr.out.free k
      have hcl := Hr.out.cell k (by simp [Hs.out]; omega)
      generalize (s ++ List.replicate (l.length - k) 0)[k]'_ = old at hcl
      obtain ⟨fx1, fx2⟩ := fmul_bound f x hf.1 hf.2 hx9
      by_cases hlm' : k < m.length
      · obtain ⟨by', py, rfl, _, hcy'⟩ := Hrb.out.at' hb k hlm'
        have hy9 := Hcb.out.1.get k hlm'
        have HY : Hid (m[k]?.getD 0 = m[k]) := by show _ = _; rw [List.getElem?_eq_getElem hlm']; rfl
        generalize m[k] = y at *
        obtain ⟨gy1, gy2⟩ := fmul_bound g y hg.1 hg.2 hy9
        obtain ⟨d1, d2, d3⟩ := tdm (f * (x : Int) + c + g * (y : Int))
        generalize ht : (f * (x : Int) + c + g * (y : Int)).tdiv 1000000000 = t at *
        generalize hr : (f * (x : Int) + c + g * (y : Int)).tmod 1000000000 = r at *
        have D1 := Lib.hid d1; clear d1
        by_cases hneg : r < 0
        · obtain ⟨d, hd⟩ : ∃ d : Nat, (d : Int) = r + 1000000000 := ⟨(r + 1000000000).toNat, by omega⟩
          have Hst := Lib.hid (Inv.out.step (Nat.le_refl _) hlt x y d (t - 1) HX.out HY.out (by have := D1.out; omega) (by omega))
          have ht1 : -2000000005 ≤ t ∧ t ≤ 2000000005 := by have := D1.out; omega
          have Hd := Lib.hid hd; clear hd
          go_wp2
          go_roundw
          case rel => exact ⟨k + 1, t - 1, hlt, by go_num, rfl, by omega, by omega, by rw [← Hd.out]; exact Hst.out⟩
          case measure => simp [intOf] <;> omega
        · obtain ⟨d, hd⟩ : ∃ d : Nat, (d : Int) = r := ⟨r.toNat, by omega⟩
          have Hst := Lib.hid (Inv.out.step (Nat.le_refl _) hlt x y d t HX.out HY.out (by have := D1.out; omega) (by omega))
          have ht1 : -2000000005 ≤ t ∧ t ≤ 2000000005 := by have := D1.out; omega
          have hneg' : 0 ≤ r := by omega
          have Hd := Lib.hid hd; clear hd
          go_wp2
          go_roundw
          case rel => exact ⟨k + 1, t, hlt, by go_num, rfl, by omega, by omega, by rw [← Hd.out]; exact Hst.out⟩
          case measure => simp [intOf] <;> omega
      · have HY : Hid (m[k]?.getD 0 = 0) := by show _ = _; rw [List.getElem?_eq_none (by omega)]; rfl
        obtain ⟨d1, d2, d3⟩ := tdm (f * (x : Int) + c)
        generalize ht : (f * (x : Int) + c).tdiv 1000000000 = t at *
        generalize hr : (f * (x : Int) + c).tmod 1000000000 = r at *
        have D1 := Lib.hid d1; clear d1
        by_cases hneg : r < 0
        · obtain ⟨d, hd⟩ : ∃ d : Nat, (d : Int) = r + 1000000000 := ⟨(r + 1000000000).toNat, by omega⟩
          have Hst := Lib.hid (Inv.out.step (Nat.le_refl _) hlt x 0 d (t - 1) HX.out HY.out (by have := D1.out; omega) (by omega))
          have ht1 : -2000000005 ≤ t ∧ t ≤ 2000000005 := by have := D1.out; omega
          have Hd := Lib.hid hd; clear hd
          go_wp2
          go_roundw
          case rel => exact ⟨k + 1, t - 1, hlt, by go_num, rfl, by omega, by omega, by rw [← Hd.out]; exact Hst.out⟩
          case measure => simp [intOf] <;> omega
        · obtain ⟨d, hd⟩ : ∃ d : Nat, (d : Int) = r := ⟨r.toNat, by omega⟩
          have Hst := Lib.hid (Inv.out.step (Nat.le_refl _) hlt x 0 d t HX.out HY.out (by have := D1.out; omega) (by omega))
          have ht1 : -2000000005 ≤ t ∧ t ≤ 2000000005 := by have := D1.out; omega
          have hneg' : 0 ≤ r := by omega
          have Hd := Lib.hid hd; clear hd
          go_wp2
          go_roundw
          case rel => exact ⟨k + 1, t, hlt, by go_num, rfl, by omega, by omega, by rw [← Hd.out]; exact Hst.out⟩
          case measure => simp [intOf] <;> omega
    · obtain ⟨s', hs', hd', hv', hb'⟩ := Inv.out.rep (by omega) hlm T HT.out HT2.out
      have Hv := Lib.hid hv'; clear hv'
      clear Inv Hr Hs
      go_wp2_with (go_at_call 130; refine (trimmed_n _ s' _ _ (by omega) _ hs').mono ?_; rintro e w1 ⟨v, rfl, hv1, hb1⟩)
      go_ret
      exact ⟨v, rfl, ⟨_, hv1, canon_trim hd', by rw [val_trim]; exact Hv.out⟩, hb'.trans (hb1.mono hb'.size)⟩
end Go.Proofs.Ytlkdahgfnfdakaa

namespace Go.Proofs.Ytlkdahgfnfdakaa
open Go.RowKit WN LM

def GcdOut (n : Nat) (w : World) (e : Ending) (w' : World) : Prop := e = .returned (.int .u64 (n : Nat)) ∧ ∃ q, w' = w.drewN q

set_option maxHeartbeats 1000000 in
theorem smallDivisor_any (a b : Nat) (ha : a < 18446744073709551616) (hb : b < 18446744073709551616) (w : World) :
    Calls Try.prog 125 #[.int .u64 (a : Nat), .int .u64 (b : Nat)] w (GcdOut (Nat.gcd a b) w) := by
  have ha' : Hid ((a : Int) ≤ 18446744073709551615) := by show _ ≤ _; omega
  have hb' : Hid ((b : Int) ≤ 18446744073709551615) := by show _ ≤ _; omega
  clear ha hb
  go_enter Try.func125, Try.ntmps125
  go_wp2
  go_loopw [0, 1] (fun v0 v1 wr => ∃ x y q : Nat, v0 = .int .u64 x ∧ v1 = .int .u64 y ∧ Hid ((x : Int) ≤ 18446744073709551615) ∧ Hid ((y : Int) ≤ 18446744073709551615) ∧ Hid (Nat.gcd x y = Nat.gcd a b) ∧ wr = w.drewN q) (fun _ v1 _ => (intOf v1).toNat)
  case atStart => exact ⟨a, b, 0, rfl, rfl, ha', hb', rfl, rfl⟩
  case round =>
    obtain ⟨x, y, q, rfl, rfl, hx, hy, hg, rfl⟩ := hrel
    by_cases h : 0 < y
    · have hrem : Hid ((x : Int) % (y : Int) = ((x % y : Nat) : Int)) := by show _ = _; rw [Int.natCast_emod]
      have hlt : x % y < y := Nat.mod_lt _ h
      have hgg : Hid (Nat.gcd y (x % y) = Nat.gcd a b) := by show _ = _; rw [← hg.out, Nat.gcd_comm x y, Nat.gcd_rec y x, Nat.gcd_comm]
      have Hlt := Lib.hid hlt; clear hlt
      have hyz : ((y : Int) == 0) = false := by rw [beq_eq_false_iff_ne]; omega
      have hyn : ¬ y = 0 := by omega
      go_wp2
      go_quiet (fail)
      go_wp2
      rw [hrem.out]
      go_roundw
      case rel => exact ⟨y, x % y, _, rfl, rfl, hy, by show _ ≤ _; have := hy.out; have := Hlt.out; omega, hgg, by rw [drewN_drewN]⟩
      case measure => have := Hlt.out; simp [intOf]; omega
    · obtain rfl : y = 0 := by omega
      go_wp2
      go_ret
      exact ⟨by have := hg.out; rw [Nat.gcd_zero_right] at this; rw [← this]; rfl, _, rfl⟩
end Go.Proofs.Ytlkdahgfnfdakaa

namespace Go.Proofs.Ytlkdahgfnfdakaa
open Go.RowKit WN LM

theorem Num.unique {w : World} {v : Value} {n m : Nat} (h1 : Num w v n) (h2 : Num w v m) : n = m := by
  obtain ⟨l, ⟨oa, ca, rfl, _, hc⟩, _, rfl⟩ := h1
  obtain ⟨l', ⟨oa', ca', he, _, hc'⟩, _, rfl⟩ := h2
  simp only [Value.slice.injEq] at he
  obtain ⟨rfl, hl, rfl⟩ := he
  congr 1
  refine List.ext_getElem hl (fun i h h' => ?_)
  obtain ⟨b, off, rfl, e⟩ := hc i h
  obtain ⟨b', off', he, e'⟩ := hc' i h'
  simp only [Option.some.injEq, Addr.mk.injEq, and_true] at he
  obtain ⟨rfl, rfl⟩ := he
  rw [e] at e'
  simp only [Option.some.injEq, Value.int.injEq, true_and] at e'
  omega

open Classical in
/-- the number that v holds -/
noncomputable def numOf (w : World) (v : Value) : Nat := if h : ∃ n, Num w v n then Classical.choose h else 0
theorem numOf_eq {w : World} {v : Value} {n : Nat} (h : Num w v n) : numOf w v = n := by
  unfold numOf
  rw [dif_pos ⟨n, h⟩]
  exact Num.unique (Classical.choose_spec (⟨n, h⟩ : ∃ n, Num w v n)) h

theorem lehmer_math {a b M : Nat} {A B C D : Int} (hM : 0 < M) (hle : b ≤ a) (g : ∃ st : Prop, LM.Good ((a / M : Nat) : Int) ((b / M : Nat) : Int) A B C D st ∧ (st ∨ B = 0)) (hB : B ≠ 0) :
    ∃ T1 T2 : Nat, A * a + B * b = T1 ∧ C * a + D * b = T2 ∧ T1 ≤ a ∧ T2 < b ∧ T2 ≤ T1 ∧ Nat.gcd T1 T2 = Nat.gcd a b := by
  obtain ⟨st, g, hst⟩ := g
  have hst : st := hst.resolve_right hB
  have e1 : ((a / M : Nat) : Int) * (M : Int) + ((a % M : Nat) : Int) = (a : Int) := by
    rw [← Int.natCast_mul, ← Int.natCast_add, Nat.mul_comm, Nat.div_add_mod]
  have e2 : ((b / M : Nat) : Int) * (M : Int) + ((b % M : Nat) : Int) = (b : Int) := by
    rw [← Int.natCast_mul, ← Int.natCast_add, Nat.mul_comm, Nat.div_add_mod]
  have h1 := Nat.mod_lt a hM
  have h2 := Nat.mod_lt b hM
  have h := g.all M (a % M : Nat) (b % M : Nat) (by omega) (by omega) (by omega) (by omega) (by rw [e1, e2]; omega)
  rw [e1, e2] at h
  obtain ⟨g1, g2, g3, g4, g5, g6⟩ := h
  obtain ⟨g5, g7⟩ := g5 hst
  obtain ⟨T1, hT1⟩ := Int.eq_ofNat_of_zero_le g1
  obtain ⟨T2, hT2⟩ := Int.eq_ofNat_of_zero_le g2
  rw [hT1, hT2] at g6
  exact ⟨T1, T2, hT1, hT2, by omega, by omega, by omega, g6⟩

theorem top_small {n k : Nat} (h : Len n ≤ k) : n / 1000000000 ^ (k - 2) < 1000000000000000000 := by
  apply Nat.div_lt_of_lt_mul
  have h1 := lt_len n
  refine Nat.lt_of_lt_of_le h1 (Nat.le_trans (Nat.pow_le_pow_right (by omega) (by omega : Len n ≤ (k - 2) + 2)) ?_)
  rw [Nat.pow_add]
  exact Nat.mul_le_mul_left _ (by simp)

theorem wp_cut {P : Program} {c : Code} {Q : Exit → Act → World → Prop} {a : Act} {w : World} {R : Value → Value → World → Prop} (F : Value → Value → Act) (h : c.wp P (OnlyNormal fun a' w' => ∃ v1 v2, a' = F v1 v2 ∧ R v1 v2 w') a w)
    (h2 : ∀ v1 v2 w', R v1 v2 w' → Q .normal (F v1 v2) w') : c.wp P Q a w :=
  wp_mono h (OnlyNormal.elim (by rintro a' w' ⟨v1, v2, rfl, h⟩; exact h2 v1 v2 w' h))
theorem keep_cells {w0 w w' : World} {p : Nat} {A B C D : Value} (h : Below w0.heap.size w0 w ∧ w.cell? ⟨p, 0, none⟩ = some A ∧ w.cell? ⟨p, 1, none⟩ = some B ∧ w.cell? ⟨p, 2, none⟩ = some C ∧ w.cell? ⟨p, 3, none⟩ = some D)
    (hb : Below w.heap.size w w') (hp : p < w0.heap.size) : Below w0.heap.size w0 w' ∧ w'.cell? ⟨p, 0, none⟩ = some A ∧ w'.cell? ⟨p, 1, none⟩ = some B ∧ w'.cell? ⟨p, 2, none⟩ = some C ∧ w'.cell? ⟨p, 3, none⟩ = some D := by
  obtain ⟨h0, h1, h2, h3, h4⟩ := h
  have hp' : p < w.heap.size := Nat.lt_of_lt_of_le hp h0.size
  exact ⟨h0.trans (hb.mono h0.size), (hb.cell (p := ⟨p, 0, none⟩) hp').trans h1, (hb.cell (p := ⟨p, 1, none⟩) hp').trans h2, (hb.cell (p := ⟨p, 2, none⟩) hp').trans h3, (hb.cell (p := ⟨p, 3, none⟩) hp').trans h4⟩

set_option maxHeartbeats 2000000 in
set_option maxRecDepth 100000 in
theorem divisor_num {w : World} {va vb : Value} {a b : Nat} (ha : Num w va a) (hb : Num w vb b) (la : Len a ≤ 1000000000) (lb : Len b ≤ 1000000000) :
    Calls Try.prog 89 #[va, vb] w (Ret1 w (Nat.gcd a b)) := by
  have Ha := Lib.hid ha
  have Hb := Lib.hid hb
  clear ha hb
  by_cases h1 : a = 1
  · have hd : Hid (decide (a = 1) = true) := by show _ = _; simp [h1]
    have Hg : Hid (Nat.gcd a b = 1) := by show _ = _; rw [h1, Nat.gcd_one_left]
    clear h1
    go_enter Try.func89, Try.ntmps89
    go_wp2_with fail
    refine (isOne_num Ha.out (by omega)).mono ?_; rintro e w1 ⟨rfl, rfl⟩; rw [hd.out]
    go_wp2_with fail
    refine (one_num _).mono ?_; rintro e w1 ⟨v, rfl, hv, hb1⟩
    go_wp2_with fail
    go_ret
    exact ⟨_, rfl, by rw [Hg.out]; exact hv, hb1⟩
  have hd1 : Hid (decide (a = 1) = false) := by show _ = _; simp [h1]
  by_cases h2 : b = 1
  · have hd : Hid (decide (b = 1) = true) := by show _ = _; simp [h2]
    have Hg : Hid (Nat.gcd a b = 1) := by show _ = _; rw [h2, Nat.gcd_one_right]
    clear h1 h2
    go_enter Try.func89, Try.ntmps89
    go_wp2_with fail
    refine (isOne_num Ha.out (by omega)).mono ?_; rintro e w1 ⟨rfl, rfl⟩; rw [hd1.out]
    go_wp2_with fail
    refine (isOne_num Hb.out (by omega)).mono ?_; rintro e w1 ⟨rfl, rfl⟩; rw [hd.out]
    go_wp2_with fail
    refine (one_num _).mono ?_; rintro e w1 ⟨v, rfl, hv, hb1⟩
    go_wp2_with fail
    go_ret
    exact ⟨_, rfl, by rw [Hg.out]; exact hv, hb1⟩
  have hd2 : Hid (decide (b = 1) = false) := by show _ = _; simp [h2]
  clear h1 h2
  go_enter Try.func89, Try.ntmps89
  go_wp2_with fail
  refine (isOne_num Ha.out (by omega)).mono ?_; rintro e w1 ⟨rfl, rfl⟩; rw [hd1.out]
  go_wp2_with fail
  refine (isOne_num Hb.out (by omega)).mono ?_; rintro e w1 ⟨rfl, rfl⟩; rw [hd2.out]
  go_wp2_with fail
  refine (compare_num Ha.out Hb.out (by omega) (by omega)).mono ?_; rintro e w1 ⟨rfl, hb1⟩
  have hc : (cmpN a b = -1 ∧ a < b) ∨ (0 ≤ cmpN a b ∧ cmpN a b ≤ 1 ∧ b ≤ a) := by
    unfold cmpN
    rcases Nat.lt_or_ge a b with h | h
    · rw [if_pos h]; exact .inl ⟨rfl, h⟩
    · rw [if_neg (by omega)]
      split
      · exact .inr ⟨by omega, by omega, h⟩
      · exact .inr ⟨by omega, by omega, h⟩
  have Ha1 := Lib.hid (Ha.out.below hb1 (Nat.le_refl _))
  have Hb1 := Lib.hid (Hb.out.below hb1 (Nat.le_refl _))
  clear Ha Hb hd1 hd2
  generalize cmpN a b = r at *
  rcases hc with ⟨rfl, hlt⟩ | ⟨hr, hr1, hlt⟩
  rotate_left
  have hrd : decide (r < 0) = false := by simp; omega
  rotate_left
  all_goals (
    have Hlt := Lib.hid hlt; clear hlt
    go_wp2
    go_loopw [0, 1] (fun v0 v1 wr => ∃ x y : Nat, Hid (Num wr v0 x) ∧ Hid (Num wr v1 y) ∧ Hid (y ≤ x) ∧ Len x ≤ 1000000000 ∧ Hid (Nat.gcd x y = Nat.gcd a b) ∧ Below w.heap.size w wr) (fun _ v1 wr => numOf wr v1)
    case atStart => first
      | exact ⟨a, b, Ha1, Hb1, Hlt, la, rfl, hb1⟩
      | exact ⟨b, a, Hb1, Ha1, Nat.le_of_lt Hlt.out, lb, Nat.gcd_comm _ _, hb1⟩
    case round =>
      clear Ha1 Hb1 Hlt hb1
      obtain ⟨x, y, Hx, Hy, Hle, lx, Hg, hb⟩ := hrel
      have ly := len_mono Hle.out
      obtain ⟨ox, cx, _, rfl, -, -, -, -⟩ := Hx.out.open
      obtain ⟨oy, cy, _, rfl, -, -, -, -⟩ := Hy.out.open
      by_cases h2 : Len y ≤ 2
      · by_cases hz : y = 0
        · have hd : Hid (decide (y = 0) = true) := by show _ = _; simp [hz]
          have Hg' : Hid (Nat.gcd a b = x) := by show _ = _; rw [← Hg.out, hz, Nat.gcd_zero_right]
          clear hz
          go_wp2_with fail
          refine (isZero_num Hy.out (by omega)).mono ?_; rintro e w2 ⟨rfl, rfl⟩; rw [hd.out]
          go_wp2_with fail
          go_ret
          exact ⟨_, rfl, by rw [Hg'.out]; exact Hx.out, hb⟩
        · have hd : Hid (decide (y = 0) = false) := by show _ = _; simp [hz]
          have hy9 : y < 1000000000000000000 := by
            have := lt_len y
            refine Nat.lt_of_lt_of_le this (Nat.le_trans (Nat.pow_le_pow_right (by omega) h2) (by simp))
          have hm := Nat.mod_lt x (Nat.pos_of_ne_zero hz)
          have hlm := len_mono (Nat.le_of_lt hm)
          have Hg' : Hid (Nat.gcd a b = Nat.gcd y (x % y)) := by show _ = _; rw [← Hg.out, Nat.gcd_comm x y, Nat.gcd_rec y x, Nat.gcd_comm]
          have hgl : Nat.gcd y (x % y) ≤ y := Nat.gcd_le_left _ (Nat.pos_of_ne_zero hz)
          have Hz := Lib.hid hz; clear hz
          have Hm := Lib.hid hm; clear hm
          have Hy9 := Lib.hid hy9; clear hy9
          have Hgl := Lib.hid hgl; clear hgl
          go_wp2_with fail
          refine (isZero_num Hy.out (by omega)).mono ?_; rintro e w2 ⟨rfl, rfl⟩; rw [hd.out]
          go_wp2_with fail
          refine (over_num Hx.out Hy.out lx (by omega) (Nat.pos_of_ne_zero Hz.out)).mono ?_; rintro e w2 ⟨vq, vr, rfl, hvq, hvr, hb2⟩
          have Hvr := Lib.hid hvr; clear hvr hvq
          go_wp2_with fail
          refine (toUint_num (Hy.out.below hb2 (Nat.le_refl _)) h2).mono ?_; rintro e w3 ⟨rfl, hb3⟩
          go_wp2_with fail
          refine (toUint_num (Hvr.out.below hb3 (Nat.le_refl _)) (by omega)).mono ?_; rintro e w4 ⟨rfl, hb4⟩
          go_wp2_with fail
          refine (smallDivisor_any y (x % y) (by have := Hy9.out; omega) (by have := Hy9.out; have := Hm.out; omega) _).mono ?_; rintro e w5 ⟨rfl, q5, rfl⟩
          go_wp2_with fail
          refine (fromUint_num (Nat.gcd y (x % y)) (by have := Hy9.out; have := Hgl.out; omega) _).mono ?_; rintro e w6 ⟨v6, rfl, hv6, hb6⟩
          go_wp2_with fail
          go_ret
          have b2 := hb.trans (hb2.mono hb.size)
          have b3 := b2.trans (hb3.mono b2.size)
          have b4 := b3.trans (hb4.mono b3.size)
          have b5 : Below w.heap.size w (w4.drewN q5) := b4.trans ⟨rfl, rfl, rfl, Nat.le_refl _, fun _ _ => rfl⟩
          exact ⟨v6, rfl, by rw [Hg'.out]; exact hv6, b5.trans (hb6.mono b5.size)⟩
      · go_wp2_with fail
        refine (top_num Hx.out (Len x) (by omega) (by omega) (Nat.le_refl _)).mono ?_; rintro e w2 ⟨rfl, rfl⟩
        go_wp2_with fail
        refine (top_num Hy.out (Len x) (by omega) (by omega) (by omega)).mono ?_; rintro e w2 ⟨rfl, rfl⟩
        go_wp2_with fail
        have t1 := top_small (Nat.le_refl (Len x))
        have t2 : y / 1000000000 ^ (Len x - 2) ≤ x / 1000000000 ^ (Len x - 2) := Nat.div_le_div_right Hle.out
        have Lm := Lib.hid (fun A B C D => lehmer_math (A := A) (B := B) (C := C) (D := D) (Nat.pow_pos (n := Len x - 2) (by omega : 0 < 1000000000)) Hle.out)
        have ex : (x : Int) / 1000000000 ^ (Len x - 2) = ((x / 1000000000 ^ (Len x - 2) : Nat) : Int) := by rw [Int.natCast_ediv, Int.natCast_pow]; rfl
        have ey : (y : Int) / 1000000000 ^ (Len x - 2) = ((y / 1000000000 ^ (Len x - 2) : Nat) : Int) := by rw [Int.natCast_ediv, Int.natCast_pow]; rfl
        rw [ex, ey]
        clear ex ey
        generalize x / 1000000000 ^ (Len x - 2) = X0 at *
        generalize y / 1000000000 ^ (Len x - 2) = Y0 at *
        have t1 : (X0 : Int) < 1000000000000000000 := by omega
        refine (commonSteps_any (X0 : Int) (Y0 : Int) (by omega) (by omega) t1 _).mono ?_; rintro e w2 ⟨A, B, C, D, x2, y2, rfl, cs, gd, hb2⟩
        clear t1 t2
        obtain ⟨hbA, hbB, hbC, hbD⟩ : (-1000000000 < A ∧ A < 1000000000) ∧ (-1000000000 < B ∧ B < 1000000000) ∧ (-1000000000 < C ∧ C < 1000000000) ∧ (-1000000000 < D ∧ D < 1000000000) := ⟨cs.bA, cs.bB, cs.bC, cs.bD⟩
        clear cs
        have Lm2 := Lib.hid (Lm.out A B C D gd)
        clear gd Lm
        have b3 : Below wr.heap.size wr (w2.alloc (Obj.cells #[Value.int IntKind.i64 A, Value.int IntKind.i64 B, Value.int IntKind.i64 C, Value.int IntKind.i64 D] 110)) := hb2.alloc hb2.size _
        have bb := hb.trans (b3.mono hb.size)
        have Hx3 := Lib.hid (Hx.out.below b3 (Nat.le_refl _))
        have Hy3 := Lib.hid (Hy.out.below b3 (Nat.le_refl _))
        have hrow : (w2.alloc (Obj.cells #[Value.int IntKind.i64 A, Value.int IntKind.i64 B, Value.int IntKind.i64 C, Value.int IntKind.i64 D] 110)).heap[w2.heap.size]? = _ := alloc_at _ _ _ rfl
        have c0 : (w2.alloc (Obj.cells #[Value.int IntKind.i64 A, Value.int IntKind.i64 B, Value.int IntKind.i64 C, Value.int IntKind.i64 D] 110)).cell? ⟨w2.heap.size, 0, none⟩ = some (.int .i64 A) := by rw [cell_of_row _ _ _ _ _ _ hrow]; rfl
        have c1 : (w2.alloc (Obj.cells #[Value.int IntKind.i64 A, Value.int IntKind.i64 B, Value.int IntKind.i64 C, Value.int IntKind.i64 D] 110)).cell? ⟨w2.heap.size, 1, none⟩ = some (.int .i64 B) := by rw [cell_of_row _ _ _ _ _ _ hrow]; rfl
        have c2 : (w2.alloc (Obj.cells #[Value.int IntKind.i64 A, Value.int IntKind.i64 B, Value.int IntKind.i64 C, Value.int IntKind.i64 D] 110)).cell? ⟨w2.heap.size, 2, none⟩ = some (.int .i64 C) := by rw [cell_of_row _ _ _ _ _ _ hrow]; rfl
        have c3 : (w2.alloc (Obj.cells #[Value.int IntKind.i64 A, Value.int IntKind.i64 B, Value.int IntKind.i64 C, Value.int IntKind.i64 D] 110)).cell? ⟨w2.heap.size, 3, none⟩ = some (.int .i64 D) := by rw [cell_of_row _ _ _ _ _ _ hrow]; rfl
        clear hrow
        have hlt3 : w2.heap.size < (w2.alloc (Obj.cells #[Value.int IntKind.i64 A, Value.int IntKind.i64 B, Value.int IntKind.i64 C, Value.int IntKind.i64 D] 110)).heap.size := by simp
        by_cases hB : B = 0
        · have hBd : (B == 0) = true := by simp [hB]
          clear Lm2
          have HB := Lib.hid hB; clear hB
          have hyp : 0 < y := by
            rcases Nat.eq_zero_or_pos y with h | h
            · rw [h, len_zero] at h2; omega
            · exact h
          have hm := Nat.mod_lt x hyp
          have Hg' : Hid (Nat.gcd y (x % y) = Nat.gcd a b) := by show _ = _; rw [← Hg.out, Nat.gcd_comm x y, Nat.gcd_rec y x, Nat.gcd_comm]
          have Hm := Lib.hid hm; clear hm
          go_wp2_with fail
          generalize (w2.alloc (Obj.cells #[Value.int IntKind.i64 A, Value.int IntKind.i64 B, Value.int IntKind.i64 C, Value.int IntKind.i64 D] 110)) = w3 at *
          refine (over_num Hx3.out Hy3.out lx (by omega) hyp).mono ?_; rintro e w4 ⟨vq, vr, rfl, hvq, hvr, hb4⟩
          go_wp2_with fail
          go_roundw
          case rel => exact ⟨y, x % y, Hy3.out.below hb4 (Nat.le_refl _), hvr, Nat.le_of_lt Hm.out, by omega, Hg'.out, bb.trans (hb4.mono bb.size)⟩
          case measure => rw [numOf_eq hvr, numOf_eq Hy.out]; exact Hm.out
        · have hBd : (B == 0) = false := by simp [hB]
          obtain ⟨T1, T2, e1, e2, h1a, h2b, h21, hgT⟩ := Lm2.out hB
          have HgT : Hid (Nat.gcd T1 T2 = Nat.gcd a b) := by show _ = _; rw [hgT]; exact Hg.out
          have lT := len_mono h1a
          have HB := Lib.hid hB; clear hB hgT Lm2
          have E1 := Lib.hid e1; clear e1
          have E2 := Lib.hid e2; clear e2
          have H2b := Lib.hid h2b; clear h2b
          have H21 := Lib.hid h21; clear h21
          have H1a := Lib.hid h1a; clear h1a
          go_wp2_with fail
          generalize (w2.alloc (Obj.cells #[Value.int IntKind.i64 A, Value.int IntKind.i64 B, Value.int IntKind.i64 C, Value.int IntKind.i64 D] 110)) = w3 at *
          have CT1 := fun (w' : World) (h : Below w3.heap.size w3 w' ∧ w'.cell? ⟨w2.heap.size, 0, none⟩ = some (.int .i64 A) ∧ w'.cell? ⟨w2.heap.size, 1, none⟩ = some (.int .i64 B) ∧ w'.cell? ⟨w2.heap.size, 2, none⟩ = some (.int .i64 C) ∧ w'.cell? ⟨w2.heap.size, 3, none⟩ = some (.int .i64 D)) =>
            combined_num (Hx3.out.below h.1 (Nat.le_refl _)) (Hy3.out.below h.1 (Nat.le_refl _)) lx Hle.out A B hbA hbB T1 E1.out H1a.out
          have CT2 := fun (w' : World) (h : Below w3.heap.size w3 w' ∧ w'.cell? ⟨w2.heap.size, 0, none⟩ = some (.int .i64 A) ∧ w'.cell? ⟨w2.heap.size, 1, none⟩ = some (.int .i64 B) ∧ w'.cell? ⟨w2.heap.size, 2, none⟩ = some (.int .i64 C) ∧ w'.cell? ⟨w2.heap.size, 3, none⟩ = some (.int .i64 D)) =>
            combined_num (Hx3.out.below h.1 (Nat.le_refl _)) (Hy3.out.below h.1 (Nat.le_refl _)) lx Hle.out C D hbC hbD T2 E2.out (Nat.le_trans H21.out H1a.out)
          have HT1 := Lib.hid CT1; clear CT1
          have HT2 := Lib.hid CT2; clear CT2
          clear E1 E2
          apply wp_cut (R := fun v1 v2 w' => Num w' v1 T1 ∧ Num w' v2 T2 ∧ Below w3.heap.size w3 w')
          case h =>
            go_region_held (fun w' => Below w3.heap.size w3 w' ∧ w'.cell? ⟨w2.heap.size, 0, none⟩ = some (.int .i64 A) ∧ w'.cell? ⟨w2.heap.size, 1, none⟩ = some (.int .i64 B) ∧ w'.cell? ⟨w2.heap.size, 2, none⟩ = some (.int .i64 C) ∧ w'.cell? ⟨w2.heap.size, 3, none⟩ = some (.int .i64 D))
              (first | exact ⟨(Below.refl _ _).drew, c0, c1, c2, c3⟩ | exact keep_cells (by assumption) hb5 hlt3 | exact keep_cells (by assumption) hb4 hlt3)
              ((go_at_call 124; first
                | ((with_reducible refine (HT1.out _ ?_).mono ?_); (focus assumption); rintro e w4 ⟨v1, rfl, hv1, hb4⟩)
                | ((with_reducible refine (HT2.out _ ?_).mono ?_); (focus assumption); rintro e w5 ⟨v2, rfl, hv2, hb5⟩)))
            exact ⟨v1, v2, rfl, hv1.below hb5 (Nat.le_refl _), hv2, by rename_i h; exact h.1⟩
          case h2 =>
            rintro v1 v2 w5 ⟨hv1, hv2, hb5⟩
            have Hv1 := Lib.hid hv1; clear hv1
            have Hv2 := Lib.hid hv2; clear hv2
            clear HT1 HT2
            go_wp2_with fail
            go_roundw
            case rel => exact ⟨T1, T2, Hv1.out, Hv2.out, H21.out, by omega, HgT.out, bb.trans (hb5.mono bb.size)⟩
            case measure => rw [numOf_eq Hv2.out, numOf_eq Hy.out]; exact H2b.out)
end Go.Proofs.Ytlkdahgfnfdakaa

namespace Go.Proofs.Ytlkdahgfnfdakaa
open Go.RowKit WN LM

set_option maxHeartbeats 1000000 in
set_option maxRecDepth 100000 in
theorem multiple_num {w : World} {va vb : Value} {a b : Nat} (ha : Num w va a) (hb : Num w vb b) (la : Len a ≤ 1000000000) (lb : Len b ≤ 1000000000) (h0 : 0 < a) :
    Calls Try.prog 90 #[va, vb] w (Ret1 w (a * (b / Nat.gcd a b))) := by
  have Ha := Lib.hid ha
  have Hb := Lib.hid hb
  clear ha hb
  have hg : 0 < Nat.gcd a b := Nat.gcd_pos_of_pos_left _ h0
  have lg : Len (Nat.gcd a b) ≤ 1000000000 := Nat.le_trans (len_mono (Nat.gcd_le_left _ h0)) la
  have lq : Len (b / Nat.gcd a b) ≤ 1000000000 := Nat.le_trans (len_mono (Nat.div_le_self _ _)) lb
  have Hg := Lib.hid hg; clear hg
  go_enter Try.func90, Try.ntmps90
  go_wp2_with fail
  refine (divisor_num Ha.out Hb.out la lb).mono ?_; rintro e w1 ⟨v1, rfl, hv1, hb1⟩
  have Hv1 := Lib.hid hv1; clear hv1
  go_wp2_with fail
  refine (over_num (Hb.out.below hb1 (Nat.le_refl _)) Hv1.out lb lg Hg.out).mono ?_; rintro e w2 ⟨vq, vr, rfl, hvq, hvr, hb2⟩
  have Hvq := Lib.hid hvq; clear hvq hvr
  have b2 := hb1.trans (hb2.mono hb1.size)
  go_wp2_with fail
  refine (times_num (Ha.out.below b2 (Nat.le_refl _)) Hvq.out (by omega) (by omega)).mono ?_; rintro e w3 ⟨v3, rfl, hv3, hb3⟩
  go_wp2_with fail
  go_ret
  exact ⟨v3, rfl, hv3, b2.trans (hb3.mono b2.size)⟩

/-- the simplest number from a/b to c/d: what the program finds -/
def simpl (a b c d : Nat) : Nat × Nat :=
  if h : b = 0 ∨ a % b = 0 ∨ (a / b + 1) * d ≤ c then (if a % b = 0 then (a / b, 1) else (a / b + 1, 1))
  else ((a / b) * (simpl d (c - a / b * d) b (a % b)).1 + (simpl d (c - a / b * d) b (a % b)).2, (simpl d (c - a / b * d) b (a % b)).1)
termination_by b + d
decreasing_by
  all_goals
    have h1 := Nat.mod_lt a (by omega : 0 < b)
    rw [Nat.add_mul, Nat.one_mul] at h
    omega

theorem simpl_exact {a b c d : Nat} (h : a % b = 0) : simpl a b c d = (a / b, 1) := by
  rw [simpl, dif_pos (.inr (.inl h)), if_pos h]
theorem simpl_next {a b c d : Nat} (h : a % b ≠ 0) (h2 : (a / b + 1) * d ≤ c) : simpl a b c d = (a / b + 1, 1) := by
  rw [simpl, dif_pos (.inr (.inr h2)), if_neg h]
theorem simpl_rec {a b c d : Nat} (hb : 0 < b) (h : a % b ≠ 0) (h2 : c < (a / b + 1) * d) :
    simpl a b c d = ((a / b) * (simpl d (c - a / b * d) b (a % b)).1 + (simpl d (c - a / b * d) b (a % b)).2, (simpl d (c - a / b * d) b (a % b)).1) := by
  rw [simpl, dif_neg (by omega)]

theorem simpl_between {a b c d : Nat} (hb : 0 < b) (hd : 0 < d) (h : a * d ≤ c * b) (hm : a % b ≠ 0) : a / b * d < c ∧ b * (c - a / b * d) ≥ (a % b) * d := by
  have e := Nat.div_add_mod a b
  have e2 : a * d = b * (a / b * d) + a % b * d := by
    rw [← Nat.mul_assoc, ← Nat.add_mul, e]
  rw [Nat.mul_comm c b, e2] at h
  have h3 : 0 < a % b * d := Nat.mul_pos (Nat.pos_of_ne_zero hm) hd
  have h4 : a / b * d < c := by
    rcases Nat.lt_or_ge (a / b * d) c with h | h'
    · exact h
    · have := Nat.mul_le_mul_left b h'; omega
  refine ⟨h4, ?_⟩
  rw [Nat.mul_sub]
  omega

theorem simpl_bound : ∀ (N a b c d : Nat), b + d ≤ N → 0 < b → 0 < d → a * d ≤ c * b → (simpl a b c d).1 ≤ a ∧ (simpl a b c d).2 ≤ b ∧ (simpl a b c d).1 ≤ c ∧ (simpl a b c d).2 ≤ d
  | 0, a, b, c, d, hN, hb, hd, h => by omega
  | N + 1, a, b, c, d, hN, hb, hd, h => by
    have e := Nat.div_add_mod a b
    have hw := Nat.div_le_self a b
    by_cases h1 : a % b = 0
    · rw [simpl_exact h1]
      have h2 : a / b * d ≤ c := by
        have : b * (a / b * d) ≤ b * c := by rw [← Nat.mul_assoc, show b * (a / b) = a from by omega, Nat.mul_comm b c]; exact h
        exact Nat.le_of_mul_le_mul_left this hb
      have h3 : a / b * 1 ≤ a / b * d := Nat.mul_le_mul_left _ hd
      exact ⟨hw, hb, by show a / b ≤ c; omega, hd⟩
    · have h4 := Nat.mod_lt a hb
      have h5 : 1 * (a / b) ≤ b * (a / b) := Nat.mul_le_mul_right _ hb
      by_cases h2 : (a / b + 1) * d ≤ c
      · rw [simpl_next h1 h2]
        have h3 : (a / b + 1) * 1 ≤ (a / b + 1) * d := Nat.mul_le_mul_left _ hd
        exact ⟨by show a / b + 1 ≤ a; omega, hb, by show a / b + 1 ≤ c; omega, hd⟩
      · rw [simpl_rec hb h1 (by omega)]
        obtain ⟨g1, g2⟩ := simpl_between hb hd h h1
        have g3 : c - a / b * d < d := by rw [Nat.add_mul, Nat.one_mul] at h2; omega
        obtain ⟨r1, r2, r3, r4⟩ := simpl_bound N d (c - a / b * d) b (a % b) (by omega) (by omega) (by omega) (by rw [Nat.mul_comm d]; exact g2)
        generalize simpl d (c - a / b * d) b (a % b) = r at *
        have m1 : a / b * r.1 ≤ a / b * b := Nat.mul_le_mul_left _ r3
        have m2 : a / b * r.1 ≤ a / b * d := Nat.mul_le_mul_left _ r1
        rw [Nat.mul_comm (a / b) b] at m1
        exact ⟨by show a / b * r.1 + r.2 ≤ a; omega, r3, by show a / b * r.1 + r.2 ≤ c; omega, r1⟩

set_option maxHeartbeats 2000000 in
set_option maxRecDepth 100000 in
theorem simplestAbove_num : ∀ (N : Nat) (w : World) (va vb vc vd : Value) (a b c d : Nat), b + d ≤ N → Num w va a → Num w vb b → Num w vc c → Num w vd d → Len a ≤ 1000000000 → Len b ≤ 1000000000 → Len c ≤ 1000000000 → Len d ≤ 1000000000 →
    0 < b → 0 < d → a * d ≤ c * b → Calls Try.prog 128 #[va, vb, vc, vd] w (Ret2 w (simpl a b c d).1 (simpl a b c d).2)
  | 0, w, va, vb, vc, vd, a, b, c, d, hN, ha, hb, hc, hd, la, lb, lc, ld, b0, d0, hle => by omega
  | N + 1, w, va, vb, vc, vd, a, b, c, d, hN, ha, hb, hc, hd, la, lb, lc, ld, b0, d0, hle => by
    have Ha := Lib.hid ha
    have Hb := Lib.hid hb
    have Hc := Lib.hid hc
    have Hd := Lib.hid hd
    clear ha hb hc hd
    have IH := Lib.hid (simplestAbove_num N)
    have Hle := Lib.hid hle; clear hle
    have HN := Lib.hid hN; clear hN
    have lw := len_mono (Nat.div_le_self a b)
    have lr := len_mono (Nat.le_of_lt (Nat.mod_lt a b0))
    have lw1 := len_add (a / b) 1
    have l1 := len_small (show 1 < 1000000000 by omega)
    have lt1 := len_mul (a / b + 1) d
    go_enter Try.func128, Try.ntmps128
    go_wp2_with fail
    refine (over_num Ha.out Hb.out la lb b0).mono ?_; rintro e w1 ⟨vq, vr, rfl, hvq, hvr, hb1⟩
    have Hvq := Lib.hid hvq; clear hvq
    have Hvr := Lib.hid hvr; clear hvr
    by_cases h1 : a % b = 0
    · have hd1 : Hid (decide (a % b = 0) = true) := by show _ = _; simp [h1]
      have He := Lib.hid (simpl_exact (c := c) (d := d) h1)
      clear h1
      go_wp2_with fail
      refine (isZero_num Hvr.out (by omega)).mono ?_; rintro e w2 ⟨rfl, rfl⟩; rw [hd1.out]
      go_wp2_with fail
      refine (one_num _).mono ?_; rintro e w3 ⟨v3, rfl, hv3, hb3⟩
      have Hv3 := Lib.hid hv3; clear hv3
      go_wp2_with fail
      go_ret2
      exact ⟨_, _, rfl, by rw [He.out]; exact Hvq.out.below hb3 (Nat.le_refl _), by rw [He.out]; exact Hv3.out, hb1.trans (hb3.mono hb1.size)⟩
    · have hd1 : Hid (decide (a % b = 0) = false) := by show _ = _; simp [h1]
      have H1 := Lib.hid h1; clear h1
      go_wp2_with fail
      refine (isZero_num Hvr.out (by omega)).mono ?_; rintro e w2 ⟨rfl, rfl⟩; rw [hd1.out]
      go_wp2_with fail
      refine (one_num _).mono ?_; rintro e w3 ⟨v3, rfl, hv3, hb3⟩
      have Hv3 := Lib.hid hv3; clear hv3
      have b3 := hb1.trans (hb3.mono hb1.size)
      have Hvq3 := Lib.hid (Hvq.out.below hb3 (Nat.le_refl _))
      go_wp2_with fail
      refine (plus_num Hvq3.out Hv3.out (by omega) (by omega)).mono ?_; rintro e w4 ⟨v4, rfl, hv4, hb4⟩
      have Hv4 := Lib.hid hv4; clear hv4
      have b4 := b3.trans (hb4.mono b3.size)
      go_wp2_with fail
      refine (times_num Hv4.out (Hd.out.below b4 (Nat.le_refl _)) (by omega) (by omega)).mono ?_; rintro e w5 ⟨v5, rfl, hv5, hb5⟩
      have Hv5 := Lib.hid hv5; clear hv5
      have b5 := b4.trans (hb5.mono b4.size)
      go_wp2_with fail
      refine (compare_num Hv5.out (Hc.out.below b5 (Nat.le_refl _)) (by omega) (by omega)).mono ?_; rintro e w6 ⟨rfl, hb6⟩
      have b6 := b5.trans (hb6.mono b5.size)
      have hcm : (cmpN ((a / b + 1) * d) c ≤ 0 ∧ (a / b + 1) * d ≤ c) ∨ (cmpN ((a / b + 1) * d) c = 1 ∧ c < (a / b + 1) * d) := by
        generalize (a / b + 1) * d = z
        unfold cmpN
        rcases Nat.lt_trichotomy z c with h | h | h
        · rw [if_pos h]; exact .inl ⟨by omega, by omega⟩
        · rw [if_neg (by omega), if_neg (by omega)]; exact .inl ⟨by omega, by omega⟩
        · rw [if_neg (by omega), if_pos h]; exact .inr ⟨rfl, h⟩
      generalize cmpN ((a / b + 1) * d) c = r at *
      rcases hcm with ⟨hr, h2⟩ | ⟨rfl, h2⟩
      · have hrd : decide (r ≤ 0) = true := by simp [hr]
        have He := Lib.hid (simpl_next H1.out h2)
        clear h2
        go_wp2_with fail
        refine (one_num _).mono ?_; rintro e w7 ⟨v7, rfl, hv7, hb7⟩
        have Hv7 := Lib.hid hv7; clear hv7
        go_wp2_with fail
        go_ret2
        exact ⟨_, _, rfl, by rw [He.out]; exact ((Hv4.out.below hb5 (Nat.le_refl _)).below hb6 (Nat.le_refl _)).below hb7 (Nat.le_refl _), by rw [He.out]; exact Hv7.out, b6.trans (hb7.mono b6.size)⟩
      · have He := Lib.hid (simpl_rec b0 H1.out h2)
        obtain ⟨g1, g2⟩ := simpl_between b0 d0 Hle.out H1.out
        have g3 : c - a / b * d < d := by rw [Nat.add_mul, Nat.one_mul] at h2; omega
        have bd := simpl_bound _ d (c - a / b * d) b (a % b) (Nat.le_refl _) (by omega) (by have := H1.out; omega) (by rw [Nat.mul_comm d]; exact g2)
        have lwd := len_mul (a / b) d
        have g4 := Nat.mod_lt a b0
        have Hrec := Lib.hid (fun w va vb vc vd => IH.out w va vb vc vd d (c - a / b * d) b (a % b) (by have := HN.out; omega))
        have lcd := len_mono (Nat.sub_le c (a / b * d))
        have G1 := Lib.hid g1; clear g1
        have G2 := Lib.hid g2; clear g2
        clear h2 g3 IH g4
        have Hvq6 := Lib.hid ((((Hvq3.out.below hb4 (Nat.le_refl _)).below hb5 (Nat.le_refl _)).below hb6 (Nat.le_refl _)))
        go_wp2_with fail
        refine (times_num Hvq6.out (Hd.out.below b6 (Nat.le_refl _)) (by omega) (by omega)).mono ?_; rintro e w7 ⟨v7, rfl, hv7, hb7⟩
        have Hv7 := Lib.hid hv7; clear hv7
        have b7 := b6.trans (hb7.mono b6.size)
        go_wp2_with fail
        refine (minus_num (Hc.out.below b7 (Nat.le_refl _)) Hv7.out (by omega) (Nat.le_of_lt G1.out)).mono ?_; rintro e w8 ⟨v8, rfl, hv8, hb8⟩
        have Hv8 := Lib.hid hv8; clear hv8
        have b8 := b7.trans (hb8.mono b7.size)
        have q8 := (hb3.trans (hb4.mono hb3.size))
        have Hvr8 := Lib.hid ((((((Hvr.out.below hb3 (Nat.le_refl _)).below hb4 (Nat.le_refl _)).below hb5 (Nat.le_refl _)).below hb6 (Nat.le_refl _)).below hb7 (Nat.le_refl _)).below hb8 (Nat.le_refl _))
        clear q8
        go_wp2_with fail
        refine (Hrec.out _ _ _ _ _ (Hd.out.below b8 (Nat.le_refl _)) Hv8.out (Hb.out.below b8 (Nat.le_refl _)) Hvr8.out ld (by omega) lb (by omega) (by have := G1.out; omega) (by have := H1.out; omega) (by rw [Nat.mul_comm d]; exact G2.out)).mono ?_; rintro e w9 ⟨v9, v9', rfl, hv9, hv9', hb9⟩
        have Hv9 := Lib.hid hv9; clear hv9
        have Hv9' := Lib.hid hv9'; clear hv9'
        have b9 := b8.trans (hb9.mono b8.size)
        generalize simpl d (c - a / b * d) b (a % b) = s at *
        have ls1 := len_mono bd.1
        have ls2 := len_mono bd.2.1
        have ls3 := len_mul (a / b) s.1
        clear Hrec
        have Hvq9 := Lib.hid (((Hvq6.out.below hb7 (Nat.le_refl _)).below hb8 (Nat.le_refl _)).below hb9 (Nat.le_refl _))
        go_wp2_with fail
        refine (times_num Hvq9.out Hv9.out (by omega) (by omega)).mono ?_; rintro e w10 ⟨v10, rfl, hv10, hb10⟩
        have Hv10 := Lib.hid hv10; clear hv10
        have b10 := b9.trans (hb10.mono b9.size)
        go_wp2_with fail
        refine (plus_num Hv10.out (Hv9'.out.below hb10 (Nat.le_refl _)) (by omega) (by omega)).mono ?_; rintro e w11 ⟨v11, rfl, hv11, hb11⟩
        have Hv11 := Lib.hid hv11; clear hv11
        have b11 := b10.trans (hb11.mono b10.size)
        go_wp2_with fail
        go_ret2
        exact ⟨_, _, rfl, by rw [He.out]; exact Hv11.out, by rw [He.out]; exact (Hv9.out.below hb10 (Nat.le_refl _)).below hb11 (Nat.le_refl _), b11⟩
end Go.Proofs.Ytlkdahgfnfdakaa

namespace Go.Proofs.Ytlkdahgfnfdakaa
open Go.RowKit WN LM

/-- how many decimal digits it is written with -/
def Dig (n : Nat) : Nat := max 1 (ofNat 10 n).length
theorem dig_pos (n : Nat) : 1 ≤ Dig n := Nat.le_max_left _ _
theorem lt_dig (n : Nat) : n < 10 ^ Dig n := by
  have h := val_lt (B := 10) (by omega) (ofNat_canon (B := 10) (by omega) n).1
  rw [val_ofNat (by omega)] at h
  exact Nat.lt_of_lt_of_le h (Nat.pow_le_pow_right (by omega) (Nat.le_max_right _ _))
theorem dig_le {n k : Nat} (hk : 1 ≤ k) (h : n < 10 ^ k) : Dig n ≤ k :=
  Nat.max_le.2 ⟨hk, len_le_of_lt (B := 10) (by omega) (ofNat_canon (by omega) n).2 (by rw [val_ofNat (by omega)]; exact h)⟩
theorem dig_eq {n k : Nat} (hk : 1 ≤ k) (h : n < 10 ^ k) (h2 : 10 ^ (k - 1) ≤ n) : Dig n = k := by
  have h1 := dig_le hk h
  have h3 := lt_dig n
  rcases Nat.lt_or_ge (Dig n) k with h4 | h4
  · have : 10 ^ Dig n ≤ 10 ^ (k - 1) := Nat.pow_le_pow_right (by omega) (by omega)
    omega
  · omega
theorem dig_zero : Dig 0 = 1 := by
  have := dig_le (n := 0) (k := 1) (by omega) (by simp)
  have := dig_pos 0
  omega
theorem dig_le_iff {n k : Nat} (hk : 1 ≤ k) : Dig n ≤ k ↔ n < 10 ^ k := by
  refine ⟨fun h => Nat.lt_of_lt_of_le (lt_dig n) (Nat.pow_le_pow_right (by omega) h), dig_le hk⟩
theorem dig_top {l : List Nat} (h : Digs 1000000000 l) (L : Nat) (hL : l.length = L + 1) (k : Nat) (hk : 1 ≤ k) (h1 : l[L]'(by omega) < 10 ^ k) (h2 : 10 ^ (k - 1) ≤ l[L]'(by omega)) : Dig (val 1000000000 l) = L * 9 + k := by
  have e := val_take_drop (B := 1000000000) l L (by omega)
  have e2 := val_drop 1000000000 l L (by omega)
  rw [show l.drop (L + 1) = [] from List.drop_eq_nil_of_le (by omega), val_nil, Nat.mul_zero, Nat.add_zero] at e2
  have h3 := val_lt (B := 1000000000) (by omega) (h.take L)
  rw [List.length_take, Nat.min_eq_left (by omega)] at h3
  generalize l[L]'(by omega) = t at *
  rw [e, e2]
  have ep : (1000000000 : Nat) ^ L = 10 ^ (L * 9) := by rw [Nat.mul_comm, Nat.pow_mul]
  rw [ep] at h3 ⊢
  apply dig_eq (by omega)
  · rw [Nat.pow_add]
    have : 10 ^ (L * 9) * (t + 1) ≤ 10 ^ (L * 9) * 10 ^ k := Nat.mul_le_mul_left _ h1
    rw [Nat.mul_add] at this
    omega
  · rw [show L * 9 + k - 1 = L * 9 + (k - 1) from by omega, Nat.pow_add]
    have : 10 ^ (L * 9) * 10 ^ (k - 1) ≤ 10 ^ (L * 9) * t := Nat.mul_le_mul_left _ h2
    omega

set_option maxHeartbeats 1000000 in
set_option maxRecDepth 100000 in
theorem digits_num {w : World} {va : Value} {a : Nat} (ha : Num w va a) (la : Len a ≤ 10000000000) : Calls Try.prog 127 #[va] w fun e w' => e = .returned (.int .i64 (Dig a : Nat)) ∧ w = w' := by
  obtain ⟨oa, ca, l, rfl, hr, hc, hv, hll⟩ := ha.open
  clear ha
  rcases Nat.eq_zero_or_pos (Len a) with h0 | h0
  · have hz : Hid (Dig a = 1) := by
      show _ = _
      have : l = [] := List.length_eq_zero_iff.1 (hll.trans h0)
      subst this
      rw [← hv, val_nil, dig_zero]
    have hl0 : (((Len a : Nat) : Int) == 0) = true := by rw [h0]; rfl
    clear hr hc hv hll h0
    go_enter Try.func127, Try.ntmps127
    go_wp2
    go_ret
    exact ⟨by rw [hz.out]; rfl, rfl⟩
  · have hl0 : (((Len a : Nat) : Int) == 0) = false := by rw [beq_eq_false_iff_ne]; omega
    obtain ⟨b, off, rfl, _, hcell⟩ := hr.at' (Below.refl _ _) (Len a - 1) (by omega)
    have ht9 := hc.1.get (Len a - 1) (by omega)
    have ht0 : l[Len a - 1]'(by omega) ≠ 0 := by
      have h := top_ne hc.2 (by omega)
      have e : l.length - 1 = Len a - 1 := by rw [hll]
      rw [e, List.getElem?_eq_getElem (by omega)] at h
      exact h
    have hD : ∀ k, 1 ≤ k → l[Len a - 1]'(by omega) < 10 ^ k → 10 ^ (k - 1) ≤ l[Len a - 1]'(by omega) → Dig a = (Len a - 1) * 9 + k := fun k h1 h2 h3 => by
      have := dig_top hc.1 (Len a - 1) (by omega) k h1 h2 h3; rw [hv] at this; exact this
    generalize l[Len a - 1]'_ = t at *
    have HD := Lib.hid hD; clear hD
    have Ht0 := Lib.hid ht0; clear ht0
    clear hr hc hv hll
    have hidx : ((Len a : Nat) : Int) - 1 = ((Len a - 1 : Nat) : Int) := by omega
    go_enter Try.func127, Try.ntmps127
    go_wp2
    go_loop [3, 4] (fun v3 v4 => ∃ k : Nat, k ≤ 9 ∧ v3 = .int .i64 (((Len a - 1) * 9 + k : Nat) : Int) ∧ v4 = .int .u32 (t / 10 ^ k : Nat) ∧ Hid (k = 0 ∨ 10 ^ (k - 1) ≤ t)) (fun _ v4 => (intOf v4).toNat)
    case atStart => exact ⟨0, by omega, by congr 1, by simp, .inl rfl⟩
    case round =>
      obtain ⟨k, hk, rfl, rfl, hkt⟩ := hrel
      by_cases h : t / 10 ^ k = 0
      · have hlt : t < 10 ^ k := by
          rcases Nat.lt_or_ge t (10 ^ k) with h' | h'
          · exact h'
          · have := Nat.div_pos h' (Nat.pow_pos (by omega)); omega
        have hk1 : k ≠ 0 := by
          intro h0; subst h0; rw [Nat.pow_zero] at hlt; have := Ht0.out; omega
        have He := Lib.hid (HD.out k (by omega) hlt (hkt.out.resolve_left hk1))
        clear hlt hk1
        rw [h]
        clear h
        go_wp2
        go_ret
        exact ⟨by rw [He.out, Int.natCast_add, Int.natCast_mul]; rfl, rfl⟩
      · have hlt : 10 ^ k ≤ t := by
          rcases Nat.lt_or_ge t (10 ^ k) with h' | h'
          · rw [Nat.div_eq_of_lt h'] at h; omega
          · exact h'
        have hk9 : k < 9 := by
          rcases Nat.lt_or_ge k 9 with h' | h'
          · exact h'
          · have : 10 ^ 9 ≤ 10 ^ k := Nat.pow_le_pow_right (by omega) h'
            omega
        have hnx : Hid (t / 10 ^ k / 10 = t / 10 ^ (k + 1)) := by show _ = _; rw [Nat.div_div_eq_div_mul, Nat.pow_succ]
        have hn9 : t / 10 ^ k ≤ t := Nat.div_le_self _ _
        have Hlt := Lib.hid hlt; clear hlt
        have hpos : 0 < t / 10 ^ k := Nat.pos_of_ne_zero h
        generalize hz : t / 10 ^ k = z at *
        have Hz := Lib.hid hz; clear hz h
        have hq : IntKind.u32.wrap ((z : Int).tdiv 10) = ((z / 10 : Nat) : Int) := by rw [IntWalk.u32_quo _ _ ⟨by omega, by omega, by omega⟩, Int.natCast_ediv]; rfl
        go_wp2
        go_round
        case rel => exact ⟨k + 1, by omega, by congr 1, by rw [← hnx.out, Int.natCast_ediv]; rfl, .inr (by rw [Nat.add_sub_cancel]; exact Hlt.out)⟩
        case measure => simp [intOf]; omega

/-- a power, or a number that has too many digits where the power has too many, too -/
def PowOut (w : World) (a n : Nat) (e : Ending) (w' : World) : Prop :=
  ∃ v m, e = .returned v ∧ Num w' v m ∧ Below w.heap.size w w' ∧ (m = a ^ n ∨ (300 < Dig m ∧ 300 < Dig (a ^ n))) ∧ Len m ≤ 34 + Len a

theorem dig_mono {n m : Nat} (h : n ≤ m) : Dig n ≤ Dig m := dig_le (dig_pos m) (Nat.lt_of_le_of_lt h (lt_dig m))
theorem len_dig_of {n k : Nat} (h : Dig n ≤ 300) (hk : 300 ≤ 9 * k) : Len n ≤ k := by
  apply len_lt
  refine Nat.lt_of_lt_of_le (lt_dig n) ?_
  rw [show (1000000000 : Nat) = 10 ^ 9 from rfl, ← Nat.pow_mul]
  exact Nat.pow_le_pow_right (by omega) (by omega)
theorem len_dig {n : Nat} (h : Dig n ≤ 300) : Len n ≤ 34 := len_dig_of h (by omega)

set_option maxHeartbeats 1000000 in
set_option maxRecDepth 100000 in
theorem power_num {w : World} {va : Value} {a : Nat} (ha : Num w va a) (la : Len a ≤ 1000000000) (n : Nat) (hn : n ≤ 1000000000) : Calls Try.prog 120 #[va, .int .i64 (n : Nat)] w (PowOut w a n) := by
  have Ha := Lib.hid ha
  clear ha
  have l1 := len_small (show 1 < 1000000000 by omega)
  go_enter Try.func120, Try.ntmps120
  go_wp2_with fail
  refine (one_num _).mono ?_; rintro e w1 ⟨v1, rfl, hv1, hb1⟩
  have Hv1 := Lib.hid hv1; clear hv1
  go_wp2_with fail
  go_loopw [5, 6] (fun v5 v6 wr => ∃ i : Nat, i ≤ n ∧ v6 = .int .i64 (i : Nat) ∧ Hid (Num wr v5 (a ^ i)) ∧ Len (a ^ i) ≤ 34 + Len a ∧ Below w.heap.size w wr) (fun _ v6 _ => n - (intOf v6).toNat)
  case atStart => exact ⟨0, Nat.zero_le _, rfl, by rw [Nat.pow_zero]; exact Hv1.out, by rw [Nat.pow_zero]; omega, hb1⟩
  case round =>
    clear Hv1 hb1
    obtain ⟨i, hi, rfl, Hp, hl, hb⟩ := hrel
    by_cases h : i < n
    · by_cases hd : Dig (a ^ i) ≤ 300
      · have hdd : decide (((Dig (a ^ i) : Nat) : Int) ≤ 300) = true := by simp; omega
        have hl2 := len_dig hd
        have hl3 := len_mul (a ^ i) a
        have Hd := Lib.hid hd; clear hd
        generalize hy : a ^ i = y at *
        have Hy := Lib.hid hy; clear hy
        go_wp2_with fail
        refine (digits_num Hp.out (by omega)).mono ?_; rintro e w2 ⟨rfl, rfl⟩
        go_wp2_with fail
        refine (times_num Hp.out (Ha.out.below hb (Nat.le_refl _)) (by omega) (by omega)).mono ?_; rintro e w2 ⟨v2, rfl, hv2, hb2⟩
        go_wp2_with fail
        go_roundw
        case rel => exact ⟨i + 1, h, rfl, by show Num _ _ _; rw [Nat.pow_succ, Hy.out]; exact hv2, by rw [Nat.pow_succ, Hy.out]; omega, hb.trans (hb2.mono hb.size)⟩
        case measure => simp [intOf]; omega
      · have hdd : decide (((Dig (a ^ i) : Nat) : Int) ≤ 300) = false := by simp; omega
        have ha0 : 0 < a := by
          rcases Nat.eq_zero_or_pos a with h0 | h0
          · subst h0
            rcases Nat.eq_zero_or_pos i with h1 | h1
            · subst h1
              have := dig_le (n := 0 ^ 0) (k := 1) (by omega) (by simp)
              omega
            · rw [Nat.zero_pow h1, dig_zero] at hd; omega
          · exact h0
        have hbig : 300 < Dig (a ^ n) := Nat.lt_of_lt_of_le (by omega) (dig_mono (Nat.pow_le_pow_right ha0 hi))
        have Hd := Lib.hid hd; clear hd
        have Hbig := Lib.hid hbig; clear hbig
        generalize a ^ i = y at *
        go_wp2_with fail
        refine (digits_num Hp.out (by omega)).mono ?_; rintro e w2 ⟨rfl, rfl⟩
        go_wp2_with fail
        go_ret
        exact ⟨_, y, rfl, Hp.out, hb, .inr ⟨by have := Hd.out; omega, Hbig.out⟩, hl⟩
    · obtain rfl : i = n := by omega
      go_wp2_with fail
      go_ret
      exact ⟨_, _, rfl, Hp.out, hb, .inl rfl, hl⟩
end Go.Proofs.Ytlkdahgfnfdakaa
