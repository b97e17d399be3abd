/- Lehmer's steps: plain numbers. -/
namespace Go.Proofs.Ytlkdahgfnfdakaa.LM

/-- the state of the steps: from x0, y0 to x, y by the factors A, B, C, D -/
structure CS (x0 y0 A B C D x y : Int) : Prop where
  hx : x = A * x0 + B * y0
  hy : y = C * x0 + D * y0
  yC : 0 ≤ y + C
  yD : 0 ≤ y + D
  y0' : 0 ≤ y
  x0' : 0 ≤ x
  xA : 0 ≤ x + A
  xB : 0 ≤ x + B
  le : y + C ≤ x + A
  sg : (0 ≤ A ∧ B ≤ 0 ∧ C ≤ 0 ∧ 0 ≤ D ∧ D * x - B * y = x0 ∧ A * y - C * x = y0) ∨ (A ≤ 0 ∧ 0 ≤ B ∧ 0 ≤ C ∧ D ≤ 0 ∧ B * y - D * x = x0 ∧ C * x - A * y = y0)
  bA : -1000000000 < A ∧ A < 1000000000
  bB : -1000000000 < B ∧ B < 1000000000
  bC : -1000000000 < C ∧ C < 1000000000
  bD : -1000000000 < D ∧ D < 1000000000

theorem CS.start {x0 y0 : Int} (h0 : 0 ≤ y0) (h : y0 ≤ x0) : CS x0 y0 1 0 0 1 x0 y0 :=
  ⟨by omega, by omega, by omega, by omega, by omega, by omega, by omega, by omega, by omega, .inl ⟨by omega, by omega, by omega, by omega, by omega, by omega⟩, by omega, by omega, by omega, by omega⟩

theorem sq_lt {D x x0 : Int} (h0 : 0 ≤ D) (hx : D < x) (hD : D * x ≤ x0) (h : x0 < 1000000000000000000) : D < 1000000000 := by
  rcases Int.lt_or_le D 1000000000 with h1 | h1
  · exact h1
  · have h2 : 1000000000 * 1000000000 ≤ D * x := Int.mul_le_mul h1 (by omega) (by omega) (by omega)
    omega

/-- one step: the quotient is the same at both ends -/
theorem CS.step {x0 y0 A B C D x y q : Int} (h : CS x0 y0 A B C D x y) (hx0 : x0 < 1000000000000000000) (hy0 : 0 ≤ y0) (hyx : y0 ≤ x0) (h1 : 0 < y + C) (h2 : 0 < y + D) (e1 : (x + A) / (y + C) = q) (e2 : (x + B) / (y + D) = q) :
    CS x0 y0 C D (A - q * C) (B - q * D) y (x - q * y) ∧ 1 ≤ q ∧ 0 ≤ q * y ∧ q * y ≤ x ∧ (-1000000000 < q * C ∧ q * C < 1000000000) ∧ (-1000000000 < q * D ∧ q * D < 1000000000) ∧ x - q * y + (A - q * C) < y + C ∧ x - q * y + (B - q * D) < y + D := by
  have a1 : q * (y + C) ≤ x + A := by rw [← e1]; exact Int.ediv_mul_le _ (by omega)
  have a2 : x + A < q * (y + C) + (y + C) := by
    have := Int.lt_ediv_add_one_mul_self (x + A) h1
    rw [e1, Int.add_mul, Int.one_mul] at this; exact this
  have b1 : q * (y + D) ≤ x + B := by rw [← e2]; exact Int.ediv_mul_le _ (by omega)
  have b2 : x + B < q * (y + D) + (y + D) := by
    have := Int.lt_ediv_add_one_mul_self (x + B) h2
    rw [e2, Int.add_mul, Int.one_mul] at this; exact this
  have hq : 1 ≤ q := by
    rw [← e1]
    have := h.le
    rcases Int.lt_or_le ((x + A) / (y + C)) 1 with h3 | h3
    · rw [e1] at h3
      have : q * (y + C) ≤ 0 := Int.mul_nonpos_of_nonpos_of_nonneg (by omega) (by omega)
      omega
    · exact h3
  rw [Int.mul_add] at a1 a2 b1 b2
  have hqy : 0 ≤ q * y := Int.mul_nonneg (by omega) h.y0'
  obtain ⟨hx, hy, yC, yD, y0', x0', xA, xB, le, sg, bA, bB, bC, bD⟩ := h
  have idx : x - q * y = (A - q * C) * x0 + (B - q * D) * y0 := by
    rw [Int.sub_mul, Int.sub_mul, Int.mul_assoc, Int.mul_assoc]
    have : q * y = q * (C * x0) + q * (D * y0) := by rw [hy, Int.mul_add]
    omega
  have n1 : D * (q * y) = q * D * y := by rw [Int.mul_left_comm, Int.mul_assoc]
  have n2 : C * (q * y) = q * C * y := by rw [Int.mul_left_comm, Int.mul_assoc]
  rcases sg with ⟨s1, s2, s3, s4, s5, s6⟩ | ⟨s1, s2, s3, s4, s5, s6⟩
  · have hc : q * C ≤ 0 := Int.mul_nonpos_of_nonneg_of_nonpos (by omega) s3
    have hd : 0 ≤ q * D := Int.mul_nonneg (by omega) s4
    have t1 : (q * D - B) * y + D * (x - q * y) = x0 := by rw [Int.sub_mul, Int.mul_sub, n1]; omega
    have t2 : (A - q * C) * y - C * (x - q * y) = y0 := by rw [Int.sub_mul, Int.mul_sub, n2]; omega
    have hy' : 0 ≤ x - q * y := by omega
    have p1 : 0 ≤ D * (x - q * y) := Int.mul_nonneg s4 hy'
    have p2 : 0 ≤ -C * (x - q * y) := Int.mul_nonneg (by omega) hy'
    rw [Int.neg_mul] at p2
    have k1 : q * D - B < 1000000000 := sq_lt (x := y) (x0 := x0) (by omega) (by omega) (by omega) hx0
    have k2 : A - q * C < 1000000000 := sq_lt (x := y) (x0 := x0) (by omega) (by omega) (by omega) hx0
    refine ⟨⟨hy, idx, by omega, by omega, by omega, y0', yC, yD, by omega, .inr ⟨s3, s4, by omega, by omega, ?_, ?_⟩, bC, bD, by omega, by omega⟩, hq, hqy, by omega, by omega, by omega, by omega, by omega⟩
    · rw [Int.sub_mul] at t1 ⊢; omega
    · exact t2
  · have hc : 0 ≤ q * C := Int.mul_nonneg (by omega) s3
    have hd : q * D ≤ 0 := Int.mul_nonpos_of_nonneg_of_nonpos (by omega) s4
    have t1 : (B - q * D) * y - D * (x - q * y) = x0 := by rw [Int.sub_mul, Int.mul_sub, n1]; omega
    have t2 : (q * C - A) * y + C * (x - q * y) = y0 := by rw [Int.sub_mul, Int.mul_sub, n2]; omega
    have hy' : 0 ≤ x - q * y := by omega
    have p1 : 0 ≤ -D * (x - q * y) := Int.mul_nonneg (by omega) hy'
    have p2 : 0 ≤ C * (x - q * y) := Int.mul_nonneg s3 hy'
    rw [Int.neg_mul] at p1
    have k1 : B - q * D < 1000000000 := sq_lt (x := y) (x0 := x0) (by omega) (by omega) (by omega) hx0
    have k2 : q * C - A < 1000000000 := sq_lt (x := y) (x0 := x0) (by omega) (by omega) (by omega) hx0
    refine ⟨⟨hy, idx, by omega, by omega, by omega, y0', yC, yD, by omega, .inl ⟨s3, s4, by omega, by omega, ?_, ?_⟩, bC, bD, by omega, by omega⟩, hq, hqy, by omega, by omega, by omega, by omega, by omega⟩
    · exact t1
    · rw [Int.sub_mul] at t2 ⊢; omega

/-- what the factors do with all numbers that begin with x0 and y0 -/
structure Good (x0 y0 A B C D : Int) (stepped : Prop) : Prop where
  all : ∀ M a0 b0 : Int, 0 ≤ a0 → a0 < M → 0 ≤ b0 → b0 < M → y0 * M + b0 ≤ x0 * M + a0 →
    0 ≤ A * (x0 * M + a0) + B * (y0 * M + b0) ∧ 0 ≤ C * (x0 * M + a0) + D * (y0 * M + b0) ∧
    A * (x0 * M + a0) + B * (y0 * M + b0) ≤ x0 * M + a0 ∧ C * (x0 * M + a0) + D * (y0 * M + b0) ≤ y0 * M + b0 ∧ (stepped → C * (x0 * M + a0) + D * (y0 * M + b0) < y0 * M + b0 ∧ C * (x0 * M + a0) + D * (y0 * M + b0) ≤ A * (x0 * M + a0) + B * (y0 * M + b0)) ∧
    Int.gcd (A * (x0 * M + a0) + B * (y0 * M + b0)) (C * (x0 * M + a0) + D * (y0 * M + b0)) = Int.gcd (x0 * M + a0) (y0 * M + b0)

theorem Good.start {x0 y0 : Int} (h0 : 0 ≤ y0) (hx : 0 ≤ x0) : Good x0 y0 1 0 0 1 False := by
  refine ⟨fun M a0 b0 ha0 haM hb0 hbM hle => ?_⟩
  have hM : 0 ≤ M := by omega
  have p1 := Int.mul_nonneg hx hM
  have p2 := Int.mul_nonneg h0 hM
  simp only [Int.one_mul, Int.zero_mul, Int.add_zero, Int.zero_add]
  exact ⟨by omega, by omega, by omega, by omega, fun h => h.elim, trivial⟩

theorem Good.step {x0 y0 A B C D x y q : Int} {st : Prop} (h : CS x0 y0 A B C D x y) (hx0 : x0 < 1000000000000000000) (hy0 : 0 ≤ y0) (hyx : y0 ≤ x0) (h1 : 0 < y + C) (h2 : 0 < y + D) (e1 : (x + A) / (y + C) = q) (e2 : (x + B) / (y + D) = q)
    (g : Good x0 y0 A B C D st) : Good x0 y0 C D (A - q * C) (B - q * D) True := by
  obtain ⟨h', hq, hqy, hyx', hqc, hqd, l1, l2⟩ := h.step hx0 hy0 hyx h1 h2 e1 e2
  refine ⟨fun M a0 b0 ha0 haM hb0 hbM hle => ?_⟩
  obtain ⟨g1, g2, g3, g4, g5, g6⟩ := g.all M a0 b0 ha0 haM hb0 hbM hle
  have hM : 0 < M := by omega
  have key : ∀ P Q R S : Int, P * (x0 * M + a0) + Q * (y0 * M + b0) = M * (P * x0 + Q * y0) + P * a0 + Q * b0 := fun P Q R S => by
    rw [Int.mul_add, Int.mul_add, Int.mul_add, ← Int.mul_assoc P, ← Int.mul_assoc Q, Int.mul_comm M, Int.mul_comm M]; omega
  have k1 := key C D 0 0
  have k2 := key (A - q * C) (B - q * D) 0 0
  rw [← h.hy] at k1
  rw [← h'.hy] at k2
  have exp : (A - q * C) * (x0 * M + a0) + (B - q * D) * (y0 * M + b0) = (A * (x0 * M + a0) + B * (y0 * M + b0)) - q * (C * (x0 * M + a0) + D * (y0 * M + b0)) := by
    rw [Int.sub_mul, Int.sub_mul, Int.mul_add q, Int.mul_assoc q C, Int.mul_assoc q D]; omega
  have hqQ : 0 ≤ q * (C * (x0 * M + a0) + D * (y0 * M + b0)) := Int.mul_nonneg (by omega) g2
  -- the new second number is not less than 0, and less than the old one
  have both : 0 ≤ (A - q * C) * (x0 * M + a0) + (B - q * D) * (y0 * M + b0) ∧ (A - q * C) * (x0 * M + a0) + (B - q * D) * (y0 * M + b0) < C * (x0 * M + a0) + D * (y0 * M + b0) := by
    rw [k1, k2]
    have c1 := h'.yC
    have c2 := h'.yD
    generalize hC' : A - q * C = C' at *
    generalize hD' : B - q * D = D' at *
    generalize hy' : x - q * y = y' at *
    have m1 : 0 ≤ M * (y' + C') := Int.mul_nonneg (by omega) c1
    have m2 : 0 ≤ M * (y' + D') := Int.mul_nonneg (by omega) c2
    have m3 : M * 1 ≤ M * (y + C - (y' + C')) := Int.mul_le_mul_of_nonneg_left (by omega) (by omega)
    have m4 : M * 1 ≤ M * (y + D - (y' + D')) := Int.mul_le_mul_of_nonneg_left (by omega) (by omega)
    rw [Int.mul_add] at m1 m2
    rw [Int.mul_sub, Int.mul_add, Int.mul_add] at m3 m4
    have sgn := h.sg
    have sgn' := h'.sg
    rcases sgn with ⟨s1, s2, s3, s4, -, -⟩ | ⟨s1, s2, s3, s4, -, -⟩
    · have hC0 : 0 ≤ C' := by have := Int.mul_nonpos_of_nonneg_of_nonpos (by omega : 0 ≤ q) s3; omega
      have hD0 : D' ≤ 0 := by have := Int.mul_nonneg (by omega : 0 ≤ q) s4; omega
      have n1 : 0 ≤ C' * a0 := Int.mul_nonneg hC0 ha0
      have n2 : 0 ≤ -D' * (M - b0) := Int.mul_nonneg (by omega) (by omega)
      have n3 : 0 ≤ (C' - C) * (M - a0) := Int.mul_nonneg (by omega) (by omega)
      have n4 : 0 ≤ (D - D') * b0 := Int.mul_nonneg (by omega) hb0
      rw [Int.neg_mul, Int.mul_sub] at n2
      rw [Int.mul_sub, Int.sub_mul, Int.sub_mul] at n3
      rw [Int.sub_mul] at n4
      rw [Int.mul_comm D' M] at n2
      rw [Int.mul_comm C' M, Int.mul_comm C M] at n3
      constructor <;> omega
    · have hC0 : C' ≤ 0 := by have := Int.mul_nonneg (by omega : 0 ≤ q) s3; omega
      have hD0 : 0 ≤ D' := by have := Int.mul_nonpos_of_nonneg_of_nonpos (by omega : 0 ≤ q) s4; omega
      have n1 : 0 ≤ D' * b0 := Int.mul_nonneg hD0 hb0
      have n2 : 0 ≤ -C' * (M - a0) := Int.mul_nonneg (by omega) (by omega)
      have n3 : 0 ≤ (D' - D) * (M - b0) := Int.mul_nonneg (by omega) (by omega)
      have n4 : 0 ≤ (C - C') * a0 := Int.mul_nonneg (by omega) ha0
      rw [Int.neg_mul, Int.mul_sub] at n2
      rw [Int.mul_sub, Int.sub_mul, Int.sub_mul] at n3
      rw [Int.sub_mul] at n4
      rw [Int.mul_comm C' M] at n2
      rw [Int.mul_comm D' M, Int.mul_comm D M] at n3
      constructor <;> omega
  refine ⟨g2, both.1, by omega, by omega, fun _ => ⟨by omega, by omega⟩, ?_⟩
  rw [exp, ← g6]
  generalize A * (x0 * M + a0) + B * (y0 * M + b0) = P
  generalize C * (x0 * M + a0) + D * (y0 * M + b0) = Q
  exact (Int.gcd_comm _ _).trans (Int.gcd_sub_mul_right_left _ _ _)
end Go.Proofs.Ytlkdahgfnfdakaa.LM
