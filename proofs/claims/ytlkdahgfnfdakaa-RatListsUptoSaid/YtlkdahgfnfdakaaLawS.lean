/- The simplest number between two, and what the law of Simplest tries of it. -/
import Derived.Test.YtlkdahgfnfdakaaLawL
namespace Go.Proofs.Ytlkdahgfnfdakaa
open Go Go.RowKit Go.Shelf WN LM

def Simplest (a b c d : Nat) (r : Nat × Nat) : Prop :=
  0 < r.2 ∧ Nat.Coprime r.1 r.2 ∧ a * r.2 ≤ r.1 * b ∧ r.1 * d ≤ c * r.2 ∧ ∀ P Q, 0 < Q → a * Q ≤ P * b → P * d ≤ c * Q → r.1 ≤ P ∧ r.2 ≤ Q
theorem simpl_min : ∀ (N a b c d : Nat), b + d ≤ N → 0 < b → 0 < d → a * d ≤ c * b → Simplest a b c d (simpl a b c d)
  | 0, a, b, c, d, hN, hb, hd, h => by omega
  | N + 1, a, b, c, d, hN, hb, hd, h => by
    have e := Nat.div_add_mod a b
    by_cases h1 : a % b = 0
    · rw [simpl_exact h1]
      have ea : b * (a / b) = a := by omega
      generalize a / b = k at *
      subst ea
      refine ⟨Nat.one_pos, Nat.coprime_one_right _, by show b * k * 1 ≤ k * b; rw [Nat.mul_one, Nat.mul_comm]; exact Nat.le_refl _, ?_, fun P Q hQ h3 _ => ⟨?_, hQ⟩⟩
      · show k * d ≤ c * 1
        have : b * (k * d) ≤ b * c := by rw [← Nat.mul_assoc, Nat.mul_comm b c]; exact h
        rw [Nat.mul_one]; exact Nat.le_of_mul_le_mul_left this hb
      · show k ≤ P
        have : b * (k * Q) ≤ b * P := by rw [← Nat.mul_assoc, Nat.mul_comm b P]; exact h3
        have h4 := Nat.le_of_mul_le_mul_left this hb
        have h5 : k * 1 ≤ k * Q := Nat.mul_le_mul_left _ hQ
        omega
    · have hm := Nat.mod_lt a hb
      by_cases h2 : (a / b + 1) * d ≤ c
      · rw [simpl_next h1 h2]
        generalize a / b = k at *
        generalize a % b = m at *
        refine ⟨Nat.one_pos, Nat.coprime_one_right _, ?_, by show (k + 1) * d ≤ c * 1; omega, fun P Q hQ h3 _ => ⟨?_, hQ⟩⟩
        · show a * 1 ≤ (k + 1) * b
          rw [Nat.add_mul, Nat.mul_comm k b]; omega
        · show k + 1 ≤ P
          rcases Nat.lt_or_ge k P with h4 | h4
          · omega
          · have h5 : P * b ≤ k * b := Nat.mul_le_mul_right _ h4
            have h6 : a * 1 ≤ a * Q := Nat.mul_le_mul_left _ hQ
            rw [Nat.mul_comm k b] at h5
            omega
      · rw [simpl_rec hb h1 (by omega)]
        obtain ⟨g1, g2⟩ := simpl_between hb hd h h1
        have g3 : c - a / b * d < d := by rw [Nat.add_mul, Nat.one_mul] at h2; omega
        obtain ⟨q1, q2, q3, q4, q5⟩ := simpl_min N d (c - a / b * d) b (a % b) (by omega) (by omega) (by omega) (by rw [Nat.mul_comm d]; exact g2)
        generalize simpl d (c - a / b * d) b (a % b) = r at *
        obtain ⟨p', q'⟩ := r
        simp only at q1 q2 q3 q4 q5
        generalize hk : a / b = k at *
        generalize hmm : a % b = m at *
        obtain ⟨x, hx⟩ : ∃ x, c = k * d + x := ⟨c - k * d, by omega⟩
        have ex : c - k * d = x := by omega
        clear g1
        rw [ex] at q3 q5 g2 g3
        have p0 : 0 < p' := by
          rcases Nat.eq_zero_or_pos p' with h | h
          · subst h
            have := Nat.mul_pos hd q1
            omega
          · exact h
        refine ⟨p0, ?_, ?_, ?_, fun P Q hQ h3 h4 => ?_⟩
        · show Nat.Coprime (k * p' + q') p'
          rw [Nat.coprime_comm] at q2
          show Nat.gcd (k * p' + q') p' = 1
          rw [Nat.gcd_comm, Nat.mul_comm k p', Nat.gcd_mul_left_add_right]
          exact Nat.gcd_comm q' p' ▸ q2
        · show a * p' ≤ (k * p' + q') * b
          rw [← e]
          grind
        · show (k * p' + q') * d ≤ c * p'
          rw [hx]
          grind
        · show k * p' + q' ≤ P ∧ p' ≤ Q
          have hR : k * Q ≤ P := by
            apply Nat.le_of_mul_le_mul_left _ hb
            have : b * (k * Q) ≤ a * Q := by rw [← e]; grind
            rw [Nat.mul_comm b P]; omega
          obtain ⟨R, hR'⟩ : ∃ R, P = k * Q + R := ⟨P - k * Q, by omega⟩
          subst hR'
          have j1 : m * Q ≤ R * b := by
            rw [← e] at h3; grind
          have j2 : R * d ≤ x * Q := by
            rw [hx] at h4; grind
          have R0 : 0 < R := by
            rcases Nat.eq_zero_or_pos R with h | h
            · subst h
              have := Nat.mul_pos (Nat.pos_of_ne_zero h1) hQ
              omega
            · exact h
          obtain ⟨i1, i2⟩ := q5 Q R R0 (by rw [Nat.mul_comm d, Nat.mul_comm Q]; exact j2) (by rw [Nat.mul_comm Q, Nat.mul_comm b]; exact j1)
          have := Nat.mul_le_mul_left k i1
          exact ⟨by omega, i1⟩
theorem mk_le (a c : Int) {b d : Nat} (hb : 0 < b) (hd : 0 < d) : mkRat a b ≤ mkRat c d ↔ a * d ≤ c * b := by
  have e1 := mkRat_mul_den a hb
  have e2 := mkRat_mul_den c hd
  have c1 : (a * d ≤ c * b) ↔ ((a : Rat) * (d : Rat) ≤ (c : Rat) * (b : Rat)) := by
    rw [← Rat.intCast_le_intCast (a := a * d), Rat.intCast_mul, Rat.intCast_mul, Rat.intCast_natCast, Rat.intCast_natCast]
  rw [c1, ← e1, ← e2]
  generalize mkRat a b = x at *
  generalize mkRat c d = y at *
  have f1 : x * (b : Rat) * (d : Rat) = x * (b * d : Nat) := by rw [Rat.natCast_mul, Rat.mul_assoc]
  have f2 : y * (d : Rat) * (b : Rat) = y * (b * d : Nat) := by rw [Rat.natCast_mul]; grind
  rw [f1, f2]
  have hp := Nat.mul_pos hb hd
  constructor
  · intro h; exact Rat.mul_le_mul_of_nonneg_right h (Rat.le_of_lt (natCast_posR hp))
  · intro h; exact le_of_den hp h
def SimOk (p q z : Q3) : Prop := Can z ∧ toR p ≤ toR z ∧ toR z ≤ toR q ∧ ∀ (K : Int) (D : Nat), 0 < D → toR p ≤ mkRat K D → mkRat K D ≤ toR q → z.2.2 ≤ D
theorem sim_ok {p q : Q3} (hp : Can p) (hq : Can q) (h : toR p ≤ toR q) : SimOk p q (simQ p q) := by
  obtain ⟨s, n, d⟩ := p
  obtain ⟨t, m, c⟩ := q
  obtain ⟨d0, hnd, hs⟩ := hp
  obtain ⟨c0, hmc, ht⟩ := hq
  simp only at d0 hnd hs c0 hmc ht
  have h' := (mk_le (sgi s n) (sgi t m) d0 c0).1 h
  unfold simQ
  simp only
  cases s
  · -- not below 0
    simp only [Bool.false_and, Bool.false_eq_true, if_false]
    have ht0 : t = false := by
      cases t
      · rfl
      · exfalso
        have hm := ht rfl
        unfold sgi at h'
        simp only [Bool.false_eq_true, if_false, if_true] at h'
        have p1 : (0 : Int) ≤ (n : Int) * c := Int.mul_nonneg (by omega) (by omega)
        have p2 : 0 < m * d := Nat.mul_pos (Nat.pos_of_ne_zero hm) d0
        have p3 : (0 : Int) < (m : Int) * d := by exact_mod_cast p2
        rw [Int.neg_mul] at h'
        omega
    subst ht0
    have h2 : n * c ≤ m * d := by
      unfold sgi at h'
      simp only [Bool.false_eq_true, if_false] at h'
      exact_mod_cast h'
    by_cases hn : n = 0
    · subst hn
      rw [if_pos (by unfold signQ sgn; simp)]
      refine ⟨⟨by show 0 < 1; omega, Nat.coprime_one_right _, fun h => by cases h⟩, ?_, ?_, fun K D hD _ _ => hD⟩
      · show mkRat (sgi false 0) d ≤ mkRat (sgi false 0) 1
        rw [mk_le _ _ d0 (by omega)]; unfold sgi; simp
      · show mkRat (sgi false 0) 1 ≤ mkRat (sgi false m) c
        rw [mk_le _ _ (by omega) c0]; unfold sgi; simp
    · rw [if_neg (by unfold signQ sgn; simp [hn])]
      obtain ⟨r1, r2, r3, r4, r5⟩ := simpl_min _ n d m c (Nat.le_refl _) d0 c0 h2
      generalize simpl n d m c = r at *
      refine ⟨⟨r1, r2, fun h => by cases h⟩, ?_, ?_, fun K D hD h3 h4 => ?_⟩
      · show mkRat (sgi false n) d ≤ mkRat (sgi false r.1) r.2
        rw [mk_le _ _ d0 r1]; unfold sgi; simp only [Bool.false_eq_true, if_false]; exact_mod_cast r3
      · show mkRat (sgi false r.1) r.2 ≤ mkRat (sgi false m) c
        rw [mk_le _ _ r1 c0]; unfold sgi; simp only [Bool.false_eq_true, if_false]; exact_mod_cast r4
      · have k3 := (mk_le (sgi false n) K d0 hD).1 h3
        have k4 := (mk_le K (sgi false m) hD c0).1 h4
        unfold sgi at k3 k4
        simp only [Bool.false_eq_true, if_false] at k3 k4
        have hK : 0 ≤ K := by
          have p1 : (0 : Int) ≤ (n : Int) * D := Int.mul_nonneg (by omega) (by omega)
          have p2 : 0 ≤ K * (d : Int) := by omega
          exact Int.le_of_mul_le_mul_right (by rw [Int.zero_mul]; exact p2) (show (0 : Int) < d by omega)
        obtain ⟨k, rfl⟩ := Int.eq_ofNat_of_zero_le hK
        exact (r5 k D hD (by exact_mod_cast k3) (by exact_mod_cast k4)).2
  · have hn := hs rfl
    cases t
    · -- 0 lies between
      simp only [Bool.and_false, Bool.false_eq_true, if_false]
      rw [if_pos (by unfold signQ sgn; simp)]
      refine ⟨⟨by show 0 < 1; omega, Nat.coprime_one_right _, fun h => by cases h⟩, ?_, ?_, fun K D hD _ _ => hD⟩
      · show mkRat (sgi true n) d ≤ mkRat (sgi false 0) 1
        rw [mk_le _ _ d0 (by omega)]; unfold sgi; simp
      · show mkRat (sgi false 0) 1 ≤ mkRat (sgi false m) c
        rw [mk_le _ _ (by omega) c0]; unfold sgi; simp
    · simp only [Bool.and_self, if_true]
      have hm := ht rfl
      have h2 : m * d ≤ n * c := by
        unfold sgi at h'
        simp only [if_true] at h'
        rw [Int.neg_mul, Int.neg_mul] at h'
        have : (m : Int) * d ≤ (n : Int) * c := by omega
        exact_mod_cast this
      obtain ⟨r1, r2, r3, r4, r5⟩ := simpl_min _ m c n d (Nat.le_refl _) c0 d0 h2
      generalize simpl m c n d = r at *
      have hr : r.1 ≠ 0 := by
        intro h
        rw [h, Nat.zero_mul] at r3
        have := Nat.mul_pos (Nat.pos_of_ne_zero hm) r1
        omega
      have e : decide (r.1 ≠ 0) = true := decide_eq_true hr
      rw [e]
      refine ⟨⟨r1, r2, fun _ => hr⟩, ?_, ?_, fun K D hD h3 h4 => ?_⟩
      · show mkRat (sgi true n) d ≤ mkRat (sgi true r.1) r.2
        rw [mk_le _ _ d0 r1]; unfold sgi; simp only [if_true]
        rw [Int.neg_mul, Int.neg_mul]
        have : (r.1 : Int) * d ≤ (n : Int) * r.2 := by exact_mod_cast r4
        omega
      · show mkRat (sgi true r.1) r.2 ≤ mkRat (sgi true m) c
        rw [mk_le _ _ r1 c0]; unfold sgi; simp only [if_true]
        rw [Int.neg_mul, Int.neg_mul]
        have : (m : Int) * r.2 ≤ (r.1 : Int) * c := by exact_mod_cast r3
        omega
      · have k3 := (mk_le (sgi true n) K d0 hD).1 h3
        have k4 := (mk_le K (sgi true m) hD c0).1 h4
        unfold sgi at k3 k4
        simp only [if_true] at k3 k4
        rw [Int.neg_mul] at k3 k4
        have hK : K ≤ 0 := by
          have p1 : (0 : Int) ≤ (m : Int) * D := Int.mul_nonneg (by omega) (by omega)
          have p2 : K * (c : Int) ≤ 0 := by omega
          exact Int.le_of_mul_le_mul_right (by rw [Int.zero_mul]; exact p2) (show (0 : Int) < c by omega)
        obtain ⟨k, rfl⟩ : ∃ k : Nat, K = -(k : Int) := ⟨K.natAbs, by omega⟩
        rw [Int.neg_mul] at k3 k4
        have j3 : (k : Int) * d ≤ (n : Int) * D := by omega
        have j4 : (m : Int) * D ≤ (k : Int) * c := by omega
        exact (r5 k D hD (by exact_mod_cast j4) (by exact_mod_cast j3)).2

theorem isV_size {a : ByteArray} {x : Rat} (h : IsV a x) : a.size ≤ 1000 := by
  obtain ⟨p, hp, -⟩ := h
  have e := out3_self hp
  have := out3_size p
  rw [e] at this
  exact this
theorem textB_isV {q : Q3} (hc : Can q) (hf : fitQ q.2.1 q.2.2 = true) : IsV (textB q) (toR q) := ⟨q, readQ_text hc hf, rfl⟩
theorem dig_one : Dig 1 ≤ 300 := Nat.le_trans (dig_le (k := 1) (by omega) (by omega)) (by omega)
theorem sim_bad {a b : ByteArray} (h : (simT a b).2 ≠ 0) : (simT a b).1 = ⟨#[]⟩ ∧ ((((cmpT a b).2 == (simT a b).2) || (((simT a b).2 == 3) && decide (0 < (cmpT a b).1))) || ((simT a b).2 == 2)) = true := by
  unfold simT cmpT twoG at *
  cases hp : readQ a.data.toList with
  | none => exact ⟨rfl, rfl⟩
  | some p =>
    cases hq : readQ b.data.toList with
    | none => exact ⟨rfl, rfl⟩
    | some q =>
      rw [hp, hq] at h
      have h : (simF p q).2 ≠ 0 := h
      show (simF p q).1 = ⟨#[]⟩ ∧ (((cmpF p q).2 == (simF p q).2) || (((simF p q).2 == 3) && decide (0 < (cmpF p q).1)) || ((simF p q).2 == 2)) = true
      have e : (cmpF p q).1 = cmpQ p q := rfl
      rw [e]
      unfold simF at *
      by_cases hc : 0 < cmpQ p q
      · rw [if_pos hc]; exact ⟨rfl, by simp [hc]⟩
      · rw [if_neg hc] at h ⊢
        rcases out3_code (simQ p q) with h1 | h1
        · exact absurd h1 h
        · refine ⟨?_, by rw [h1]; simp⟩
          unfold out3 at h1 ⊢
          cases hf : fitQ (simQ p q).2.1 (simQ p q).2.2
          · rw [outQ_long hf]
          · rw [outQ_fit hf] at h1; cases h1
theorem sim_good {a b : ByteArray} (h : (simT a b).2 = 0) : ∃ (x y t : Rat) (Q : Nat) (tn den : ByteArray), IsV a x ∧ IsV b y ∧ IsV (simT a b).1 t ∧ x ≤ t ∧ t ≤ y ∧ parT (simT a b).1 = (tn, den, 0) ∧ IsV den (Q : Rat) ∧ ∀ (K : Int) (D : Nat), 0 < D → x ≤ mkRat K D → mkRat K D ≤ y → Q ≤ D := by
  unfold simT twoG at *
  cases hp : readQ a.data.toList with
  | none => rw [hp] at h; cases h
  | some p =>
    cases hq : readQ b.data.toList with
    | none => rw [hp, hq] at h; cases h
    | some q =>
      rw [hp, hq] at h
      have h : (simF p q).2 = 0 := h
      show ∃ (x y t : Rat) (Q : Nat) (tn den : ByteArray), IsV a x ∧ IsV b y ∧ IsV (simF p q).1 t ∧ x ≤ t ∧ t ≤ y ∧ parT (simF p q).1 = (tn, den, 0) ∧ IsV den (Q : Rat) ∧ ∀ (K : Int) (D : Nat), 0 < D → x ≤ mkRat K D → mkRat K D ≤ y → Q ≤ D
      have cp := readQ_can hp
      have cq := readQ_can hq
      unfold simF at *
      by_cases hc : 0 < cmpQ p q
      · rw [if_pos hc] at h; cases h
      · rw [if_neg hc] at h ⊢
        have hle : toR p ≤ toR q := Rat.not_lt.1 fun k => hc ((cmpQ_gt cp cq).2 k)
        obtain ⟨cz, z1, z2, z3⟩ := sim_ok cp cq hle
        generalize simQ p q = z at *
        have hf : fitQ z.2.1 z.2.2 = true := by
          cases hf : fitQ z.2.1 z.2.2
          · unfold out3 at h; rw [outQ_long hf] at h; cases h
          · rfl
        have hd : Dig z.2.2 ≤ 300 := (of_decide_eq_true hf).2
        have hr : readQ (out3 z).1.data.toList = some z := by
          unfold out3; rw [outQ_fit hf]; exact readQ_text cz hf
        refine ⟨toR p, toR q, toR z, z.2.2, textB (numQ z), textB (denQ z), ⟨p, hp, rfl⟩, ⟨q, hq, rfl⟩, ⟨z, hr, rfl⟩, z1, z2, ?_, ?_, z3⟩
        · unfold parT oneG; rw [hr]
        · have c : Can (denQ z) := ⟨by show 0 < 1; omega, Nat.coprime_one_right _, fun h => by cases h⟩
          have e : toR (denQ z) = ((z.2.2 : Nat) : Rat) := by
            unfold toR denQ
            show mkRat (sgi (false && decide (z.2.2 ≠ 0)) z.2.2) 1 = _
            rw [Rat.mkRat_one]; rfl
          rw [← e]
          exact textB_isV c (by unfold fitQ; exact decide_eq_true ⟨hd, dig_one⟩)
theorem makT_nat {d : Nat} (h1 : d ≤ 1000) : (makT d 1).2 = 0 ∧ IsV (makT d 1).1 (d : Rat) := by
  have e : makT d 1 = out3 (divQ (intQ d) (intQ 1)) := by unfold makT; rw [if_neg (by omega)]
  have cd : Can (intQ d) := ⟨by show 0 < 1; omega, Nat.coprime_one_right _, fun h => by
    have : (d : Int) < 0 := of_decide_eq_true h
    omega⟩
  have c1 : Can (intQ 1) := ⟨by show 0 < 1; omega, Nat.coprime_one_right _, fun h => by cases h⟩
  obtain ⟨k1, k2⟩ := divQ_spec cd c1 (by show (1 : Int).natAbs ≠ 0; decide)
  have t1 : toR (intQ 1) = 1 := rfl
  have td : toR (intQ d) = (d : Rat) := by
    unfold toR intQ
    have : decide ((d : Int) < 0) = false := decide_eq_false (by omega)
    show mkRat (sgi (decide ((d : Int) < 0)) ((d : Int).natAbs)) 1 = _
    rw [this, Rat.mkRat_one]; rfl
  rw [t1, td] at k2
  have k3 : toR (divQ (intQ d) (intQ 1)) = (d : Rat) := by rw [k2]; grind
  have k4 := den_int k1 (F := (d : Int)) k3
  have k5 : (divQ (intQ d) (intQ 1)).2.1 = d := by
    have h := toR_num k1
    rw [k3] at h
    have h2 : ((d : Nat) : Rat).num = (d : Int) := rfl
    rw [h2] at h
    have := congrArg Int.natAbs h
    rw [sgi_natAbs] at this
    exact this.symm
  have hf : fitQ (divQ (intQ d) (intQ 1)).2.1 (divQ (intQ d) (intQ 1)).2.2 = true := by
    rw [k4, k5]
    unfold fitQ
    refine decide_eq_true ⟨Nat.le_trans (dig_le (k := 4) (by omega) ?_) (by omega), dig_one⟩
    have : (10 : Nat) ^ 4 = 10000 := by decide
    omega
  have h0 : (out3 (divQ (intQ d) (intQ 1))).2 = 0 := by unfold out3; rw [outQ_fit hf]
  rw [e]
  refine ⟨h0, ?_⟩
  rw [← k3]
  exact out3_isV k1 h0
theorem negR_isV {r : ByteArray} {x : Rat} (hr : IsV r x) : IsV (mulT r ⟨#[45, 49]⟩).1 (-x) := by
  have hr0 := hr
  obtain ⟨p, hp, h⟩ := hr
  have h2 : readQ [45, 49] = some (true, 1, 1) := rfl
  have c2 : Can (true, 1, 1) := readQ_can h2
  have e : mulT r ⟨#[45, 49]⟩ = out3 (mulQ p (true, 1, 1)) := by
    unfold mulT two
    rw [hp, show readQ (⟨#[45, 49]⟩ : ByteArray).data.toList = some (true, 1, 1) from h2]
  obtain ⟨m1, m2⟩ := mulQ_spec (readQ_can hp) c2
  obtain ⟨n1, n2⟩ := negQ_spec (readQ_can hp)
  have t2 : toR (true, 1, 1) = -1 := rfl
  have e2 : mulQ p (true, 1, 1) = negQ p := toR_inj m1 n1 (by rw [m2, n2, t2]; grind)
  have hf : fitQ (negQ p).2.1 (negQ p).2.2 = true := by
    obtain ⟨f1, f2, _⟩ := readQ_q hp
    unfold fitQ; exact decide_eq_true ⟨f1, f2⟩
  have hv := mulT_isV hr0 isV_mone (by rw [e, e2]; unfold out3; rw [outQ_fit hf])
  have e3 : x * -1 = -x := by grind
  rwa [e3] at hv
theorem sim_loop {a b q : ByteArray} {x y : Rat} {Q d : Nat} (ha : IsV a x) (hb : IsV b y) (hq : IsV q (d : Rat)) (hmin : ∀ (K : Int) (D : Nat), 0 < D → x ≤ mkRat K D → mkRat K D ≤ y → Q ≤ D) (h0 : 0 < d) (hdQ : d < Q)
    (hf : (mulT a q).2 = 0) (hg : (floorT (mulT (mulT a q).1 ⟨#[45, 49]⟩).1).2 = 0) (hi : (divT (mulT (floorT (mulT (mulT a q).1 ⟨#[45, 49]⟩).1).1 ⟨#[45, 49]⟩).1 q).2 = 0) :
    0 < (cmpT (divT (mulT (floorT (mulT (mulT a q).1 ⟨#[45, 49]⟩).1).1 ⟨#[45, 49]⟩).1 q).1 b).1 := by
  have v1 := mulT_isV ha hq hf
  have v2 := negR_isV v1
  obtain ⟨F, v3, f1, f2⟩ := floorT_isV v2 hg
  have v4 := neg_isV v3
  obtain ⟨v5, hd0⟩ := (divT_isV v4 hq).2 hi
  rw [cmpT_isV v5 hb]
  apply cmpR_pos.2
  apply Rat.not_le.1
  intro hle
  have e := (Rat.mkRat_eq_div (-F) d).symm
  rw [e] at hle
  have hx : x ≤ mkRat (-F) d := by
    refine le_of_den h0 ?_
    rw [mkRat_mul_den _ h0, Rat.intCast_neg]
    grind
  have := hmin (-F) d h0 hx hle
  omega
theorem simT_size (a b : ByteArray) : (simT a b).1.size ≤ 1000 := by
  unfold simT twoG
  split
  · unfold simF; split
    · decide
    · exact out3_size _
  · decide
theorem cmpR_nat {d Q : Nat} : (0 ≤ cmpR (d : Rat) (Q : Rat)) ↔ Q ≤ d := by
  rw [cmpR_ge]; exact Rat.natCast_le_natCast
end Go.Proofs.Ytlkdahgfnfdakaa
