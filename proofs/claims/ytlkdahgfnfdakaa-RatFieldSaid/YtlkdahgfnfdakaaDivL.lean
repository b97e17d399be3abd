import Derived.Test.YtlkdahgfnfdakaaGuess
import Derived.Test.YtlkdahgfnfdakaaUint
import Derived.Deep.RegionWith
namespace Go.Proofs.Ytlkdahgfnfdakaa
open Go.RowKit Go.Shelf WN
attribute [local go_sem] Oper.semAt_some

theorem drop_part (l : List Nat) (o n : Nat) : val 1000000000 (l.drop o) = part l o n + 1000000000 ^ n * val 1000000000 (l.drop (o + n)) := by
  unfold part
  by_cases h : n ≤ (l.drop o).length
  · rw [val_take_drop _ (l.drop o) n h, List.drop_drop]
  · rw [List.take_of_length_le (by omega)]
    have : l.drop (o + n) = [] := List.drop_eq_nil_of_le (by simp at h; omega)
    rw [this]; simp

theorem part_lt {l : List Nat} (h : Digs 1000000000 l) (o n : Nat) : part l o n < 1000000000 ^ n := by
  have h1 := val_lt (B := 1000000000) (by omega) ((h.drop o).take n)
  unfold part
  refine Nat.lt_of_lt_of_le h1 (Nat.pow_le_pow_right (by omega) (by simp; omega))

theorem outside {l m : List Nat} {o n : Nat} (hs : ∀ t, t < o ∨ o + n ≤ t → m[t]? = l[t]?) : m.take o = l.take o ∧ m.drop (o + n) = l.drop (o + n) := by
  constructor
  · apply List.ext_getElem?
    intro i
    rw [List.getElem?_take, List.getElem?_take]
    split
    · exact hs i (.inl (by assumption))
    · rfl
  · apply List.ext_getElem?
    intro i
    rw [List.getElem?_drop, List.getElem?_drop]
    exact hs _ (.inr (by omega))

/-- the numbers of one round -/
theorem div_round {q c P v part1 X : Nat} (hv : 0 < v) (hvX : v ≤ X) (hq1 : P / v ≤ q) (hq2 : q ≤ P / v + 1) (h1 : part1 + q * v = P + X * c) (hp : part1 < X) :
    (¬ 0 < c → q = P / v ∧ part1 = P % v) ∧ (0 < c → q = P / v + 1 ∧ c = 1 ∧ ∀ part2 c2, part2 + X * c2 = part1 + v → part2 < X → part2 = P % v) := by
  have hdm := Nat.div_add_mod P v
  have hml := Nat.mod_lt P hv
  have hq : q = P / v ∨ q = P / v + 1 := by omega
  have hXc : ∀ d, 0 < d → X ≤ X * d := fun d hd => Nat.le_mul_of_pos_right X hd
  rw [Nat.mul_comm v] at hdm
  rcases hq with rfl | rfl
  · have : c = 0 := by
      rcases Nat.eq_zero_or_pos c with h | h
      · exact h
      · have := hXc c h; generalize P / v * v = z at *; generalize X * c = y at *; omega
    subst this
    refine ⟨fun _ => ⟨rfl, ?_⟩, fun h => absurd h (by omega)⟩
    rw [Nat.mul_zero, Nat.add_zero] at h1
    generalize P / v * v = z at *; omega
  · rw [Nat.add_mul, Nat.one_mul] at h1
    generalize P / v * v = z at *
    have hc1 : c = 1 := by
      rcases Nat.lt_or_ge 1 c with h | h
      · obtain ⟨d, rfl⟩ : ∃ d, c = d + 2 := ⟨c - 2, by omega⟩
        rw [Nat.mul_add] at h1
        have := hXc
        generalize X * d = y at *
        omega
      · rcases Nat.eq_zero_or_pos c with h0 | h0
        · subst h0; rw [Nat.mul_zero] at h1; omega
        · omega
    subst hc1
    rw [Nat.mul_one] at h1
    refine ⟨fun h => absurd Nat.zero_lt_one h, fun _ => ⟨rfl, rfl, fun part2 c2 h2 h3 => ?_⟩⟩
    rcases Nat.eq_zero_or_pos c2 with h0 | h0
    · subst h0; rw [Nat.mul_zero] at h2; omega
    · rcases Nat.lt_or_ge 1 c2 with h | h
      · obtain ⟨d, rfl⟩ : ∃ d, c2 = d + 2 := ⟨c2 - 2, by omega⟩
        rw [Nat.mul_add] at h2
        generalize X * d = y at *
        omega
      · obtain rfl : c2 = 1 := by omega
        rw [Nat.mul_one] at h2; omega

/-- what long division knows when k rounds are over -/
structure DivNums (la : Nat) (v n Nq k : Nat) (R qs : List Nat) : Prop where
  len : R.length = Nq + n
  digs : Digs 1000000000 R
  qlen : qs.length = k
  qdigs : Digs 1000000000 qs
  sum : la = val 1000000000 R + v * (1000000000 ^ (Nq - k) * val 1000000000 qs)
  top : val 1000000000 (R.drop (Nq - k)) < v

theorem DivNums.P {la v n Nq k : Nat} {R qs : List Nat} (h : DivNums la v n Nq k R qs) (hk : k < Nq) (hv : v < 1000000000 ^ n) :
    part R (Nq - 1 - k) (n + 1) < v * 1000000000 ∧ val 1000000000 (R.drop (Nq - 1 - k + (n + 1))) = 0 := by
  have ht := h.top
  have e1 := drop_part R (Nq - k) n
  have hz : val 1000000000 (R.drop (Nq - k + n)) = 0 := by
    rcases Nat.eq_zero_or_pos (val 1000000000 (R.drop (Nq - k + n))) with h0 | h0
    · exact h0
    · have : 1000000000 ^ n * 1 ≤ 1000000000 ^ n * val 1000000000 (R.drop (Nq - k + n)) := Nat.mul_le_mul_left _ h0
      omega
  rw [hz, Nat.mul_zero, Nat.add_zero] at e1
  have hidx : Nq - 1 - k + (n + 1) = Nq - k + n := by omega
  refine ⟨?_, by rw [hidx]; exact hz⟩
  have hlt : Nq - 1 - k < R.length := by rw [h.len]; omega
  have e2 := drop_part R (Nq - 1 - k) (n + 1)
  rw [hidx, hz, Nat.mul_zero, Nat.add_zero, val_drop _ _ _ hlt, show Nq - 1 - k + 1 = Nq - k from by omega] at e2
  have := h.digs.get _ hlt
  omega

theorem DivNums.next {la v n Nq k : Nat} {R qs : List Nat} (h : DivNums la v n Nq k R qs) (hk : k < Nq) (hv0 : 0 < v) (hv : v < 1000000000 ^ n) {m : List Nat} (hm : m.length = R.length) (hd : Digs 1000000000 m)
    (hs : ∀ t, t < Nq - 1 - k ∨ Nq - 1 - k + (n + 1) ≤ t → m[t]? = R[t]?) (hp : part m (Nq - 1 - k) (n + 1) = part R (Nq - 1 - k) (n + 1) % v) (hq9 : part R (Nq - 1 - k) (n + 1) / v < 1000000000) :
    DivNums la v n Nq (k + 1) m (part R (Nq - 1 - k) (n + 1) / v :: qs) := by
  obtain ⟨hP, hz⟩ := h.P hk hv
  obtain ⟨o1, o2⟩ := outside hs
  have hsum := h.sum
  generalize hPd : part R (Nq - 1 - k) (n + 1) = P at *
  have hlt : Nq - 1 - k ≤ R.length := by rw [h.len]; omega
  have e1 := val_take_drop 1000000000 R (Nq - 1 - k) hlt
  have e2 := val_take_drop 1000000000 m (Nq - 1 - k) (by omega)
  have d1 := drop_part R (Nq - 1 - k) (n + 1)
  have d2 := drop_part m (Nq - 1 - k) (n + 1)
  rw [hz, Nat.mul_zero, Nat.add_zero, hPd] at d1
  rw [o2, hz, Nat.mul_zero, Nat.add_zero, hp] at d2
  rw [d1] at e1
  rw [d2, o1] at e2
  refine ⟨by rw [hm, h.len], hd, by simp [h.qlen], h.qdigs.cons hq9, ?_, ?_⟩
  · rw [hsum, e1, e2, val_cons, show Nq - (k + 1) = Nq - 1 - k from by omega, show Nq - k = Nq - 1 - k + 1 from by omega, Nat.pow_succ]
    have hdm := Nat.div_add_mod P v
    generalize 1000000000 ^ (Nq - 1 - k) = X at *
    have e3 : X * P = v * (X * (P / v)) + X * (P % v) := by
      conv => lhs; rw [← hdm, Nat.mul_add]
      rw [Nat.mul_left_comm]
    rw [e3, Nat.mul_add X, Nat.mul_add v, Nat.mul_assoc X]
    omega
  · rw [show Nq - (k + 1) = Nq - 1 - k from by omega, d2]; exact Nat.mod_lt _ hv0

theorem DivNums.start {la : List Nat} {v n Nq : Nat} (hla : Digs 1000000000 la) (hlen : la.length + 1 = Nq + n) (hn : 1 ≤ n) (hv : 1000000000 ^ (n - 1) ≤ v) : DivNums (val 1000000000 la) v n Nq 0 (la ++ [0]) [] := by
  refine ⟨by simp; omega, hla.snoc (by omega), rfl, Digs.nil _, by rw [val_snoc]; simp, ?_⟩
  rw [Nat.sub_zero, List.drop_append_of_le_length (by omega), val_snoc, Nat.mul_zero, Nat.add_zero]
  have := val_lt (B := 1000000000) (by omega) (hla.drop Nq)
  rw [List.length_drop, show la.length - Nq = n - 1 from by omega] at this
  omega

theorem DivNums.done {la v n Nq : Nat} {R qs : List Nat} (h : DivNums la v n Nq Nq R qs) (hv : 0 < v) : val 1000000000 qs = la / v ∧ val 1000000000 R = la % v := by
  have h1 := h.sum
  have h2 := h.top
  rw [Nat.sub_self, List.drop_zero] at h2
  rw [Nat.sub_self, Nat.pow_zero, Nat.one_mul] at h1
  rw [h1, Nat.add_mul_div_left _ _ hv, Nat.div_eq_of_lt h2, Nat.zero_add, Nat.add_mul_mod_self_left, Nat.mod_eq_of_lt h2]
  exact ⟨rfl, rfl⟩
end Go.Proofs.Ytlkdahgfnfdakaa
