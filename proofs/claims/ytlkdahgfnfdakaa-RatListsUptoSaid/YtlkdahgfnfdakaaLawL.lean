/- Powers and integer parts of the texts' numbers, and guards that are known. -/
import Derived.Test.YtlkdahgfnfdakaaLawK
import Derived.Test.YtlkdahgfnfdakaaFaceM
namespace Go.Proofs.Ytlkdahgfnfdakaa
open Go Go.RowKit Go.Shelf WN LM

section
variable {P : Program} {ops : Array Oper} {Q : Exit → Act → World → Prop} {o : Oper} {a : Act} {w : World} {K : Act → World → Prop} {j : Nat} {want b : Bool} {t : Tmp}
theorem guard_none (hg : o.guard = some (j, want)) (ht : dstAt ops j = some t) (h : a.tmps[t]?.getD undef = undef) (h2 : K (a.put o.dst undef) w) :
    if Region.wanted o (yielded ops a.tmps) = true then o.wp P a w K Q else K (a.put o.dst undef) w := by
  rw [wanted_none hg ht h]
  exact h2
theorem guard_off (hg : o.guard = some (j, want)) (ht : dstAt ops j = some t) (h : a.tmps[t]?.getD undef = .bool b) (hb : b ≠ want) (h2 : K (a.put o.dst undef) w) :
    if Region.wanted o (yielded ops a.tmps) = true then o.wp P a w K Q else K (a.put o.dst undef) w :=
  guard_by hg ht h (fun h => absurd h hb) (fun _ => h2)
theorem guard_on (hg : o.guard = some (j, want)) (ht : dstAt ops j = some t) (h : a.tmps[t]?.getD undef = .bool want) (h1 : o.wp P a w K Q) :
    if Region.wanted o (yielded ops a.tmps) = true then o.wp P a w K Q else K (a.put o.dst undef) w :=
  guard_by hg ht h (fun _ => h1) (fun hn => absurd rfl hn)
end

theorem isV_zero : IsV ⟨#[48]⟩ 0 := ⟨(false, 0, 1), rfl, by unfold toR; rw [show sgi false 0 = 0 from rfl, Rat.zero_mkRat]⟩
theorem isV_one : IsV ⟨#[49]⟩ 1 := ⟨(false, 1, 1), rfl, rfl⟩
theorem sgi_pow (s : Bool) (n k : Nat) : sgi (s && decide (k % 2 = 1)) (n ^ k) = sgi s n ^ k := by
  cases s
  · simp [sgi]
  · rcases Nat.mod_two_eq_zero_or_one k with h | h
    · have e : (true && decide (k % 2 = 1)) = false := by rw [h]; rfl
      rw [e]
      show ((n ^ k : Nat) : Int) = (-(n : Int)) ^ k
      obtain ⟨m, rfl⟩ : ∃ m, k = 2 * m := ⟨k / 2, by omega⟩
      rw [Int.pow_mul, Nat.pow_mul]
      have : (-(n : Int)) ^ 2 = (n : Int) ^ 2 := by grind
      rw [this]; push_cast; rfl
    · have e : (true && decide (k % 2 = 1)) = true := by rw [h]; rfl
      rw [e]
      show -((n ^ k : Nat) : Int) = (-(n : Int)) ^ k
      obtain ⟨m, rfl⟩ : ∃ m, k = 2 * m + 1 := ⟨k / 2, by omega⟩
      rw [Int.pow_succ, Int.pow_mul, Nat.pow_succ, Nat.pow_mul]
      have : (-(n : Int)) ^ 2 = (n : Int) ^ 2 := by grind
      rw [this]; push_cast; grind
theorem mkRat_pow (a : Int) (d : Nat) (k : Nat) : mkRat (a ^ k) (d ^ k) = mkRat a d ^ k := by
  induction k with
  | zero => rw [Int.pow_zero, Nat.pow_zero, Rat.pow_zero]; rfl
  | succ k ih =>
    rw [Int.pow_succ, Nat.pow_succ, Rat.pow_succ, ← ih, Rat.mkRat_mul_mkRat]
theorem rat_inv_pow {x : Rat} (hne : x ≠ 0) (k : Nat) : (x ^ k)⁻¹ = x⁻¹ ^ k := by
  apply Rat.inv_eq_of_mul_eq_one
  induction k with
  | zero => simp [Rat.pow_zero]
  | succ k ih =>
    rw [Rat.pow_succ, Rat.pow_succ]
    have : x ^ k * x * (x⁻¹ ^ k * x⁻¹) = (x ^ k * x⁻¹ ^ k) * (x * x⁻¹) := by grind
    rw [this, ih, Rat.mul_inv_cancel _ hne, Rat.mul_one]
theorem rat_pow_add (x : Rat) (k l : Nat) : x ^ (k + l) = x ^ k * x ^ l := by
  induction l with
  | zero => simp [Rat.pow_zero]
  | succ l ih => rw [← Nat.add_assoc, Rat.pow_succ, ih, Rat.pow_succ, Rat.mul_assoc]
theorem pow_add {x : Rat} {n m : Int} (hn : ¬ (n < 0 ∧ x = 0)) (hm : ¬ (m < 0 ∧ x = 0)) : x ^ n * x ^ m = x ^ (n + m) := by
  by_cases h : x = 0
  · obtain ⟨k, rfl⟩ := Int.eq_ofNat_of_zero_le (show 0 ≤ n from Int.not_lt.1 fun k => hn ⟨k, h⟩)
    obtain ⟨l, rfl⟩ := Int.eq_ofNat_of_zero_le (show 0 ≤ m from Int.not_lt.1 fun k => hm ⟨k, h⟩)
    rw [← Int.natCast_add, Rat.zpow_natCast, Rat.zpow_natCast, Rat.zpow_natCast, rat_pow_add]
  · exact (Rat.zpow_add h n m).symm

theorem floor_le {s : Bool} {n d : Nat} (hd : 0 < d) : sgi s (floorN s n d) * d ≤ sgi s n ∧ sgi s n < (sgi s (floorN s n d) + 1) * d := by
  have h1 := Nat.div_add_mod n d
  have h2 := Nat.mod_lt n hd
  unfold sgi floorN
  generalize n / d = q at *
  generalize n % d = r at *
  subst h1
  cases s
  · simp only [Bool.false_and, Bool.false_eq_true, if_false]
    push_cast
    constructor <;> grind
  · simp only [Bool.true_and, decide_eq_true_eq, if_true]
    split
    · push_cast; constructor <;> grind
    · have : r = 0 := by omega
      subst this
      push_cast; constructor <;> grind
theorem round_le {n d : Nat} (hd : 0 < d) : 2 * (roundN n d * d) ≤ 2 * n + d ∧ 2 * n ≤ 2 * (roundN n d * d) + d ∧ (2 * (roundN n d * d) = 2 * n + d → roundN n d % 2 = 0) ∧ (2 * n = 2 * (roundN n d * d) + d → roundN n d % 2 = 0) := by
  have h1 := Nat.div_add_mod n d
  have h2 := Nat.mod_lt n hd
  unfold roundN
  generalize n / d = q at *
  generalize n % d = r at *
  subst h1
  split
  · rename_i h
    have e : (q + 1) * d = d * q + d := by grind
    rw [e]
    refine ⟨by omega, by omega, fun k => ?_, fun k => ?_⟩
    · omega
    · omega
  · rename_i h
    have e : q * d = d * q := by grind
    rw [e]
    refine ⟨by omega, by omega, fun k => ?_, fun k => ?_⟩
    · omega
    · omega
theorem mkRat_one (a : Int) : mkRat a 1 = (a : Rat) := by
  rw [Rat.mkRat_one]
theorem mkRat_mul_den (a : Int) {d : Nat} (hd : 0 < d) : mkRat a d * (d : Rat) = (a : Rat) := by
  rw [Rat.mkRat_eq_div, Rat.div_mul_cancel]
  intro h
  have : (d : Rat) = ((0 : Nat) : Rat) := h
  have := Rat.natCast_inj.1 this
  omega
theorem natCast_posR {d : Nat} (hd : 0 < d) : (0 : Rat) < (d : Rat) := by
  have := (Rat.natCast_lt_natCast (a := 0) (b := d)).2 hd
  exact this
theorem le_of_den {x y : Rat} {d : Nat} (hd : 0 < d) (h : x * d ≤ y * d) : x ≤ y := by
  have := natCast_posR hd
  exact Rat.not_lt.1 fun k => (Rat.not_le.2 (Rat.mul_lt_mul_of_pos_right k this)) h
theorem lt_of_den {x y : Rat} {d : Nat} (hd : 0 < d) (h : x * d < y * d) : x < y := by
  have := natCast_posR hd
  exact Rat.not_le.1 fun k => (Rat.not_lt.2 (Rat.mul_le_mul_of_nonneg_right k (Rat.le_of_lt this))) h
theorem can_pow {s : Bool} {n d k : Nat} (hd : 0 < d) (hc : Nat.Coprime n d) (hs : s = true → n ≠ 0) : Can (s && decide (k % 2 = 1), n ^ k, d ^ k) := by
  refine ⟨Nat.pow_pos hd, hc.pow k k, fun h => ?_⟩
  simp only [Bool.and_eq_true] at h
  exact Nat.ne_of_gt (Nat.pow_pos (Nat.pos_of_ne_zero (hs h.1)))
theorem powQ_spec {p : Q3} (hp : Can p) {n : Int} (h0 : 0 ≤ n ∨ toR p ≠ 0) : Can (powQ p n) ∧ toR (powQ p n) = toR p ^ n := by
  by_cases hn : 0 ≤ n
  · obtain ⟨k, rfl⟩ := Int.eq_ofNat_of_zero_le hn
    have e1 : powQ p (k : Int) = (p.1 && decide (k % 2 = 1), p.2.1 ^ k, p.2.2 ^ k) := by unfold powQ; rw [if_pos hn]; simp
    rw [e1]
    refine ⟨can_pow hp.1 hp.2.1 hp.2.2, ?_⟩
    unfold toR
    rw [sgi_pow, mkRat_pow, Rat.zpow_natCast]
  · obtain ⟨k, rfl⟩ : ∃ k : Nat, n = -(k : Int) := ⟨n.natAbs, by omega⟩
    have e1 : powQ p (-(k : Int)) = (p.1 && decide (k % 2 = 1), p.2.2 ^ k, p.2.1 ^ k) := by unfold powQ; rw [if_neg hn]; simp
    have hne : toR p ≠ 0 := by rcases h0 with h | h; exact absurd h hn; exact h
    have hn0 : p.2.1 ≠ 0 := fun h => hne ((toR_zero hp).2 h)
    obtain ⟨i1, i2⟩ := invQ_spec hp hn0
    rw [e1, Rat.zpow_neg, Rat.zpow_natCast]
    refine ⟨can_pow (Nat.pos_of_ne_zero hn0) hp.2.1.symm (fun _ => Nat.ne_of_gt hp.1), ?_⟩
    have e2 : toR (invQ p) = mkRat (sgi p.1 p.2.2) p.2.1 := rfl
    rw [e2] at i2
    unfold toR
    show mkRat (sgi (p.1 && decide (k % 2 = 1)) (p.2.2 ^ k)) (p.2.1 ^ k) = _
    rw [sgi_pow, mkRat_pow, i2]
    show (toR p)⁻¹ ^ k = (toR p ^ k)⁻¹
    exact (rat_inv_pow hne k).symm
theorem powT_isV {a : ByteArray} {x : Rat} {n : Int} (ha : IsV a x) (h1 : -100 ≤ n) (h2 : n ≤ 100) :
    ((powT a n).2 = 12 ↔ n < 0 ∧ x = 0) ∧ ((powT a n).2 = 0 → IsV (powT a n).1 (x ^ n)) := by
  obtain ⟨p, hp, rfl⟩ := ha
  have cp := readQ_can hp
  have e : powT a n = powF n p := by unfold powT oneG; rw [hp]
  have hz : signQ p = 0 ↔ toR p = 0 := by rw [toR_zero cp]; exact sgn_zero cp.2.2
  rw [e]; unfold powF
  rw [if_neg (by omega)]
  by_cases h : n < 0 ∧ signQ p = 0
  · rw [if_pos h]
    exact ⟨⟨fun _ => ⟨h.1, hz.1 h.2⟩, fun _ => rfl⟩, fun h => by cases h⟩
  · rw [if_neg h]
    obtain ⟨c1, c2⟩ := powQ_spec cp (n := n) (by
      by_cases h0 : 0 ≤ n
      · exact Or.inl h0
      · exact Or.inr fun k => h ⟨by omega, hz.2 k⟩)
    refine ⟨⟨fun h3 => ?_, fun h3 => absurd ⟨h3.1, hz.2 h3.2⟩ h⟩, fun h3 => ?_⟩
    · rcases out3_code (powQ p n) with h4 | h4 <;> omega
    · rw [← c2]; exact out3_isV c1 h3
theorem out3_self {a : ByteArray} {p : Q3} (hp : readQ a.data.toList = some p) : out3 p = (a, 0) := by
  obtain ⟨h1, h2, h3, h4, h5, h6⟩ := readQ_q hp
  unfold out3
  rw [outQ_fit (by unfold fitQ; exact decide_eq_true ⟨h1, h2⟩), ← h6]
theorem powT_one {a : ByteArray} {x : Rat} (ha : IsV a x) : powT a 1 = (a, 0) := by
  obtain ⟨p, hp, rfl⟩ := ha
  have e : powT a 1 = powF 1 p := by unfold powT oneG; rw [hp]
  rw [e]; unfold powF
  rw [if_neg (by omega), if_neg (by omega)]
  have : powQ p 1 = p := by
    unfold powQ
    rw [if_pos (by omega)]
    obtain ⟨s, n, d⟩ := p
    simp
  rw [this]; exact out3_self hp
theorem powT_zero {a : ByteArray} {x : Rat} (ha : IsV a x) : powT a 0 = (⟨#[49]⟩, 0) := by
  obtain ⟨p, hp, rfl⟩ := ha
  have e : powT a 0 = powF 0 p := by unfold powT oneG; rw [hp]
  rw [e]; unfold powF
  rw [if_neg (by omega), if_neg (by omega)]
  have : powQ p 0 = (false, 1, 1) := by
    unfold powQ
    rw [if_pos (by omega)]
    simp
  rw [this, out_small (by omega) (by omega)]; rfl
theorem powT_size (a : ByteArray) (n : Int) : (powT a n).1.size ≤ 1000 := by
  unfold powT oneG
  split
  · unfold powF; split
    · decide
    · split
      · decide
      · exact out3_size _
  · decide
theorem den_int {q : Q3} {F : Int} (hq : Can q) (h : toR q = (F : Rat)) : q.2.2 = 1 := by
  rw [← toR_den hq, h]; rfl
theorem textB_one : textB (false, 1, 1) = ⟨#[49]⟩ := by
  show (⟨((if false then [45] else []) ++ decT 1 ++ (if 1 = 1 then [] else 47 :: decT 1)).toArray⟩ : ByteArray) = _
  rw [dec_small (n := 1) (by omega)]; rfl
theorem parT_int {a : ByteArray} {F : Int} (ha : IsV a (F : Rat)) : ∃ t, parT a = (t, ⟨#[49]⟩, 0) := by
  obtain ⟨p, hp, h⟩ := ha
  have hd := den_int (readQ_can hp) h
  refine ⟨textB (numQ p), ?_⟩
  unfold parT oneG
  rw [hp]
  show (textB (numQ p), textB (denQ p), (0 : Int)) = _
  have : denQ p = (false, 1, 1) := by unfold denQ; rw [hd]; rfl
  rw [this, textB_one]
theorem int_isV {s : Bool} {N : Nat} (h : (out3 (s && decide (N ≠ 0), N, 1)).2 = 0) : IsV (out3 (s && decide (N ≠ 0), N, 1)).1 ((sgi s N : Int) : Rat) := by
  have hc : Can (s && decide (N ≠ 0), N, 1) := ⟨by show 0 < 1; omega, Nat.coprime_one_right _, fun h => by simp only [Bool.and_eq_true, decide_eq_true_eq] at h; exact h.2⟩
  have e : toR (s && decide (N ≠ 0), N, 1) = ((sgi s N : Int) : Rat) := by
    unfold toR
    show mkRat (sgi (s && decide (N ≠ 0)) N) 1 = _
    rw [sgi_dec, Rat.mkRat_one]
  rw [← e]
  exact out3_isV hc h
theorem one_code {f : Q3 → Q3} {a : ByteArray} {x : Rat} (ha : IsV a x) : (oneT (fun p => out3 (f p)) a).2 = 0 ∨ (oneT (fun p => out3 (f p)) a).2 = 2 := by
  obtain ⟨p, hp, rfl⟩ := ha
  unfold oneT; rw [hp]; exact out3_code _
theorem one_size {f : Q3 → Q3} (a : ByteArray) : (oneT (fun p => out3 (f p)) a).1.size ≤ 1000 := by
  unfold oneT
  split
  · exact out3_size _
  · decide
theorem le_cast {F N : Int} {d : Nat} (hd : 0 < d) (h : F * d ≤ N) : (F : Rat) ≤ mkRat N d := by
  refine le_of_den hd ?_
  rw [mkRat_mul_den N hd]
  have := (Rat.intCast_le_intCast (a := F * d) (b := N)).2 h
  rwa [Rat.intCast_mul, Rat.intCast_natCast] at this
theorem lt_cast {F N : Int} {d : Nat} (hd : 0 < d) (h : N < F * d) : mkRat N d < (F : Rat) := by
  refine lt_of_den hd ?_
  rw [mkRat_mul_den N hd]
  have := (Rat.intCast_lt_intCast (a := N) (b := F * d)).2 h
  rwa [Rat.intCast_mul, Rat.intCast_natCast] at this
theorem floorT_isV {a : ByteArray} {x : Rat} (ha : IsV a x) (h : (floorT a).2 = 0) : ∃ F : Int, IsV (floorT a).1 (F : Rat) ∧ (F : Rat) ≤ x ∧ x < (F : Rat) + 1 := by
  obtain ⟨p, hp, rfl⟩ := ha
  have cp := readQ_can hp
  have e : floorT a = out3 (p.1 && decide (floorN p.1 p.2.1 p.2.2 ≠ 0), floorN p.1 p.2.1 p.2.2, 1) := by unfold floorT oneT; rw [hp]; rfl
  rw [e] at h ⊢
  obtain ⟨h1, h2⟩ := floor_le (s := p.1) (n := p.2.1) cp.1
  refine ⟨_, int_isV h, le_cast cp.1 h1, ?_⟩
  have := lt_cast (F := sgi p.1 (floorN p.1 p.2.1 p.2.2) + 1) cp.1 h2
  rwa [Rat.intCast_add] at this
theorem sgi_two (s : Bool) (n : Nat) : sgi s (2 * n) = 2 * sgi s n := by unfold sgi; cases s <;> simp; omega
theorem isV_half : IsV ⟨#[49, 47, 50]⟩ (mkRat 1 2) := ⟨(false, 1, 2), rfl, rfl⟩
theorem isV_mhalf : IsV ⟨#[45, 49, 47, 50]⟩ (mkRat (-1) 2) := ⟨(true, 1, 2), rfl, rfl⟩
theorem half_two : mkRat 1 2 * 2 = 1 := mkRat_mul_den 1 (d := 2) (by omega)
theorem mhalf_two : mkRat (-1) 2 * 2 = -1 := mkRat_mul_den (-1) (d := 2) (by omega)
/-- a number at most 1/2 away: as integers -/
theorem half_le {R N : Int} {d : Nat} (hd : 0 < d) : (2 * (R * d) ≤ 2 * N + d ↔ (R : Rat) - mkRat N d ≤ mkRat 1 2) ∧ (2 * N ≤ 2 * (R * d) + d ↔ mkRat (-1) 2 ≤ (R : Rat) - mkRat N d) := by
  have e := mkRat_mul_den N hd
  have p := natCast_posR hd
  have h2 := half_two
  have h3 := mhalf_two
  generalize mkRat N d = x at *
  generalize mkRat 1 2 = y at *
  generalize mkRat (-1) 2 = z at *
  have c1 : (2 * (R * d) ≤ 2 * N + d) ↔ ((2 * ((R : Rat) * (d : Rat)) : Rat) ≤ 2 * (N : Rat) + (d : Rat)) := by
    have := Rat.intCast_le_intCast (a := 2 * (R * d)) (b := 2 * N + d)
    rw [← this]
    simp only [Rat.intCast_mul, Rat.intCast_add, Rat.intCast_natCast]
    exact Iff.rfl
  have c2 : (2 * N ≤ 2 * (R * d) + d) ↔ (2 * (N : Rat) ≤ 2 * ((R : Rat) * (d : Rat)) + (d : Rat)) := by
    have := Rat.intCast_le_intCast (a := 2 * N) (b := 2 * (R * d) + d)
    rw [← this]
    simp only [Rat.intCast_mul, Rat.intCast_add, Rat.intCast_natCast]
    exact Iff.rfl
  rw [c1, c2, ← e]
  generalize (R : Rat) = r at *
  generalize (d : Rat) = t at *
  have ey : y = 1 / 2 := by grind
  have ez : z = -1 / 2 := by grind
  subst ey ez
  clear h2 h3 e c1 c2
  constructor
  · constructor
    · intro h
      apply Rat.not_lt.1; intro k
      have := Rat.mul_lt_mul_of_pos_right k p
      grind
    · intro h
      have := Rat.mul_le_mul_of_nonneg_right h (Rat.le_of_lt p)
      grind
  · constructor
    · intro h
      apply Rat.not_lt.1; intro k
      have := Rat.mul_lt_mul_of_pos_right k p
      grind
    · intro h
      have := Rat.mul_le_mul_of_nonneg_right h (Rat.le_of_lt p)
      grind
theorem roundT_isV {a : ByteArray} {x : Rat} (ha : IsV a x) (h : (roundT a).2 = 0) : ∃ R : Int, IsV (roundT a).1 (R : Rat) ∧ (R : Rat) - x ≤ mkRat 1 2 ∧ mkRat (-1) 2 ≤ (R : Rat) - x ∧ ((R : Rat) - x = mkRat 1 2 ∨ (R : Rat) - x = mkRat (-1) 2 → R % 2 = 0) := by
  obtain ⟨p, hp, rfl⟩ := ha
  have cp := readQ_can hp
  have e : roundT a = out3 (p.1 && decide (roundN p.2.1 p.2.2 ≠ 0), roundN p.2.1 p.2.2, 1) := by unfold roundT oneT; rw [hp]; rfl
  rw [e] at h ⊢
  obtain ⟨h1, h2, h3, h4⟩ := round_le (n := p.2.1) cp.1
  have hi := int_isV h
  generalize roundN p.2.1 p.2.2 = R at *
  obtain ⟨k1, k2⟩ := half_le (R := sgi p.1 R) (N := sgi p.1 p.2.1) cp.1
  have q1 : (2 * ((sgi p.1 R) * p.2.2) ≤ 2 * (sgi p.1 p.2.1) + p.2.2) ∧ (2 * (sgi p.1 p.2.1) ≤ 2 * ((sgi p.1 R) * p.2.2) + p.2.2) ∧ ((2 * ((sgi p.1 R) * p.2.2) = 2 * (sgi p.1 p.2.1) + p.2.2) ∨ (2 * (sgi p.1 p.2.1) = 2 * ((sgi p.1 R) * p.2.2) + p.2.2) → R % 2 = 0) := by
    have e1 : ((R * p.2.2 : Nat) : Int) = (R : Int) * (p.2.2 : Int) := by push_cast; rfl
    unfold sgi
    cases p.1
    · simp only [Bool.false_eq_true, if_false]
      rw [← e1]
      refine ⟨by omega, by omega, fun h => ?_⟩
      rcases h with h | h
      · exact h3 (by omega)
      · exact h4 (by omega)
    · simp only [if_true]
      rw [Int.neg_mul, ← e1]
      refine ⟨by omega, by omega, fun h => ?_⟩
      rcases h with h | h
      · exact h4 (by omega)
      · exact h3 (by omega)
  obtain ⟨q1, q2, q3⟩ := q1
  refine ⟨_, hi, k1.1 q1, k2.1 q2, fun hh => ?_⟩
  have hR : R % 2 = 0 := by
    apply q3
    rcases hh with hh | hh
    · left
      have h5 : ¬ (2 * ((sgi p.1 R) * p.2.2) + 1 ≤ 2 * (sgi p.1 p.2.1) + p.2.2) := by
        intro hlt
        -- then the difference is less than 1/2
        have e := mkRat_mul_den (sgi p.1 p.2.1) cp.1
        have h2 := half_two
        have c := (Rat.intCast_le_intCast (a := 2 * ((sgi p.1 R) * p.2.2) + 1) (b := 2 * (sgi p.1 p.2.1) + p.2.2)).2 hlt
        simp only [Rat.intCast_mul, Rat.intCast_add, Rat.intCast_natCast] at c
        have hh' : ((sgi p.1 R : Int) : Rat) - mkRat (sgi p.1 p.2.1) p.2.2 = mkRat 1 2 := hh
        rw [← e] at c
        generalize mkRat (sgi p.1 p.2.1) p.2.2 = x at *
        generalize mkRat 1 2 = y at *
        have c' : (2 : Rat) * (((sgi p.1 R : Int) : Rat) * (p.2.2 : Rat)) + 1 ≤ 2 * (x * (p.2.2 : Rat)) + (p.2.2 : Rat) := c
        have e3 : ((sgi p.1 R : Int) : Rat) = x + y := by grind
        rw [e3] at c'
        have e4 : y = 1 / 2 := by grind
        subst e4
        have e5 : (2 : Rat) * ((x + 1 / 2) * (p.2.2 : Rat)) = 2 * (x * (p.2.2 : Rat)) + (p.2.2 : Rat) := by grind
        rw [e5] at c'
        grind
      omega
    · right
      have h5 : ¬ (2 * (sgi p.1 p.2.1) + 1 ≤ 2 * ((sgi p.1 R) * p.2.2) + p.2.2) := by
        intro hlt
        have e := mkRat_mul_den (sgi p.1 p.2.1) cp.1
        have h2 := mhalf_two
        have c := (Rat.intCast_le_intCast (a := 2 * (sgi p.1 p.2.1) + 1) (b := 2 * ((sgi p.1 R) * p.2.2) + p.2.2)).2 hlt
        simp only [Rat.intCast_mul, Rat.intCast_add, Rat.intCast_natCast] at c
        have hh' : ((sgi p.1 R : Int) : Rat) - mkRat (sgi p.1 p.2.1) p.2.2 = mkRat (-1) 2 := hh
        rw [← e] at c
        generalize mkRat (sgi p.1 p.2.1) p.2.2 = x at *
        generalize mkRat (-1) 2 = y at *
        have c' : (2 : Rat) * (x * (p.2.2 : Rat)) + 1 ≤ 2 * (((sgi p.1 R : Int) : Rat) * (p.2.2 : Rat)) + (p.2.2 : Rat) := c
        have e3 : ((sgi p.1 R : Int) : Rat) = x + y := by grind
        rw [e3] at c'
        have e4 : y = -1 / 2 := by grind
        subst e4
        have e5 : (2 : Rat) * ((x + -1 / 2) * (p.2.2 : Rat)) = 2 * (x * (p.2.2 : Rat)) - (p.2.2 : Rat) := by grind
        rw [e5] at c'
        grind
      omega
  unfold sgi
  cases p.1
  · simp; omega
  · simp; omega
theorem isV_two : IsV ⟨#[50]⟩ 2 := ⟨(false, 2, 1), rfl, rfl⟩
theorem isV_mone : IsV ⟨#[45, 49]⟩ (-1) := ⟨(true, 1, 1), rfl, rfl⟩
theorem multT_two {r : ByteArray} {R : Int} (hr : IsV r (R : Rat)) (h0 : 0 ≤ R) (he : R % 2 = 0) : (multT r ⟨#[50]⟩).1 = true := by
  obtain ⟨p, hp, h⟩ := hr
  have h2 : readQ [50] = some (false, 2, 1) := rfl
  have c2 : Can (false, 2, 1) := readQ_can h2
  have t2 : toR (false, 2, 1) = 2 := rfl
  obtain ⟨m, rfl⟩ : ∃ m, R = 2 * m := ⟨R / 2, by omega⟩
  have e : multT r ⟨#[50]⟩ = multF p (false, 2, 1) := by
    unfold multT twoG
    rw [hp, show readQ (⟨#[50]⟩ : ByteArray).data.toList = some (false, 2, 1) from h2]
  obtain ⟨d1, d2⟩ := divQ_spec (readQ_can hp) c2 (by decide)
  rw [h, t2] at d2
  have d3 : toR (divQ p (false, 2, 1)) = (m : Rat) := by
    rw [d2, Rat.intCast_mul, Rat.div_def, Rat.mul_comm ((2 : Int) : Rat), Rat.mul_assoc]
    have : ((2 : Int) : Rat) * (2 : Rat)⁻¹ = 1 := Rat.mul_inv_cancel (2 : Rat) (by decide)
    rw [this, Rat.mul_one]
  have d4 := den_int d1 d3
  have d5 : (divQ p (false, 2, 1)).1 = false := by
    cases hs : (divQ p (false, 2, 1)).1
    · rfl
    · exfalso
      have := (toR_neg d1).2 hs
      rw [d3] at this
      have := (Rat.intCast_lt_intCast (a := m) (b := 0)).1 this
      omega
  rw [e]; unfold multF
  rw [if_neg (by decide)]
  show (!(divQ p (false, 2, 1)).1 && decide ((divQ p (false, 2, 1)).2.2 = 1)) = true
  rw [d4, d5]; rfl
theorem neg_isV {r : ByteArray} {R : Int} (hr : IsV r (R : Rat)) : IsV (mulT r ⟨#[45, 49]⟩).1 ((-R : Int) : Rat) := by
  have hr0 := hr
  obtain ⟨p, hp, h⟩ := hr
  have h2 : readQ [45, 49] = some (true, 1, 1) := rfl
  have c2 : Can (true, 1, 1) := readQ_can h2
  have e : mulT r ⟨#[45, 49]⟩ = out3 (mulQ p (true, 1, 1)) := by
    unfold mulT two
    rw [hp, show readQ (⟨#[45, 49]⟩ : ByteArray).data.toList = some (true, 1, 1) from h2]
  obtain ⟨m1, m2⟩ := mulQ_spec (readQ_can hp) c2
  obtain ⟨n1, n2⟩ := negQ_spec (readQ_can hp)
  have t2 : toR (true, 1, 1) = -1 := rfl
  have e2 : mulQ p (true, 1, 1) = negQ p := toR_inj m1 n1 (by rw [m2, n2, t2]; grind)
  have hf : fitQ (negQ p).2.1 (negQ p).2.2 = true := by
    obtain ⟨f1, f2, _⟩ := readQ_q hp
    unfold fitQ; exact decide_eq_true ⟨f1, f2⟩
  have hv := mulT_isV hr0 isV_mone (by rw [e, e2]; unfold out3; rw [outQ_fit hf])
  have e3 : (R : Rat) * -1 = ((-R : Int) : Rat) := by rw [Rat.intCast_neg]; grind
  rwa [e3] at hv
theorem even_two {r : ByteArray} {R : Int} (hr : IsV r (R : Rat)) (he : R % 2 = 0) : ((multT r ⟨#[50]⟩).1 || (multT (mulT r ⟨#[45, 49]⟩).1 ⟨#[50]⟩).1) = true := by
  by_cases h0 : 0 ≤ R
  · rw [multT_two hr h0 he]; rfl
  · rw [multT_two (neg_isV hr) (by omega) (by omega)]; simp
end Go.Proofs.Ytlkdahgfnfdakaa
