import Derived.Test.YtlkdahgfnfdakaaSmp
namespace Go.Proofs.Ytlkdahgfnfdakaa
open Go.RowKit WN LM

/-- how many decimal digits it is written with -/
def Dig (n : Nat) : Nat := max 1 (ofNat 10 n).length
theorem dig_pos (n : Nat) : 1 ≤ Dig n := Nat.le_max_left _ _
theorem lt_dig (n : Nat) : n < 10 ^ Dig n := by
  have h := val_lt (B := 10) (by omega) (ofNat_canon (B := 10) (by omega) n).1
  rw [val_ofNat (by omega)] at h
  exact Nat.lt_of_lt_of_le h (Nat.pow_le_pow_right (by omega) (Nat.le_max_right _ _))
theorem dig_le {n k : Nat} (hk : 1 ≤ k) (h : n < 10 ^ k) : Dig n ≤ k :=
  Nat.max_le.2 ⟨hk, len_le_of_lt (B := 10) (by omega) (ofNat_canon (by omega) n).2 (by rw [val_ofNat (by omega)]; exact h)⟩
theorem dig_eq {n k : Nat} (hk : 1 ≤ k) (h : n < 10 ^ k) (h2 : 10 ^ (k - 1) ≤ n) : Dig n = k := by
  have h1 := dig_le hk h
  have h3 := lt_dig n
  rcases Nat.lt_or_ge (Dig n) k with h4 | h4
  · have : 10 ^ Dig n ≤ 10 ^ (k - 1) := Nat.pow_le_pow_right (by omega) (by omega)
    omega
  · omega
theorem dig_zero : Dig 0 = 1 := by
  have := dig_le (n := 0) (k := 1) (by omega) (by simp)
  have := dig_pos 0
  omega
theorem dig_le_iff {n k : Nat} (hk : 1 ≤ k) : Dig n ≤ k ↔ n < 10 ^ k := by
  refine ⟨fun h => Nat.lt_of_lt_of_le (lt_dig n) (Nat.pow_le_pow_right (by omega) h), dig_le hk⟩
theorem dig_top {l : List Nat} (h : Digs 1000000000 l) (L : Nat) (hL : l.length = L + 1) (k : Nat) (hk : 1 ≤ k) (h1 : l[L]'(by omega) < 10 ^ k) (h2 : 10 ^ (k - 1) ≤ l[L]'(by omega)) : Dig (val 1000000000 l) = L * 9 + k := by
  have e := val_take_drop (B := 1000000000) l L (by omega)
  have e2 := val_drop 1000000000 l L (by omega)
  rw [show l.drop (L + 1) = [] from List.drop_eq_nil_of_le (by omega), val_nil, Nat.mul_zero, Nat.add_zero] at e2
  have h3 := val_lt (B := 1000000000) (by omega) (h.take L)
  rw [List.length_take, Nat.min_eq_left (by omega)] at h3
  generalize l[L]'(by omega) = t at *
  rw [e, e2]
  have ep : (1000000000 : Nat) ^ L = 10 ^ (L * 9) := by rw [Nat.mul_comm, Nat.pow_mul]
  rw [ep] at h3 ⊢
  apply dig_eq (by omega)
  · rw [Nat.pow_add]
    have : 10 ^ (L * 9) * (t + 1) ≤ 10 ^ (L * 9) * 10 ^ k := Nat.mul_le_mul_left _ h1
    rw [Nat.mul_add] at this
    omega
  · rw [show L * 9 + k - 1 = L * 9 + (k - 1) from by omega, Nat.pow_add]
    have : 10 ^ (L * 9) * 10 ^ (k - 1) ≤ 10 ^ (L * 9) * t := Nat.mul_le_mul_left _ h2
    omega

set_option maxHeartbeats 1000000 in
set_option maxRecDepth 100000 in
theorem digits_num {w : World} {va : Value} {a : Nat} (ha : Num w va a) (la : Len a ≤ 10000000000) : Calls Try.prog 127 #[va] w fun e w' => e = .returned (.int .i64 (Dig a : Nat)) ∧ w = w' := by
  obtain ⟨oa, ca, l, rfl, hr, hc, hv, hll⟩ := ha.open
  clear ha
  rcases Nat.eq_zero_or_pos (Len a) with h0 | h0
  · have hz : Hid (Dig a = 1) := by
      show _ = _
      have : l = [] := List.length_eq_zero_iff.1 (hll.trans h0)
      subst this
      rw [← hv, val_nil, dig_zero]
    have hl0 : (((Len a : Nat) : Int) == 0) = true := by rw [h0]; rfl
    clear hr hc hv hll h0
    go_enter Try.func127, Try.ntmps127
    go_wp2
    go_ret
    exact ⟨by rw [hz.out]; rfl, rfl⟩
  · have hl0 : (((Len a : Nat) : Int) == 0) = false := by rw [beq_eq_false_iff_ne]; omega
    obtain ⟨b, off, rfl, _, hcell⟩ := hr.at' (Below.refl _ _) (Len a - 1) (by omega)
    have ht9 := hc.1.get (Len a - 1) (by omega)
    have ht0 : l[Len a - 1]'(by omega) ≠ 0 := by
      have h := top_ne hc.2 (by omega)
      have e : l.length - 1 = Len a - 1 := by rw [hll]
      rw [e, List.getElem?_eq_getElem (by omega)] at h
      exact h
    have hD : ∀ k, 1 ≤ k → l[Len a - 1]'(by omega) < 10 ^ k → 10 ^ (k - 1) ≤ l[Len a - 1]'(by omega) → Dig a = (Len a - 1) * 9 + k := fun k h1 h2 h3 => by
      have := dig_top hc.1 (Len a - 1) (by omega) k h1 h2 h3; rw [hv] at this; exact this
    generalize l[Len a - 1]'_ = t at *
    have HD := Lib.hid hD; clear hD
    have Ht0 := Lib.hid ht0; clear ht0
    clear hr hc hv hll
    have hidx : ((Len a : Nat) : Int) - 1 = ((Len a - 1 : Nat) : Int) := by omega
    go_enter Try.func127, Try.ntmps127
    go_wp2
    go_loop [3, 4] (fun v3 v4 => ∃ k : Nat, k ≤ 9 ∧ v3 = .int .i64 (((Len a - 1) * 9 + k : Nat) : Int) ∧ v4 = .int .u32 (t / 10 ^ k : Nat) ∧ Hid (k = 0 ∨ 10 ^ (k - 1) ≤ t)) (fun _ v4 => (intOf v4).toNat)
    case atStart => exact ⟨0, by omega, by congr 1, by simp, .inl rfl⟩
    case round =>
      obtain ⟨k, hk, rfl, rfl, hkt⟩ := hrel
      by_cases h : t / 10 ^ k = 0
      · have hlt : t < 10 ^ k := by
          rcases Nat.lt_or_ge t (10 ^ k) with h' | h'
          · exact h'
          · have := Nat.div_pos h' (Nat.pow_pos (by omega)); omega
        have hk1 : k ≠ 0 := by
          intro h0; subst h0; rw [Nat.pow_zero] at hlt; have := Ht0.out; omega
        have He := Lib.hid (HD.out k (by omega) hlt (hkt.out.resolve_left hk1))
        clear hlt hk1
        rw [h]
        clear h
        go_wp2
        go_ret
        exact ⟨by rw [He.out, Int.natCast_add, Int.natCast_mul]; rfl, rfl⟩
      · have hlt : 10 ^ k ≤ t := by
          rcases Nat.lt_or_ge t (10 ^ k) with h' | h'
          · rw [Nat.div_eq_of_lt h'] at h; omega
          · exact h'
        have hk9 : k < 9 := by
          rcases Nat.lt_or_ge k 9 with h' | h'
          · exact h'
          · have : 10 ^ 9 ≤ 10 ^ k := Nat.pow_le_pow_right (by omega) h'
            omega
        have hnx : Hid (t / 10 ^ k / 10 = t / 10 ^ (k + 1)) := by show _ = _; rw [Nat.div_div_eq_div_mul, Nat.pow_succ]
        have hn9 : t / 10 ^ k ≤ t := Nat.div_le_self _ _
        have Hlt := Lib.hid hlt; clear hlt
        have hpos : 0 < t / 10 ^ k := Nat.pos_of_ne_zero h
        generalize hz : t / 10 ^ k = z at *
        have Hz := Lib.hid hz; clear hz h
        have hq : IntKind.u32.wrap ((z : Int).tdiv 10) = ((z / 10 : Nat) : Int) := by rw [IntWalk.u32_quo _ _ ⟨by omega, by omega, by omega⟩, Int.natCast_ediv]; rfl
        go_wp2
        go_round
        case rel => exact ⟨k + 1, by omega, by congr 1, by rw [← hnx.out, Int.natCast_ediv]; rfl, .inr (by rw [Nat.add_sub_cancel]; exact Hlt.out)⟩
        case measure => simp [intOf]; omega

/-- a power, or a number that has too many digits where the power has too many, too -/
def PowOut (w : World) (a n : Nat) (e : Ending) (w' : World) : Prop :=
  ∃ v m, e = .returned v ∧ Num w' v m ∧ Below w.heap.size w w' ∧ (m = a ^ n ∨ (300 < Dig m ∧ 300 < Dig (a ^ n))) ∧ Len m ≤ 34 + Len a

theorem dig_mono {n m : Nat} (h : n ≤ m) : Dig n ≤ Dig m := dig_le (dig_pos m) (Nat.lt_of_le_of_lt h (lt_dig m))
theorem len_dig_of {n k : Nat} (h : Dig n ≤ 300) (hk : 300 ≤ 9 * k) : Len n ≤ k := by
  apply len_lt
  refine Nat.lt_of_lt_of_le (lt_dig n) ?_
  rw [show (1000000000 : Nat) = 10 ^ 9 from rfl, ← Nat.pow_mul]
  exact Nat.pow_le_pow_right (by omega) (by omega)
theorem len_dig {n : Nat} (h : Dig n ≤ 300) : Len n ≤ 34 := len_dig_of h (by omega)

set_option maxHeartbeats 1000000 in
set_option maxRecDepth 100000 in
theorem power_num {w : World} {va : Value} {a : Nat} (ha : Num w va a) (la : Len a ≤ 1000000000) (n : Nat) (hn : n ≤ 1000000000) : Calls Try.prog 120 #[va, .int .i64 (n : Nat)] w (PowOut w a n) := by
  have Ha := Lib.hid ha
  clear ha
  have l1 := len_small (show 1 < 1000000000 by omega)
  go_enter Try.func120, Try.ntmps120
  go_wp2_with fail
  refine (one_num _).mono ?_; rintro e w1 ⟨v1, rfl, hv1, hb1⟩
  have Hv1 := Lib.hid hv1; clear hv1
  go_wp2_with fail
  go_loopw [5, 6] (fun v5 v6 wr => ∃ i : Nat, i ≤ n ∧ v6 = .int .i64 (i : Nat) ∧ Hid (Num wr v5 (a ^ i)) ∧ Len (a ^ i) ≤ 34 + Len a ∧ Below w.heap.size w wr) (fun _ v6 _ => n - (intOf v6).toNat)
  case atStart => exact ⟨0, Nat.zero_le _, rfl, by rw [Nat.pow_zero]; exact Hv1.out, by rw [Nat.pow_zero]; omega, hb1⟩
  case round =>
    clear Hv1 hb1
    obtain ⟨i, hi, rfl, Hp, hl, hb⟩ := hrel
    by_cases h : i < n
    · by_cases hd : Dig (a ^ i) ≤ 300
      · have hdd : decide (((Dig (a ^ i) : Nat) : Int) ≤ 300) = true := by simp; omega
        have hl2 := len_dig hd
        have hl3 := len_mul (a ^ i) a
        have Hd := Lib.hid hd; clear hd
        generalize hy : a ^ i = y at *
        have Hy := Lib.hid hy; clear hy
        go_wp2_with fail
        refine (digits_num Hp.out (by omega)).mono ?_; rintro e w2 ⟨rfl, rfl⟩
        go_wp2_with fail
        refine (times_num Hp.out (Ha.out.below hb (Nat.le_refl _)) (by omega) (by omega)).mono ?_; rintro e w2 ⟨v2, rfl, hv2, hb2⟩
        go_wp2_with fail
        go_roundw
        case rel => exact ⟨i + 1, h, rfl, by show Num _ _ _; rw [Nat.pow_succ, Hy.out]; exact hv2, by rw [Nat.pow_succ, Hy.out]; omega, hb.trans (hb2.mono hb.size)⟩
        case measure => simp [intOf]; omega
      · have hdd : decide (((Dig (a ^ i) : Nat) : Int) ≤ 300) = false := by simp; omega
        have ha0 : 0 < a := by
          rcases Nat.eq_zero_or_pos a with h0 | h0
          · subst h0
            rcases Nat.eq_zero_or_pos i with h1 | h1
            · subst h1
              have := dig_le (n := 0 ^ 0) (k := 1) (by omega) (by simp)
              omega
            · rw [Nat.zero_pow h1, dig_zero] at hd; omega
          · exact h0
        have hbig : 300 < Dig (a ^ n) := Nat.lt_of_lt_of_le (by omega) (dig_mono (Nat.pow_le_pow_right ha0 hi))
        have Hd := Lib.hid hd; clear hd
        have Hbig := Lib.hid hbig; clear hbig
        generalize a ^ i = y at *
        go_wp2_with fail
        refine (digits_num Hp.out (by omega)).mono ?_; rintro e w2 ⟨rfl, rfl⟩
        go_wp2_with fail
        go_ret
        exact ⟨_, y, rfl, Hp.out, hb, .inr ⟨by have := Hd.out; omega, Hbig.out⟩, hl⟩
    · obtain rfl : i = n := by omega
      go_wp2_with fail
      go_ret
      exact ⟨_, _, rfl, Hp.out, hb, .inl rfl, hl⟩
end Go.Proofs.Ytlkdahgfnfdakaa
