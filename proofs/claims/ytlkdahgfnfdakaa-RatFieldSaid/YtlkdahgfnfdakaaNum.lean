/- Numbers in memory, and what the functions of words do with them. -/
import Derived.Test.YtlkdahgfnfdakaaDivW
import Derived.Test.YtlkdahgfnfdakaaCmp
namespace Go.Proofs.Ytlkdahgfnfdakaa
open Go.RowKit Go.Shelf WN

/-- how many words a number has -/
def Len (n : Nat) : Nat := (ofNat 1000000000 n).length

/-- v is a slice of words that holds the number n -/
def Num (w : World) (v : Value) (n : Nat) : Prop := ∃ l, Rep w .u32 v l ∧ Canon 1000000000 l ∧ val 1000000000 l = n

theorem Num.len {w : World} {l : List Nat} {n : Nat} (h : Canon 1000000000 l) (hv : val 1000000000 l = n) : l.length = Len n := by
  unfold Len; rw [ofNat_unique (by omega) h hv]
theorem Num.below {w w' : World} {v : Value} {n : Nat} (h : Num w v n) {B : Nat} (hb : Below B w w') (hB : w.heap.size ≤ B) : Num w' v n := by
  obtain ⟨l, h1, h2⟩ := h; exact ⟨l, h1.below hb hB, h2⟩
theorem Num.nil (w : World) : Num w (.slice none 0 0) 0 := ⟨[], Rep.nil w _, ⟨Digs.nil _, Top.nil⟩, rfl⟩

theorem len_lt {n k : Nat} (h : n < 1000000000 ^ k) : Len n ≤ k := len_le_of_lt (B := 1000000000) (by omega) (ofNat_canon (by omega) n).2 (by rw [val_ofNat (by omega)]; exact h)
theorem lt_len (n : Nat) : n < 1000000000 ^ Len n := by
  have := val_lt (B := 1000000000) (by omega) (ofNat_canon (B := 1000000000) (by omega) n).1
  rwa [val_ofNat (by omega)] at this
theorem len_mono {n m : Nat} (h : n ≤ m) : Len n ≤ Len m := len_lt (Nat.lt_of_le_of_lt h (lt_len m))
theorem len_add (n m : Nat) : Len (n + m) ≤ max (Len n) (Len m) + 1 := by
  apply len_lt
  have h1 := lt_len n
  have h2 := lt_len m
  have h3 : 1000000000 ^ Len n ≤ 1000000000 ^ max (Len n) (Len m) := Nat.pow_le_pow_right (by omega) (Nat.le_max_left _ _)
  have h4 : 1000000000 ^ Len m ≤ 1000000000 ^ max (Len n) (Len m) := Nat.pow_le_pow_right (by omega) (Nat.le_max_right _ _)
  rw [Nat.pow_succ]
  omega
theorem len_mul (n m : Nat) : Len (n * m) ≤ Len n + Len m := by
  apply len_lt
  rw [Nat.pow_add]
  rcases Nat.eq_zero_or_pos m with h | h
  · subst h; rw [Nat.mul_zero]; exact Nat.mul_pos (Nat.pow_pos (by omega)) (Nat.pow_pos (by omega))
  · exact Nat.lt_of_lt_of_le (Nat.mul_lt_mul_of_pos_right (lt_len n) h) (Nat.mul_le_mul_left _ (Nat.le_of_lt (lt_len m)))
theorem len_zero : Len 0 = 0 := by unfold Len; rfl
theorem len_small {n : Nat} (h : n < 1000000000) : Len n ≤ 1 := len_lt (by rw [Nat.pow_one]; exact h)
theorem len_le_of_len {n m : Nat} (h : Len n < Len m) : n < m := by
  rcases Nat.lt_or_ge n m with h' | h'
  · exact h'
  · have := len_mono h'; omega

def Ret1 (w : World) (n : Nat) (e : Ending) (w' : World) : Prop := ∃ v, e = .returned v ∧ Num w' v n ∧ Below w.heap.size w w'
def Ret2 (w : World) (n m : Nat) (e : Ending) (w' : World) : Prop := ∃ v1 v2, e = .returned (.tuple #[v1, v2]) ∧ Num w' v1 n ∧ Num w' v2 m ∧ Below w.heap.size w w'

theorem plus_num {w : World} {va vb : Value} {a b : Nat} (ha : Num w va a) (hb : Num w vb b) (la : Len a ≤ 10000000000) (lb : Len b ≤ 10000000000) : Calls Try.prog 116 #[va, vb] w (Ret1 w (a + b)) := by
  obtain ⟨l, ra, ca, hva⟩ := ha
  obtain ⟨m, rb, cb, hvb⟩ := hb
  have e1 := Num.len (w := w) ca hva
  have e2 := Num.len (w := w) cb hvb
  by_cases h : m.length ≤ l.length
  · refine (plus_core l m h (by omega) ca.1 cb.1 va vb w ra rb _ (.inl rfl)).mono ?_
    rintro e w' ⟨v, s, rfl, hr, hd, ht, hv, hb⟩
    exact ⟨v, rfl, ⟨s, hr, ⟨hd, ht ca.2⟩, by rw [hv, hva, hvb]⟩, hb⟩
  · refine (plus_core m l (by omega) (by omega) cb.1 ca.1 vb va w rb ra _ (.inr ⟨rfl, by omega⟩)).mono ?_
    rintro e w' ⟨v, s, rfl, hr, hd, ht, hv, hb⟩
    exact ⟨v, rfl, ⟨s, hr, ⟨hd, ht cb.2⟩, by rw [hv, hva, hvb, Nat.add_comm]⟩, hb⟩

theorem minus_num {w : World} {va vb : Value} {a b : Nat} (ha : Num w va a) (hb : Num w vb b) (la : Len a ≤ 10000000000) (hle : b ≤ a) : Calls Try.prog 133 #[va, vb] w (Ret1 w (a - b)) := by
  obtain ⟨l, ra, ca, hva⟩ := ha
  obtain ⟨m, rb, cb, hvb⟩ := hb
  have e1 := Num.len (w := w) ca hva
  have e2 := Num.len (w := w) cb hvb
  have e3 := len_mono hle
  refine (minus_core l m (by omega) (by omega) ca.1 cb.1 (by omega) va vb w ra rb).mono ?_
  rintro e w' ⟨v, s, rfl, hr, hc, hv, hb⟩
  exact ⟨v, rfl, ⟨s, hr, hc, by omega⟩, hb⟩

theorem times_num {w : World} {va vb : Value} {a b : Nat} (ha : Num w va a) (hb : Num w vb b) (la : Len a ≤ 10000000000) (lb : Len b ≤ 10000000000) : Calls Try.prog 108 #[va, vb] w (Ret1 w (a * b)) := by
  obtain ⟨l, ra, ca, hva⟩ := ha
  obtain ⟨m, rb, cb, hvb⟩ := hb
  have e1 := Num.len (w := w) ca hva
  have e2 := Num.len (w := w) cb hvb
  refine (times_core l m (by omega) (by omega) ca cb va vb w ra rb).mono ?_
  rintro e w' ⟨v, s, rfl, hr, hc, hv, hb⟩
  exact ⟨v, rfl, ⟨s, hr, hc, by rw [hv, hva, hvb]⟩, hb⟩

theorem compare_num {w : World} {va vb : Value} {a b : Nat} (ha : Num w va a) (hb : Num w vb b) (la : Len a ≤ 10000000000) (lb : Len b ≤ 10000000000) :
    Calls Try.prog 118 #[va, vb] w fun e w' => e = .returned (.int .i64 (cmpN a b)) ∧ Below w.heap.size w w' := by
  obtain ⟨l, ra, ca, hva⟩ := ha
  obtain ⟨m, rb, cb, hvb⟩ := hb
  have e1 := Num.len (w := w) ca hva
  have e2 := Num.len (w := w) cb hvb
  obtain ⟨oa, cpa, rfl, _⟩ := id ra
  obtain ⟨ob, cpb, rfl, _⟩ := id rb
  refine (compare_any oa ob l m _ cpa _ cpb (by omega) (by omega) ca cb w ra rb).mono ?_
  rintro e w' ⟨rfl, hb⟩
  exact ⟨by rw [hva, hvb], hb⟩

theorem canon_one {l : List Nat} (h : Canon 1000000000 l) : l = [1] ↔ val 1000000000 l = 1 := by
  constructor
  · rintro rfl; rfl
  · intro hv
    exact canon_unique h ⟨Digs.cons (by omega) (Digs.nil _), by simp [Top]⟩ (by rw [hv]; rfl)
theorem canon_zero {l : List Nat} (h : Canon 1000000000 l) : l = [] ↔ val 1000000000 l = 0 := (val_eq_zero (by omega) h.2).symm

theorem isOne_num {w : World} {va : Value} {a : Nat} (ha : Num w va a) (la : Len a ≤ 10000000000) : Calls Try.prog 96 #[va] w fun e w' => e = .returned (.bool (decide (a = 1))) ∧ w = w' := by
  obtain ⟨l, ra, ca, hva⟩ := ha
  have e1 := Num.len (w := w) ca hva
  obtain ⟨oa, cpa, rfl, _⟩ := id ra
  refine (isOne_any l _ cpa oa w (by omega) ra).mono ?_
  rintro e w' ⟨rfl, rfl⟩
  exact ⟨by rw [← hva, decide_eq_decide.2 (canon_one ca)], rfl⟩
theorem isZero_num {w : World} {va : Value} {a : Nat} (ha : Num w va a) (la : Len a ≤ 10000000000) : Calls Try.prog 98 #[va] w fun e w' => e = .returned (.bool (decide (a = 0))) ∧ w = w' := by
  obtain ⟨l, ra, ca, hva⟩ := ha
  have e1 := Num.len (w := w) ca hva
  obtain ⟨oa, cpa, rfl, _⟩ := id ra
  refine (isZero_any l _ cpa oa w (by omega) ra).mono ?_
  rintro e w' ⟨rfl, rfl⟩
  exact ⟨by rw [← hva, decide_eq_decide.2 (canon_zero ca)], rfl⟩
theorem isOdd_num {w : World} {va : Value} {a : Nat} (ha : Num w va a) (la : Len a ≤ 10000000000) : Calls Try.prog 119 #[va] w fun e w' => e = .returned (.bool (decide (a % 2 = 1))) ∧ w = w' := by
  obtain ⟨l, ra, ca, hva⟩ := ha
  have e1 := Num.len (w := w) ca hva
  obtain ⟨oa, cpa, rfl, _⟩ := id ra
  refine (isOdd_any l _ cpa oa w (by omega) ra).mono ?_
  rintro e w' ⟨rfl, rfl⟩
  exact ⟨by rw [hva], rfl⟩
theorem one_num (w : World) : Calls Try.prog 99 #[] w (Ret1 w 1) := by
  refine (one_any w).mono ?_
  rintro e w' ⟨v, rfl, hr, hb⟩
  exact ⟨v, rfl, ⟨[1], hr, ⟨Digs.cons (by omega) (Digs.nil _), by simp [Top]⟩, rfl⟩, hb⟩
theorem overWord_num {w : World} {va : Value} {a b : Nat} (ha : Num w va a) (la : Len a ≤ 10000000000) (hb0 : 0 < b) (hb9 : b < 1000000000) :
    Calls Try.prog 131 #[va, .int .u32 (b : Nat)] w fun e w' => ∃ v, e = .returned (.tuple #[v, .int .u32 (a % b : Nat)]) ∧ Num w' v (a / b) ∧ Below w.heap.size w w' := by
  obtain ⟨l, ra, ca, hva⟩ := ha
  have e1 := Num.len (w := w) ca hva
  obtain ⟨oa, cpa, rfl, _⟩ := id ra
  refine (overWord_any oa l _ cpa b (by omega) hb0 hb9 ca.1 w ra).mono ?_
  rintro e w' ⟨v, q, rfl, hr, hc, hv, hb⟩
  exact ⟨v, by rw [hva], ⟨q, hr, hc, by rw [hv, hva]⟩, hb⟩
theorem divideLong_num {w : World} {va vb : Value} {a b : Nat} (ha : Num w va a) (hb : Num w vb b) (la : Len a ≤ 10000000000) (hb2 : 2 ≤ Len b) (hle : b ≤ a) : Calls Try.prog 132 #[va, vb] w (Ret2 w (a / b) (a % b)) := by
  obtain ⟨l, ra, ca, hva⟩ := ha
  obtain ⟨m, rb, cb, hvb⟩ := hb
  have e1 := Num.len (w := w) ca hva
  have e2 := Num.len (w := w) cb hvb
  have e3 := len_mono hle
  obtain ⟨oa, cpa, rfl, _⟩ := id ra
  obtain ⟨ob, cpb, rfl, _⟩ := id rb
  refine (divideLong_core l m oa ob _ cpa _ cpb (by omega) (by omega) (by omega) ca.1 cb w ra rb).mono ?_
  rintro e w' ⟨vq, vr, q, r, rfl, hr1, hc1, hv1, hr2, hc2, hv2, hb⟩
  exact ⟨vq, vr, rfl, ⟨q, hr1, hc1, by rw [hv1, hva, hvb]⟩, ⟨r, hr2, hc2, by rw [hv2, hva, hvb]⟩, hb⟩
theorem toUint_num {w : World} {va : Value} {a : Nat} (ha : Num w va a) (la : Len a ≤ 2) : Calls Try.prog 126 #[va] w fun e w' => e = .returned (.int .u64 (a : Nat)) ∧ Below w.heap.size w w' := by
  obtain ⟨l, ra, ca, hva⟩ := ha
  have e1 := Num.len (w := w) ca hva
  obtain ⟨oa, cpa, rfl, _⟩ := id ra
  refine (toUint_any oa l _ cpa (by omega) ca.1 w ra).mono ?_
  rintro e w' ⟨rfl, hb⟩
  exact ⟨by rw [hva], hb⟩

/-- fromUint, at the head of a round: what has been collected, and what is left -/
def FromInv (n : Nat) (w wr : World) (v : Value) (m : Nat) : Prop :=
  ∃ l, wr.ownsRow w.heap.size 117 1 v l.length (nl .u32 l) ∧ Digs 1000000000 l ∧ n = val 1000000000 l + 1000000000 ^ l.length * m ∧ (m = 0 → Top l) ∧ l.length ≤ 20 ∧ Below w.heap.size w wr

set_option maxHeartbeats 1000000 in
set_option maxRecDepth 100000 in
theorem fromUint_num (n : Nat) (hn : n < 18446744073709551616) (w : World) : Calls Try.prog 106 #[.int .u64 (n : Nat)] w (Ret1 w n) := by
  have hn0 : (n : Int) ≤ 18446744073709551615 := by omega
  have Hn := Lib.hid hn0; clear hn0
  clear hn
  go_enter Try.func106, Try.ntmps106
  go_wp2
  obtain ⟨i0, hi, hz0, hz1, hz2⟩ := info_parts Try.info117
  go_loopw [3, 0] (fun v vm wr => ∃ m : Nat, vm = .int .u64 m ∧ (m : Int) ≤ 18446744073709551615 ∧ FromInv n w wr v m) (fun _ vm _ => (intOf vm).toNat)
  case atStart => exact ⟨n, rfl, Hn.out, [], World.ownsRow_nil _ _ _ _, Digs.nil _, by simp, fun _ => Top.nil, by simp, Below.refl _ _⟩
  case round =>
    obtain ⟨m, rfl, hm, hinv⟩ := hrel
    have Inv := Lib.hid hinv
    by_cases h0 : 0 < m
    · obtain ⟨l, hown, hd, he, ht, hl, hb⟩ := hinv
      have HE := Lib.hid he; clear he
      have HT := Lib.hid ht; clear ht
      have hl2 : l.length ≤ 3 := by
        have h1 : 1000000000 ^ l.length * 1 ≤ 1000000000 ^ l.length * m := Nat.mul_le_mul_left _ h0
        have h2 := HE.out
        have h3 : n < 1000000000 ^ 3 := by have := Hn.out; omega
        have h4 : 1000000000 ^ l.length < 1000000000 ^ 3 := by omega
        have := (Nat.pow_lt_pow_iff_right (by omega : 1 < 1000000000)).1 h4
        omega
      have Hm := Lib.hid hm; clear hm
      have hrem : IntKind.u32.wrap ((m : Int) % 1000000000) = (m : Int) % 1000000000 := IntWalk.u32_in _ ⟨by omega, by omega⟩
      have hquo : IntKind.u64.wrap ((m : Int).tdiv 1000000000) = (m : Int) / 1000000000 := IntWalk.u64_quo _ _ ⟨by omega, Hm.out, by omega⟩
      go_wp2_with (at_builtin; refine wpList_append_own _ rfl (.tmp 6) (.tmp 10) 53 rfl w.heap.size 117 i0 (.int .u32 0) 1 4 Try.underlying53 hi hz0 hz1 hz2 rfl (by decide) _ l.length _ rfl (hown.alloc _) ⟨wr.heap.size, 0, none⟩ 1 1 (nl .u32 [m % 1000000000]) rfl rfl (by have := one_cell wr (m % 1000000000) 117; rwa [Int.natCast_emod] at this) (by intro u hu; simp [nl] at hu; subst hu; rfl) (by unfold maxLen; omega) (by omega) (by have := hb.size; simp; omega) ?_; intro v' w1 hown1 hgrow1 _)
      have hmw : IntKind.u64.wrap ((m : Int) / 1000000000) = ((m / 1000000000 : Nat) : Int) := by
        rw [Int.natCast_ediv]; exact IntWalk.u64_in _ ⟨by omega, by have := Hm.out; omega⟩
      rw [hmw]
      go_roundw
      case rel =>
        refine ⟨m / 1000000000, rfl, by have := Hm.out; omega, l ++ [m % 1000000000], ?_, hd.snoc (Nat.mod_lt _ (by omega)), ?_, ?_, by simp; omega, (hb.alloc hb.size _).grown hgrow1 (by simp; have := hb.size; omega) (fun k hk => (hown.lt k hk).1)⟩
        · rw [List.length_append, nl_append]; exact hown1
        · rw [val_snoc, List.length_append, List.length_singleton, Nat.pow_succ, HE.out]
          have := Nat.mod_add_div m 1000000000
          rw [Nat.add_assoc, Nat.mul_assoc, ← Nat.mul_add, this]
        · intro h
          refine top_snoc ?_
          omega
      case measure => simp [intOf]; omega
    · obtain rfl : m = 0 := by omega
      clear hinv
      go_wp2
      go_ret
      obtain ⟨l, hown, hd, he, ht, hl, hb⟩ := Inv.out
      exact ⟨_, rfl, ⟨l, Rep.own hown, ⟨hd, ht rfl⟩, by omega⟩, hb⟩
end Go.Proofs.Ytlkdahgfnfdakaa
