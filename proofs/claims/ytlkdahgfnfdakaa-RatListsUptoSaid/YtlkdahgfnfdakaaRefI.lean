/- The reference's mulDigit, top. -/
import Derived.Test.YtlkdahgfnfdakaaRefH
namespace Go.Proofs.Ytlkdahgfnfdakaa
open Go Go.RowKit Go.Shelf WN LM

theorem rlen_lt {n k : Nat} (h : n < 10000 ^ k) : RLen n ≤ k := len_le_of_lt (B := 10000) (by omega) (ofNat_canon (by omega) n).2 (by rw [val_ofNat (by omega)]; exact h)
theorem lt_rlen (n : Nat) : n < 10000 ^ RLen n := by
  have h := val_lt (B := 10000) (by omega) (ofNat_canon (B := 10000) (by omega) n).1
  rwa [val_ofNat (by omega)] at h
theorem rlen_mono {n m : Nat} (h : n ≤ m) : RLen n ≤ RLen m := rlen_lt (Nat.lt_of_le_of_lt h (lt_rlen m))
theorem rlen_mul (n m : Nat) : RLen (n * m) ≤ RLen n + RLen m := by
  refine rlen_lt ?_
  rw [Nat.pow_add]
  rcases Nat.eq_zero_or_pos m with h | h
  · subst h; rw [Nat.mul_zero]; exact Nat.mul_pos (Nat.pow_pos (by omega)) (Nat.pow_pos (by omega))
  · exact Nat.mul_lt_mul_of_lt_of_le (lt_rlen n) (Nat.le_of_lt (lt_rlen m)) (Nat.pow_pos (by omega))
theorem rlen_add (n m : Nat) : RLen (n + m) ≤ max (RLen n) (RLen m) + 1 := by
  refine rlen_lt ?_
  rw [Nat.pow_succ]
  have h1 := lt_rlen n
  have h2 := lt_rlen m
  have h3 : 10000 ^ RLen n ≤ 10000 ^ max (RLen n) (RLen m) := Nat.pow_le_pow_right (by omega) (by omega)
  have h4 : 10000 ^ RLen m ≤ 10000 ^ max (RLen n) (RLen m) := Nat.pow_le_pow_right (by omega) (by omega)
  omega
theorem rlen_small {n : Nat} (h : n < 10000) : RLen n ≤ 1 := rlen_lt (by rw [Nat.pow_one]; exact h)
theorem rlen_word {n : Nat} (h : n < 18446744073709551616) : RLen n ≤ 5 := rlen_lt (by
  have h9 : (10000 : Nat) ^ 5 = 100000000000000000000 := by decide
  rw [h9]; omega)
theorem rlen_pos {n : Nat} (h : 0 < n) : 0 < RLen n := by
  rcases Nat.eq_zero_or_pos (RLen n) with h0 | h0
  · have := lt_rlen n; rw [h0] at this; simp at this; omega
  · exact h0
theorem rlen_zero : RLen 0 = 0 := by unfold RLen; rfl
theorem rlen_le {n : Nat} (h : 0 < n) : 10000 ^ (RLen n - 1) ≤ n := by
  have hc := ofNat_canon (B := 10000) (by omega) n
  have := pow_le_val (B := 10000) hc.2 (by intro e; have := rlen_pos h; unfold RLen at this; rw [e] at this; simp at this)
  rwa [val_ofNat (by omega)] at this
theorem RNum.open {w : World} {v : Value} {n : Nat} (h : RNum w v n) : ∃ oa cap l, v = .slice oa (RLen n) cap ∧ Rep w .i64 (.slice oa (RLen n) cap) l ∧ Canon 10000 l ∧ val 10000 l = n ∧ l.length = RLen n := by
  obtain ⟨l, hr, hc, hv⟩ := h
  have hl := rlen_eq hc hv
  obtain ⟨oa, cap, rfl, h1, h2⟩ := id hr
  rw [hl] at hr ⊢
  exact ⟨oa, cap, l, rfl, hr, hc, hv, hl⟩
theorem RNum.shape {w : World} {v : Value} {n : Nat} (h : RNum w v n) : ∃ oa cap, v = .slice oa (RLen n) cap := by
  obtain ⟨oa, cap, l, h, _⟩ := h.open
  exact ⟨oa, cap, h⟩
theorem RNum.nil (w : World) : RNum w (.slice none 0 0) 0 := ⟨[], Rep.nil w _, ⟨Digs.nil _, Top.nil⟩, rfl⟩
theorem val_drop_div {l : List Nat} (h : Digs 10000 l) (f : Nat) : val 10000 (l.drop f) = val 10000 l / 10000 ^ f := by
  rcases Nat.lt_or_ge l.length f with hf | hf
  · rw [List.drop_of_length_le (by omega), val_nil]
    have h1 := val_lt (B := 10000) (by omega) h
    have h2 : 10000 ^ l.length ≤ 10000 ^ f := Nat.pow_le_pow_right (by omega) (by omega)
    rw [Nat.div_eq_of_lt (by omega)]
  · rw [val_take_drop _ l f hf, Nat.add_mul_div_left _ _ (Nat.pow_pos (by omega))]
    have h1 := val_lt (B := 10000) (by omega) (h.take f)
    rw [List.length_take, Nat.min_eq_left hf] at h1
    rw [Nat.div_eq_of_lt h1, Nat.zero_add]

set_option maxHeartbeats 2000000 in
set_option maxRecDepth 100000 in
theorem rmuld_any {va : Value} {n d : Nat} {w : World} (ha : RNum w va n) (ln : RLen n ≤ 1000000) (hd : d < 9223372036854775808) : Calls Try.prog 135 #[va, .int .i64 (d : Nat)] w (RRet w (n * d)) := by
  have NO : Hid (∀ w, Calls Try.prog 58 #[.int .u64 (d : Nat)] w (RRet w d)) := fun w => natOf_any d (by omega) w
  have MU : Hid (∀ w' v', Below w.heap.size w w' → RNum w' v' d → Calls Try.prog 85 #[va, v'] w' (RRet w' (n * d))) := fun w' v' hb hv => rmul_any (ha.go hb) hv ln (Nat.le_trans (rlen_word (by omega)) (by omega))
  have e1 : IntKind.u64.wrap ((d : Nat) : Int) = (d : Int) := IntWalk.u64_in _ ⟨by omega, by omega⟩
  obtain ⟨oa, cap, rfl⟩ := ha.shape
  clear ha
  have HD := Lib.hid hd; clear hd
  go_enter Try.func135, Try.ntmps135
  go_wp2_with fail
  refine (NO.out _).mono ?_; rintro e w1 ⟨v1, rfl, hv1, hb1⟩
  have HV1 := Lib.hid hv1; have HB1 := Lib.hid hb1; clear hv1 hb1
  go_wp2_with fail
  refine (MU.out _ _ HB1.out HV1.out).mono ?_; rintro e w2 ⟨v2, rfl, hv2, hb2⟩
  have HV2 := Lib.hid hv2; have HB2 := Lib.hid hb2; clear hv2 hb2
  go_wp2_with fail
  go_ret
  exact ⟨_, rfl, HV2.out, bstep HB1.out HB2.out⟩

set_option maxHeartbeats 2000000 in
set_option maxRecDepth 100000 in
theorem rtop_any {va : Value} {n f : Nat} {w : World} (ha : RNum w va n) (ln : RLen n ≤ 1000000) (hf : f ≤ 1000000) (hv : n / 10000 ^ f < 1000000000000) :
    Calls Try.prog 134 #[va, .int .i64 (f : Nat)] w fun e w' => e = .returned (.int .i64 ((n / 10000 ^ f : Nat) : Int)) ∧ w' = w := by
  obtain ⟨oa, cap, la, rfl, ra, ca, rfl, hl⟩ := ha.open
  clear ha
  rw [← val_drop_div ca.1] at hv ⊢
  obtain ⟨N, hN⟩ : ∃ N, RLen (val 10000 la) = N := ⟨_, rfl⟩
  rw [hN] at ra hl ln ⊢
  have RA := Lib.hid ra; have CA := Lib.hid ca; have HL := Lib.hid hl; have HV := Lib.hid hv; have LN := Lib.hid ln; have HF := Lib.hid hf
  clear ra ca hl hv hN
  have hw0 : wrap64 ((N : Int) - 1) = (N : Int) - 1 := by unfold wrap64; omega
  go_enter Try.func134, Try.ntmps134
  clear ln
  go_wp2_with fail
  go_loopw [5, 6] (fun v5 v6 wr => ∃ j : Nat, j ≤ N ∧ v5 = .int .i64 ((val 10000 (la.drop j) : Nat) : Int) ∧ v6 = .int .i64 ((j : Int) - 1) ∧ Hid (f ≤ j ∨ j = N) ∧ wr = w) (fun _ v6 _ => (intOf v6 + 1).toNat)
  case atStart => exact ⟨N, Nat.le_refl _, by rw [List.drop_of_length_le (by have := HL.out; omega)]; rfl, by rw [hw0], Or.inr rfl, rfl⟩
  case round =>
    obtain ⟨j, hj, rfl, rfl, hfj, rfl⟩ := hrel
    have HJ := Lib.hid hj
    by_cases hgo : f < j
    · obtain ⟨i, rfl⟩ : ∃ i, j = i + 1 := ⟨j - 1, by omega⟩
      have e0 : ((i + 1 : Nat) : Int) - 1 = (i : Int) := by omega
      rw [e0]
      have hil : i < la.length := by have := HL.out; omega
      obtain ⟨b1, f1, hoa, -, hx⟩ := RA.out.at' (Below.refl _ _) i hil
      subst hoa
      have hdr := val_drop 10000 la i hil
      have hlt : val 10000 (la.drop i) < 1000000000000 := by
        have h1 : val 10000 (la.drop i) ≤ val 10000 (la.drop f) := by
          rw [val_drop_div CA.out.1, val_drop_div CA.out.1]
          exact Nat.div_le_div_left (Nat.pow_le_pow_right (by omega) (by omega)) (Nat.pow_pos (by omega))
        have := HV.out
        omega
      have hfi : f ≤ i := by omega
      have HFI := Lib.hid hfi
      have t1 : decide ((f : Int) ≤ (i : Int)) = true := decide_eq_true (by omega)
      have t2 : decide (0 ≤ (i : Int)) = true := decide_eq_true (by omega)
      have hin : i < N := by omega
      clear e0 hfj hgo
      have HD := Lib.hid hdr
      clear hdr
      generalize la[i] = x at *
      clear hil
      have ev : Hid (wrap64 (wrap64 (((val 10000 (la.drop (i + 1)) : Nat) : Int) * 10000) + (x : Int)) = ((val 10000 (la.drop i) : Nat) : Int)) := by
        show _ = _
        rw [HD.out] at hlt ⊢
        generalize val 10000 (la.drop (i + 1)) = V at *
        unfold wrap64; omega
      have e1 : wrap64 (((val 10000 (la.drop (i + 1)) : Nat) : Int) * 10000) = ((val 10000 (la.drop (i + 1)) : Nat) : Int) * 10000 := by
        rw [HD.out] at hlt
        generalize val 10000 (la.drop (i + 1)) = V at *
        unfold wrap64; omega
      have e2 : wrap64 (((val 10000 (la.drop (i + 1)) : Nat) : Int) * 10000 + (x : Int)) = ((val 10000 (la.drop i) : Nat) : Int) := by
        have := ev.out; rwa [e1] at this
      have hw : wrap64 ((i : Int) - 1) = (i : Int) - 1 := by unfold wrap64; have := LN.out; omega
      generalize val 10000 (la.drop (i + 1)) = V at *
      clear ev HD hlt hj
      go_wp2_with fail
      go_roundw
      case rel => exact ⟨i, by have := HJ.out; omega, by rw [e2], by rw [hw], Or.inl HFI.out, by first | trivial | rfl⟩
      case measure => rw [hw]; simp [intOf]
    · have hjf : val 10000 (la.drop j) = val 10000 (la.drop f) := by
        rcases hfj.out with h | h
        · rw [show j = f from by omega]
        · subst h
          rw [List.drop_of_length_le (by have := HL.out; omega), List.drop_of_length_le (by have := HL.out; omega)]
      have HJF := Lib.hid hjf
      have t1 : decide ((f : Int) ≤ (j : Int) - 1) = false := decide_eq_false (by omega)
      clear hfj hgo hjf hj
      go_wp2_with fail
      go_ret
      exact ⟨by rw [HJF.out]; rfl, rfl⟩
end Go.Proofs.Ytlkdahgfnfdakaa
