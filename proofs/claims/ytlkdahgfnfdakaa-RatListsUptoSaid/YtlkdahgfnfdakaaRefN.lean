/- The reference's sizeNat. -/
import Derived.Test.YtlkdahgfnfdakaaRefK
namespace Go.Proofs.Ytlkdahgfnfdakaa
open Go Go.RowKit Go.Shelf WN LM

theorem dig_top4 {l : List Nat} (h : Digs 10000 l) {K t j : Nat} (hK : l.length = K + 1) (ht : l[K]? = some t) (hj : 1 ≤ j) (h1 : t < 10 ^ j) (h2 : 10 ^ (j - 1) ≤ t) : Dig (val 10000 l) = 4 * K + j := by
  have hKl : K < l.length := by omega
  rw [List.getElem?_eq_getElem hKl] at ht
  have ht := Option.some.inj ht
  have hv : val 10000 l = val 10000 (l.take K) + 10000 ^ K * t := by
    rw [val_take_drop 10000 l K (by omega), val_drop _ _ _ hKl, ht, List.drop_of_length_le (by omega)]; simp
  have hlow := val_lt (B := 10000) (by omega) (h.take K)
  rw [List.length_take, Nat.min_eq_left (by omega)] at hlow
  have hp : (10000 : Nat) ^ K = 10 ^ (4 * K) := by rw [Nat.pow_mul]
  rw [hp] at hv hlow
  refine dig_eq (by omega) ?_ ?_
  · rw [hv, Nat.pow_add]
    have : 10 ^ (4 * K) * (t + 1) ≤ 10 ^ (4 * K) * 10 ^ j := Nat.mul_le_mul_left _ h1
    rw [Nat.mul_add] at this
    omega
  · rw [hv, show 4 * K + j - 1 = 4 * K + (j - 1) from by omega, Nat.pow_add]
    have : 10 ^ (4 * K) * 10 ^ (j - 1) ≤ 10 ^ (4 * K) * t := Nat.mul_le_mul_left _ h2
    omega

set_option maxHeartbeats 2000000 in
set_option maxRecDepth 100000 in
theorem rsize_any {va : Value} {n : Nat} {w : World} (ha : RNum w va n) (ln : RLen n ≤ 100000) : Calls Try.prog 104 #[va] w fun e w' => e = .returned (.int .i64 (Dig n : Nat)) ∧ w' = w := by
  obtain ⟨oa, cap, la, rfl, ra, ca, hva, hla⟩ := ha.open
  rcases Nat.eq_zero_or_pos n with h0 | h0
  · subst h0
    rw [rlen_zero]
    clear ra ca hva hla ha ln
    go_enter Try.func104, Try.ntmps104
    go_wp2_with fail
    go_ret
    exact ⟨by rw [dig_zero]; rfl, rfl⟩
  · have hlp := rlen_pos h0
    obtain ⟨K, hK⟩ : ∃ K, RLen n = K + 1 := ⟨RLen n - 1, by omega⟩
    rw [hK] at ra hla ln ⊢
    have hKl : K < la.length := by omega
    obtain ⟨b1, f1, hoa, -, hx⟩ := ra.at' (Below.refl _ _) K hKl
    subst hoa
    have GT : Hid (la[K]? = some la[K]) := List.getElem?_eq_getElem hKl
    have htop : 0 < la[K] := by
      have := ca.2
      unfold Top at this
      rw [List.getLast?_eq_getElem?, hla, Nat.add_sub_cancel, List.getElem?_eq_getElem hKl] at this
      exact Nat.pos_of_ne_zero fun h => this (by rw [h])
    have hdg := ca.1.get K hKl
    have HLA := Lib.hid hla; have CA := Lib.hid ca; have HVA := Lib.hid hva
    generalize la[K] = t at *
    have HT0 := Lib.hid htop; have HX := Lib.hid hx; have HTD := Lib.hid hdg
    obtain ⟨L, hL⟩ : ∃ L, L = K + 1 := ⟨_, rfl⟩
    rw [← hL]
    have hLb : L ≤ 100000 := by omega
    have hL0 : 0 < L := by omega
    have hKL : K < L := by omega
    have E1 : Hid (wrap64 ((L : Int) - 1) = (K : Int)) := by
      show _ = _
      rw [show (L : Int) - 1 = (K : Int) from by omega]; exact IntWalk.wrap64_in _ ⟨by omega, by omega⟩
    obtain ⟨S, hS⟩ : ∃ S, S = 4 * K := ⟨_, rfl⟩
    have E2 : Hid (wrap64 (4 * (K : Int)) = (S : Int)) := by
      show _ = _
      rw [show 4 * (K : Int) = (S : Int) from by omega]; exact IntWalk.wrap64_in _ ⟨by omega, by omega⟩
    have E3 : Hid (IntKind.i64.wrap (4 * (K : Int)) = (S : Int)) := by
      show _ = _
      rw [show 4 * (K : Int) = (S : Int) from by omega]; exact IntWalk.i64_in _ ⟨by omega, by omega⟩
    have HS := Lib.hid hS
    have HSB : Hid (S ≤ 400000) := by show _ ≤ _; omega
    clear ha ra ca hva hla hlp hK hKl htop hdg hx hL hLb ln h0 hS
    have e1 := E1.out; have e2 := E2.out; have e3 := E3.out; have c1 := HX.out
    have tl : ((L : Int) == 0) = false := by rw [beq_eq_false_iff_ne]; omega
    go_enter Try.func104, Try.ntmps104
    go_wp2_with fail
    go_loopw [3, 4] (fun v3 v4 wr => ∃ j d m : Nat, v3 = .int .i64 (m : Nat) ∧ v4 = .int .i64 (d : Nat) ∧ Hid (m = S + j ∧ d = t / 10 ^ j ∧ (j = 0 ∨ 10 ^ (j - 1) ≤ t) ∧ j ≤ 5) ∧ wr = w) (fun _ v4 _ => (intOf v4).toNat)
    case atStart => exact ⟨0, t, S, by first | rfl | (rw [e1, e3]) | (rw [e1, e2]) | (rw [e2]) | (rw [e3]), rfl, ⟨rfl, by simp, Or.inl rfl, by omega⟩, rfl⟩
    case round =>
      clear e1 e2 e3 c1 tl
      obtain ⟨j, d, m, rfl, rfl, hj, rfl⟩ := hrel
      have HJ := Lib.hid hj.out; clear hj
      rcases Nat.eq_zero_or_pos d with hd | hd
      · have HD : Hid (m = Dig n) := by
          obtain ⟨h1, h2, h3, h4⟩ := HJ.out
          have ht : t < 10 ^ j := (Nat.div_eq_zero_iff_lt (Nat.pow_pos (by omega))).1 (by omega)
          have hj1 : 1 ≤ j := by
            rcases Nat.eq_zero_or_pos j with h | h
            · subst h; have := HT0.out; simp at ht; omega
            · exact h
          show _ = _
          have h5 : 10 ^ (j - 1) ≤ t := by rcases h3 with h | h; omega; exact h
          rw [← HVA.out, dig_top4 CA.out.1 HLA.out GT.out hj1 ht h5, h1, HS.out]
        subst hd
        clear HJ
        go_wp2_with fail
        go_ret
        exact ⟨by rw [← HD.out]; rfl, rfl⟩
      · obtain ⟨d2, hd2⟩ : ∃ d2, d2 = d / 10 := ⟨_, rfl⟩
        obtain ⟨m2, hm2⟩ : ∃ m2, m2 = m + 1 := ⟨_, rfl⟩
        have HJ2 : Hid (m2 = S + (j + 1) ∧ d2 = t / 10 ^ (j + 1) ∧ (j + 1 = 0 ∨ 10 ^ (j + 1 - 1) ≤ t) ∧ j + 1 ≤ 5) := by
          obtain ⟨h1, h2, h3, h4⟩ := HJ.out
          have h5 : 10 ^ j ≤ t := by
            rcases Nat.lt_or_ge t (10 ^ j) with h | h
            · rw [Nat.div_eq_of_lt h] at h2; omega
            · exact h
          refine ⟨by omega, by rw [hd2, h2, Nat.div_div_eq_div_mul, Nat.pow_succ], Or.inr (by rwa [Nat.add_sub_cancel]), ?_⟩
          rcases Nat.lt_or_ge j 5 with h | h
          · omega
          · have h6 : (10 : Nat) ^ 5 ≤ 10 ^ j := Nat.pow_le_pow_right (by omega) h
            have h7 : (10 : Nat) ^ 5 = 100000 := by decide
            have := HTD.out; omega
        have HLT : Hid (d2 < d) := by show _ < _; omega
        have HDB : Hid (d ≤ 10000) := by
          obtain ⟨h1, h2, h3, h4⟩ := HJ.out
          show _ ≤ _
          rw [h2]; exact Nat.le_trans (Nat.div_le_self _ _) (by have := HTD.out; omega)
        have HMB : Hid (m ≤ 1000000) := by
          obtain ⟨h1, h2, h3, h4⟩ := HJ.out
          have := HSB.out
          show _ ≤ _; omega
        have HQ1 : Hid (IntKind.i64.wrap ((d : Int).tdiv 10) = (d2 : Int)) := by
          show _ = _
          rw [IntWalk.i64_quo _ _ ⟨by omega, by have := HDB.out; omega, by omega⟩, hd2]; rfl
        have HQ2 : Hid (wrap64 ((d : Int) / 10) = (d2 : Int)) := by
          show _ = _
          rw [show (d : Int) / 10 = (d2 : Int) from by omega]; exact IntWalk.wrap64_in _ ⟨by omega, by have := HDB.out; have := HLT.out; omega⟩
        have HW : Hid (wrap64 ((m : Int) + 1) = (m2 : Int)) := by
          show _ = _
          rw [show (m : Int) + 1 = (m2 : Int) from by omega]; exact IntWalk.wrap64_in _ ⟨by omega, by have := HMB.out; omega⟩
        clear hd2 hm2 HJ
        have q1 := HQ1.out; have q2 := HQ2.out; have q3 := HW.out
        go_wp2_with fail
        clear q1 q2 q3
        go_roundw
        case rel => exact ⟨j + 1, d2, m2, by first | with_reducible rfl | exact congrArg (Value.int .i64) HW.out, by first | with_reducible rfl | exact congrArg (Value.int .i64) HQ2.out | exact congrArg (Value.int .i64) HQ1.out, HJ2.out, by first | trivial | rfl⟩
        case measure => first | (rw [HQ2.out]; have := HLT.out; simp [intOf]; omega) | (have := HLT.out; simp [intOf]; omega)
end Go.Proofs.Ytlkdahgfnfdakaa
