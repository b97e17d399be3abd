/- decimalOf. -/
import Derived.Test.YtegobakoflbnfaaDoorDe
namespace Go.Proofs.YtegobakoflbnfaaDoor
open Go Go.RowKit

def decPl (d : Nat) : Option Nat := (List.range 16).find? fun p => 10 ^ p % d == 0
/-- the decimal of a text -/
def decO (l : List UInt8) : List UInt8 :=
  if (Lib.cut l [47]).2.2 = false then l
  else match wordsO (Lib.cut l [47]).1, puO (Lib.cut l [47]).2.1 with
    | some n, some d => if d ≤ n / 18446744073709551616 then [] else match decPl d with
      | some p => Lib.decDigits (n / d) ++ [46] ++ padL (n % d * (10 ^ p / d)) p
      | none => []
    | _, _ => []
theorem find_none (d : Nat) : ∀ n, (∀ q, q < n → 10 ^ q % d ≠ 0) → (List.range n).find? (fun p => 10 ^ p % d == 0) = none := fun n h => by
  rw [List.find?_eq_none]
  intro x hx
  have := h x (List.mem_range.1 hx)
  simpa using this
theorem pl_none {d : Nat} (h : ∀ q, q < 16 → 10 ^ q % d ≠ 0) : decPl d = none := find_none d 16 h
theorem pl_some {d p : Nat} (hp : p < 16) (h : ∀ q, q < p → 10 ^ q % d ≠ 0) (h0 : 10 ^ p % d = 0) : decPl d = some p := by
  unfold decPl
  rw [List.find?_eq_some_iff_getElem]
  refine ⟨by simpa using h0, p, by simpa using hp, by simp, fun j hj => ?_⟩
  have := h j hj
  simpa using this
theorem cut_len (l : List UInt8) (c : UInt8) : (Lib.cut l [c]).1.length ≤ l.length ∧ (Lib.cut l [c]).2.1.length ≤ l.length := by
  unfold Lib.cut
  split
  · exact ⟨by rw [List.length_take]; omega, by rw [List.length_drop]; omega⟩
  · exact ⟨Nat.le_refl _, Nat.zero_le _⟩
theorem mod_lt_pow {r d p : Nat} (hd : 0 < d) (hr : r < d) (h0 : 10 ^ p % d = 0) : r * (10 ^ p / d) < 10 ^ p := by
  obtain ⟨k, hk⟩ : ∃ k, 10 ^ p = d * k := ⟨10 ^ p / d, by have := Nat.div_add_mod (10 ^ p) d; rw [h0] at this; omega⟩
  rw [hk, Nat.mul_div_cancel_left _ hd]
  refine Nat.mul_lt_mul_of_pos_right hr ?_
  rcases Nat.eq_zero_or_pos k with h | h
  · rw [h] at hk
    have : 0 < 10 ^ p := Nat.pow_pos (by decide)
    omega
  · exact h

set_option maxHeartbeats 6400000 in
set_option maxRecDepth 100000 in
theorem decimal_any (w : World) (s : ByteArray) (hs : s.size ≤ 140737488355328) (he : ErrV w) (ht : Pow10 w) : Calls Tryd.prog 30 #[.string s] w fun e w' => e = .returned (.string ⟨(decO s.data.toList).toArray⟩) ∧ Below w.heap.size w w' := by
  have CT := Lib.hid (cut_any w s 47 hs)
  have hsz : s.data.toList.length = s.size := Array.length_toList
  have hcl := cut_len s.data.toList 47
  rw [hsz] at hcl
  have hdef : decO s.data.toList = decO s.data.toList := rfl
  rw [show decO s.data.toList = if (Lib.cut s.data.toList [47]).2.2 = false then s.data.toList
  else match wordsO (Lib.cut s.data.toList [47]).1, puO (Lib.cut s.data.toList [47]).2.1 with
    | some n, some d => if d ≤ n / 18446744073709551616 then [] else match decPl d with
      | some p => Lib.decDigits (n / d) ++ [46] ++ padL (n % d * (10 ^ p / d)) p
      | none => []
    | _, _ => [] from rfl]
  obtain ⟨⟨ca, cb, cf⟩, hcut⟩ : ∃ r, r = Lib.cut s.data.toList [47] := ⟨_, rfl⟩
  rw [← hcut] at CT hcl ⊢
  simp only [] at hcl ⊢
  clear hdef hcut
  cases cf
  · rw [if_pos rfl]
    have E0 : Hid ((⟨s.data.toList.toArray⟩ : ByteArray) = s) := by show _ = _; exact ByteArray.ext (by simp)
    rw [E0.out]
    clear hcl hsz hs he ht
    go_enter Tryd.func30, Tryd.ntmps30
    go_wp2_with fail
    refine CT.out.mono ?_; rintro e w2 ⟨rfl, hb⟩
    have HB := Lib.hid hb; clear hb
    go_wp2_with fail
    go_ret
    exact ⟨rfl, HB.out⟩
  · rw [if_neg (by decide)]
    have WO : Hid (∀ W, Below w.heap.size w W → Calls Tryd.prog 42 #[.string ⟨ca.toArray⟩] W fun e w' =>
      ((∃ n, wordsO ca = some n ∧ n / 18446744073709551616 < 18446744073709551616 ∧ e = .returned (.tuple #[.int .u64 ((n / 18446744073709551616 : Nat) : Int), .int .u64 ((n % 18446744073709551616 : Nat) : Int), .bool true])) ∨
      (wordsO ca = none ∧ e = .returned (.tuple #[.int .u64 0, .int .u64 0, .bool false]))) ∧ Below W.heap.size W w') := fun W hb => words_of W ⟨ca.toArray⟩ (by simp [ByteArray.size]; omega) (he.go hb)
    have PU : Hid (∀ W, Below w.heap.size w W → Calls Tryd.prog 43 #[.string ⟨cb.toArray⟩, .int .i64 10, .int .i64 64] W fun e w' =>
      ((∃ u, puO cb = some u ∧ u < 18446744073709551616 ∧ e = .returned (.tuple #[.int .u64 (u : Int), .nilIface])) ∨ (puO cb = none ∧ ∃ x te pe, e = .returned (.tuple #[.int .u64 x, .iface te pe]))) ∧ Below W.heap.size W w') := fun W hb => pu_opt W ⟨cb.toArray⟩ (by simp [ByteArray.size]; omega) (he.go hb)
    have HT : Hid (∀ W, Below w.heap.size w W → Pow10 W) := fun W hb => ht.go hb
    obtain ⟨F, hF⟩ : ∃ F, F = (match wordsO ca, puO cb with
      | some n, some d => if d ≤ n / 18446744073709551616 then [] else match decPl d with
        | some p => Lib.decDigits (n / d) ++ [46] ++ padL (n % d * (10 ^ p / d)) p
        | none => []
      | _, _ => []) := ⟨_, rfl⟩
    rw [← hF]
    have HF := Lib.hid hF
    clear hcl hsz hs he ht hF
    go_enter Tryd.func30, Tryd.ntmps30
    go_wp2_with fail
    refine CT.out.mono ?_; rintro e w2 ⟨rfl, hb⟩
    have HB := Lib.hid hb; clear hb CT
    go_wp2_with fail
    refine (WO.out _ HB.out).mono ?_; rintro e w3 ⟨hc, hb⟩
    have HB2 := Lib.hid (bstep HB.out hb); clear hb HB
    rcases hc with ⟨n, hn, hnb, rfl⟩ | ⟨hn, rfl⟩
    · have HN := Lib.hid hn
      clear hn
      obtain ⟨hi, hhi⟩ : ∃ x, x = n / 18446744073709551616 := ⟨_, rfl⟩
      obtain ⟨lo, hlo⟩ : ∃ x, x = n % 18446744073709551616 := ⟨_, rfl⟩
      rw [← hhi, ← hlo]
      rw [← hhi] at hnb
      have hlob : lo < 18446744073709551616 := by omega
      have HNN : Hid (hi * 18446744073709551616 + lo = n) := by show _ = _; omega
      have HHI := Lib.hid hhi
      clear hhi hlo
      go_wp2_with fail
      refine (PU.out _ HB2.out).mono ?_; rintro e w4 ⟨hc, hb⟩
      have HB3 := Lib.hid (bstep HB2.out hb); clear hb HB2
      rcases hc with ⟨d, hd, hdb, rfl⟩ | ⟨hd, x, te, pe, rfl⟩
      · have HD := Lib.hid hd
        clear hd
        by_cases hge : d ≤ hi
        · have HR : Hid (F = []) := by show _ = _; rw [HF.out, HN.out, HD.out]; show (if d ≤ n / 18446744073709551616 then _ else _) = _; rw [← HHI.out, if_pos hge]
          have hgi : (hi : Int) ≥ (d : Int) := by omega
          clear hge hlob hnb hdb
          go_wp2_with fail
          go_ret
          exact ⟨by rw [HR.out]; rfl, HB3.out⟩
        · have hgi : ¬ ((hi : Int) ≥ (d : Int)) := by omega
          have hHF : F = match decPl d with
            | some p => Lib.decDigits (n / d) ++ [46] ++ padL (n % d * (10 ^ p / d)) p
            | none => [] := by
            rw [HF.out, HN.out, HD.out]; show (if d ≤ n / 18446744073709551616 then _ else _) = _; rw [← HHI.out, if_neg hge]
          have HF2 := Lib.hid hHF
          have DV := Lib.hid (fun W => div_any W hi lo d hlob (by omega) hdb)
          rw [HNN.out] at DV
          have hd0 : 0 < d := by omega
          have HD0 := Lib.hid hd0
          have hwb : n / d < 18446744073709551616 := by
            rw [← HNN.out]
            refine Nat.div_lt_of_lt_mul ?_
            have h1 : (hi + 1) * 18446744073709551616 ≤ d * 18446744073709551616 := Nat.mul_le_mul_right _ (by omega)
            omega
          obtain ⟨A, hA⟩ : ∃ x, x = n / d := ⟨_, rfl⟩
          obtain ⟨R, hR⟩ : ∃ x, x = n % d := ⟨_, rfl⟩
          rw [← hA, ← hR] at DV HF2
          rw [← hA] at hwb
          have hRd : R < d := by rw [hR]; exact Nat.mod_lt _ hd0
          have HRD := Lib.hid hRd; have HWB := Lib.hid hwb; have HDB := Lib.hid hdb
          clear hge hlob hnb hdb hHF hd0 hA hR hRd hwb
          go_wp2_with fail
          refine (DV.out _).mono ?_; rintro e w5 ⟨rfl, hb⟩
          have HB4 := Lib.hid (bstep HB3.out hb); clear hb HB3
          go_wp2_with fail
          go_loopw [52] (fun v52 wr => ∃ p : Nat, v52 = .int .i64 (p : Int) ∧ p ≤ 16 ∧ Hid (∀ q, q < p → 10 ^ q % d ≠ 0) ∧ Hid (Below w.heap.size w wr)) (fun v52 _ => 16 - (intOf v52).toNat)
          case atStart => exact ⟨0, rfl, by omega, fun q hq => absurd hq (Nat.not_lt_zero _), HB4⟩
          case round =>
            obtain ⟨p, rfl, hp, HNO, HBn⟩ := hrel
            clear HB4
            rename World => wk
            by_cases hp16 : p < 16
            · have PW := Lib.hid (fun W => power_any W p (by omega))
              have hpi : (p : Int) < 16 := by omega
              have hP : 10 ^ p < 18446744073709551616 := by
                have h1 : 10 ^ p ≤ 10 ^ 15 := Nat.pow_le_pow_right (by decide) (by omega)
                have h2 : (10 : Nat) ^ 15 = 1000000000000000 := by decide
                omega
              obtain ⟨T, hT⟩ : ∃ T, T = 10 ^ p := ⟨_, rfl⟩
              rw [← hT] at PW hP
              have HTT := Lib.hid hT
              have d0 : ¬ (d : Int) = 0 := by have := HD0.out; omega
              have HPB := Lib.hid hP
              have HP16 := Lib.hid hp16
              have W3 := Lib.hid (wnat (n := p) (by omega))
              have hrem : Hid (IntKind.u64.wrap ((T : Int).tmod (d : Int)) = ((T % d : Nat) : Int)) := by
                show _ = _
                rw [show (T : Int).tmod (d : Int) = ((T % d : Nat) : Int) from rfl]
                exact wu64 (by have := Nat.mod_le T d; omega)
              by_cases hz : T % d = 0
              · have hzi : ((T : Int) % (d : Int) == 0) = true := by
                  rw [show (T : Int) % (d : Int) = ((T % d : Nat) : Int) from rfl, hz]; rfl
                have hpl : decPl d = some p := pl_some hp16 HNO.out (by rw [← hT]; exact hz)
                obtain ⟨Q, hQ⟩ : ∃ Q, Q = T / d := ⟨_, rfl⟩
                have Q1 : Hid (IntKind.u64.wrap ((T : Int) / (d : Int)) = (Q : Int)) := by show _ = _; rw [hQ]; exact quo_u64 hP
                have hRQ : R * Q < T := by rw [hQ, hT]; exact mod_lt_pow HD0.out HRD.out (by rw [← hT]; exact hz)
                obtain ⟨M, hM⟩ : ∃ M, M = R * Q := ⟨_, rfl⟩
                rw [← hM] at hRQ
                have Q2 : Hid (IntKind.u64.wrap ((R : Int) * (Q : Int)) = (M : Int)) := by
                  show _ = _
                  rw [← Int.natCast_mul, ← hM]; exact wu64 (by omega)
                have HR : Hid (F = Lib.decDigits A ++ [46] ++ padL M p) := by
                  show _ = _
                  rw [HF2.out, hpl, hM, hQ, hT]
                have FA : Hid (∀ W, Below w.heap.size w W → Calls Tryd.prog 46 #[.int .u64 (A : Int), .int .i64 10] W fun e w' => e = .returned (.string ⟨(Lib.decDigits A).toArray⟩) ∧ Below W.heap.size W w') := fun W hb => fmt_any W A HWB.out (HT.out W hb)
                have PA : Hid (∀ W, Below w.heap.size w W → Calls Tryd.prog 47 #[.int .u64 (M : Int), .int .i64 (p : Int)] W fun e w' => e = .returned (.string ⟨(padL M p).toArray⟩) ∧ Below W.heap.size W w') := fun W hb => padded_any W M p (by omega) (by omega) (HT.out W hb)
                have hs1 := dec_le20 HWB.out
                have hs2 := padL_len (n := M) (d := p) (by omega) (by omega)
                obtain ⟨sa, hsa⟩ : ∃ s, s = (⟨(Lib.decDigits A).toArray⟩ : ByteArray) := ⟨_, rfl⟩
                obtain ⟨sp, hsp⟩ : ∃ s, s = (⟨(padL M p).toArray⟩ : ByteArray) := ⟨_, rfl⟩
                have hsas : sa.size ≤ 20 := by rw [hsa]; exact hs1
                have hsps : sp.size ≤ 35 := by rw [hsp]; exact hs2
                rw [← hsa] at FA
                rw [← hsp] at PA
                have h46 : (⟨#[46]⟩ : ByteArray).size = 1 := rfl
                have c1 : ¬ (sa.size + (⟨#[46]⟩ : ByteArray).size > 9223372036854775807) := by omega
                have c2 : ¬ ((sa ++ ⟨#[46]⟩).size + sp.size > 9223372036854775807) := by rw [ByteArray.size_append]; omega
                have HFIN : Hid ((⟨F.toArray⟩ : ByteArray) = sa ++ ⟨#[46]⟩ ++ sp) := by
                  show _ = _
                  rw [HR.out, hsa, hsp]
                  apply ByteArray.ext
                  rw [← Array.toList_inj]
                  simp [ByteArray.data_append]
                have hpi2 : Hid ((p : Int) < 16) := hpi
                clear hs1 hs2 hsa hsp hsas hsps h46 hpl hQ hRQ hM hz hT hP hp16 hp
                go_wp2_with fail
                refine (PW.out _).mono ?_; rintro e w6 ⟨rfl, rfl⟩
                go_wp2_with fail
                refine (FA.out _ HBn.out).mono ?_; rintro e w7 ⟨rfl, hb⟩
                have HB5 := Lib.hid (bstep HBn.out hb); clear hb HBn
                go_wp2_with fail
                refine (PW.out _).mono ?_; rintro e w8 ⟨rfl, rfl⟩
                go_wp2_with fail
                try rw [Q1.out]
                try rw [Q2.out]
                refine (PA.out _ HB5.out).mono ?_; rintro e w9 ⟨rfl, hb⟩
                have HB6 := Lib.hid (bstep HB5.out hb); clear hb HB5
                go_wp2_with fail
                go_ret
                exact ⟨by rw [HFIN.out]; rfl, HB6.out⟩
              · have hzi : ((T : Int) % (d : Int) == 0) = false := by
                  rw [show (T : Int) % (d : Int) = ((T % d : Nat) : Int) from rfl, beq_eq_false_iff_ne]; omega
                have HNO2 : Hid (∀ q, q < p + 1 → 10 ^ q % d ≠ 0) := fun q hq => by
                  rcases Nat.lt_or_ge q p with h | h
                  · exact HNO.out q h
                  · obtain rfl : q = p := by omega
                    rw [← hT]; exact hz
                clear hz hT hP hp16 hp
                go_wp2_with fail
                refine (PW.out _).mono ?_; rintro e w6 ⟨rfl, rfl⟩
                go_wp2_with fail
                refine ⟨⟨p + 1, by first | rfl | exact congrArg (Value.int .i64) W3.out | go_num, HP16.out, HNO2, HBn⟩, ?_⟩
                have := HP16.out
                simp [intOf]; omega
            · have hp16' : p = 16 := by omega
              subst hp16'
              have HR : Hid (F = []) := by show _ = _; rw [HF2.out, pl_none HNO.out]
              have hpi : ¬ ((16 : Nat) : Int) < 16 := by omega
              clear hp16 hp
              go_wp2_with fail
              go_ret
              exact ⟨by rw [HR.out]; rfl, HBn.out⟩
      · have HR : Hid (F = []) := by show _ = _; rw [HF.out, HN.out, hd]
        clear hd hlob hnb
        go_wp2_with fail
        go_ret
        exact ⟨by rw [HR.out]; rfl, HB3.out⟩
    · have HR : Hid (F = []) := by show _ = _; rw [HF.out, hn]
      clear hn
      go_wp2_with fail
      refine (PU.out _ HB2.out).mono ?_; rintro e w4 ⟨hc, hb⟩
      have HB3 := Lib.hid (bstep HB2.out hb); clear hb HB2
      rcases hc with ⟨d, hd, hdb, rfl⟩ | ⟨hd, x, te, pe, rfl⟩
      · clear hd hdb
        go_wp2_with fail
        go_ret
        exact ⟨by rw [HR.out]; rfl, HB3.out⟩
      · clear hd
        go_wp2_with fail
        go_ret
        exact ⟨by rw [HR.out]; rfl, HB3.out⟩
end Go.Proofs.YtegobakoflbnfaaDoor
