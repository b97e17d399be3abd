/- The reference's sizeNat. The reference's textNat. The reference's Is, Whole, Write, Parts. The reference's Write, Parts. The reference's lowest, Of, Fits, Out. The reference's Times, Over, Of, Make. The reference's Make. The reference's Opposite, Zero, Sign, Plus, Minus, Against. The reference's Plus. -/
import Derived.Test.YtegobakoflbnfaaGreatDoorGh
import Derived.Test.YtegobakoflbnfaaGreatDoorMA
namespace Go.Proofs.YtegobakoflbnfaaGreatDoor.QA
open Go Go.RowKit Go.Shelf WN LM

theorem dig_top4 {l : List Nat} (h : Digs 10000 l) {K t j : Nat} (hK : l.length = K + 1) (ht : l[K]? = some t) (hj : 1 ≤ j) (h1 : t < 10 ^ j) (h2 : 10 ^ (j - 1) ≤ t) : Dig (val 10000 l) = 4 * K + j := by
  have hKl : K < l.length := by omega
  rw [List.getElem?_eq_getElem hKl] at ht
  have ht := Option.some.inj ht
  have hv : val 10000 l = val 10000 (l.take K) + 10000 ^ K * t := by
    rw [val_take_drop 10000 l K (by omega), val_drop _ _ _ hKl, ht, List.drop_of_length_le (by omega)]; simp
  have hlow := val_lt (B := 10000) (by omega) (h.take K)
  rw [List.length_take, Nat.min_eq_left (by omega)] at hlow
  have hp : (10000 : Nat) ^ K = 10 ^ (4 * K) := by rw [Nat.pow_mul]
  rw [hp] at hv hlow
  refine dig_eq (by omega) ?_ ?_
  · rw [hv, Nat.pow_add]
    have : 10 ^ (4 * K) * (t + 1) ≤ 10 ^ (4 * K) * 10 ^ j := Nat.mul_le_mul_left _ h1
    rw [Nat.mul_add] at this
    omega
  · rw [hv, show 4 * K + j - 1 = 4 * K + (j - 1) from by omega, Nat.pow_add]
    have : 10 ^ (4 * K) * 10 ^ (j - 1) ≤ 10 ^ (4 * K) * t := Nat.mul_le_mul_left _ h2
    omega

set_option maxHeartbeats 2000000 in
set_option maxRecDepth 100000 in
theorem rsize_any {va : Value} {n : Nat} {w : World} (ha : RNum w va n) (ln : RLen n ≤ 100000) : Calls Tryz.prog 101 #[va] w fun e w' => e = .returned (.int .i64 (Dig n : Nat)) ∧ w' = w := by
  obtain ⟨oa, cap, la, rfl, ra, ca, hva, hla⟩ := ha.open
  rcases Nat.eq_zero_or_pos n with h0 | h0
  · subst h0
    rw [rlen_zero]
    clear ra ca hva hla ha ln
    go_enter Tryz.func101, Tryz.ntmps101
    go_wp2_with fail
    go_ret
    exact ⟨by rw [dig_zero]; rfl, rfl⟩
  · have hlp := rlen_pos h0
    obtain ⟨K, hK⟩ : ∃ K, RLen n = K + 1 := ⟨RLen n - 1, by omega⟩
    rw [hK] at ra hla ln ⊢
    have hKl : K < la.length := by omega
    obtain ⟨b1, f1, hoa, -, hx⟩ := ra.at' (Below.refl _ _) K hKl
    subst hoa
    have GT : Hid (la[K]? = some la[K]) := List.getElem?_eq_getElem hKl
    have htop : 0 < la[K] := by
      have := ca.2
      unfold Top at this
      rw [List.getLast?_eq_getElem?, hla, Nat.add_sub_cancel, List.getElem?_eq_getElem hKl] at this
      exact Nat.pos_of_ne_zero fun h => this (by rw [h])
    have hdg := ca.1.get K hKl
    have HLA := Lib.hid hla; have CA := Lib.hid ca; have HVA := Lib.hid hva
    generalize la[K] = t at *
    have HT0 := Lib.hid htop; have HX := Lib.hid hx; have HTD := Lib.hid hdg
    obtain ⟨L, hL⟩ : ∃ L, L = K + 1 := ⟨_, rfl⟩
    rw [← hL]
    have hLb : L ≤ 100000 := by omega
    have hL0 : 0 < L := by omega
    have hKL : K < L := by omega
    have E1 : Hid (wrap64 ((L : Int) - 1) = (K : Int)) := by
      show _ = _
      rw [show (L : Int) - 1 = (K : Int) from by omega]; exact IntWalk.wrap64_in _ ⟨by omega, by omega⟩
    obtain ⟨S, hS⟩ : ∃ S, S = 4 * K := ⟨_, rfl⟩
    have E2 : Hid (wrap64 (4 * (K : Int)) = (S : Int)) := by
      show _ = _
      rw [show 4 * (K : Int) = (S : Int) from by omega]; exact IntWalk.wrap64_in _ ⟨by omega, by omega⟩
    have E3 : Hid (IntKind.i64.wrap (4 * (K : Int)) = (S : Int)) := by
      show _ = _
      rw [show 4 * (K : Int) = (S : Int) from by omega]; exact IntWalk.i64_in _ ⟨by omega, by omega⟩
    have HS := Lib.hid hS
    have HSB : Hid (S ≤ 400000) := by show _ ≤ _; omega
    clear ha ra ca hva hla hlp hK hKl htop hdg hx hL hLb ln h0 hS
    have e1 := E1.out; have e2 := E2.out; have e3 := E3.out; have c1 := HX.out
    have tl : ((L : Int) == 0) = false := by rw [beq_eq_false_iff_ne]; omega
    go_enter Tryz.func101, Tryz.ntmps101
    go_wp2_with fail
    go_loopw [3, 4] (fun v3 v4 wr => ∃ j d m : Nat, v3 = .int .i64 (m : Nat) ∧ v4 = .int .i64 (d : Nat) ∧ Hid (m = S + j ∧ d = t / 10 ^ j ∧ (j = 0 ∨ 10 ^ (j - 1) ≤ t) ∧ j ≤ 5) ∧ wr = w) (fun _ v4 _ => (intOf v4).toNat)
    case atStart => exact ⟨0, t, S, by first | rfl | (rw [e1, e3]) | (rw [e1, e2]) | (rw [e2]) | (rw [e3]), rfl, ⟨rfl, by simp, Or.inl rfl, by omega⟩, rfl⟩
    case round =>
      clear e1 e2 e3 c1 tl
      obtain ⟨j, d, m, rfl, rfl, hj, rfl⟩ := hrel
      have HJ := Lib.hid hj.out; clear hj
      rcases Nat.eq_zero_or_pos d with hd | hd
      · have HD : Hid (m = Dig n) := by
          obtain ⟨h1, h2, h3, h4⟩ := HJ.out
          have ht : t < 10 ^ j := (Nat.div_eq_zero_iff_lt (Nat.pow_pos (by omega))).1 (by omega)
          have hj1 : 1 ≤ j := by
            rcases Nat.eq_zero_or_pos j with h | h
            · subst h; have := HT0.out; simp at ht; omega
            · exact h
          show _ = _
          have h5 : 10 ^ (j - 1) ≤ t := by rcases h3 with h | h; omega; exact h
          rw [← HVA.out, dig_top4 CA.out.1 HLA.out GT.out hj1 ht h5, h1, HS.out]
        subst hd
        clear HJ
        go_wp2_with fail
        go_ret
        exact ⟨by rw [← HD.out]; rfl, rfl⟩
      · obtain ⟨d2, hd2⟩ : ∃ d2, d2 = d / 10 := ⟨_, rfl⟩
        obtain ⟨m2, hm2⟩ : ∃ m2, m2 = m + 1 := ⟨_, rfl⟩
        have HJ2 : Hid (m2 = S + (j + 1) ∧ d2 = t / 10 ^ (j + 1) ∧ (j + 1 = 0 ∨ 10 ^ (j + 1 - 1) ≤ t) ∧ j + 1 ≤ 5) := by
          obtain ⟨h1, h2, h3, h4⟩ := HJ.out
          have h5 : 10 ^ j ≤ t := by
            rcases Nat.lt_or_ge t (10 ^ j) with h | h
            · rw [Nat.div_eq_of_lt h] at h2; omega
            · exact h
          refine ⟨by omega, by rw [hd2, h2, Nat.div_div_eq_div_mul, Nat.pow_succ], Or.inr (by rwa [Nat.add_sub_cancel]), ?_⟩
          rcases Nat.lt_or_ge j 5 with h | h
          · omega
          · have h6 : (10 : Nat) ^ 5 ≤ 10 ^ j := Nat.pow_le_pow_right (by omega) h
            have h7 : (10 : Nat) ^ 5 = 100000 := by decide
            have := HTD.out; omega
        have HLT : Hid (d2 < d) := by show _ < _; omega
        have HDB : Hid (d ≤ 10000) := by
          obtain ⟨h1, h2, h3, h4⟩ := HJ.out
          show _ ≤ _
          rw [h2]; exact Nat.le_trans (Nat.div_le_self _ _) (by have := HTD.out; omega)
        have HMB : Hid (m ≤ 1000000) := by
          obtain ⟨h1, h2, h3, h4⟩ := HJ.out
          have := HSB.out
          show _ ≤ _; omega
        have HQ1 : Hid (IntKind.i64.wrap ((d : Int).tdiv 10) = (d2 : Int)) := by
          show _ = _
          rw [IntWalk.i64_quo _ _ ⟨by omega, by have := HDB.out; omega, by omega⟩, hd2]; rfl
        have HQ2 : Hid (wrap64 ((d : Int) / 10) = (d2 : Int)) := by
          show _ = _
          rw [show (d : Int) / 10 = (d2 : Int) from by omega]; exact IntWalk.wrap64_in _ ⟨by omega, by have := HDB.out; have := HLT.out; omega⟩
        have HW : Hid (wrap64 ((m : Int) + 1) = (m2 : Int)) := by
          show _ = _
          rw [show (m : Int) + 1 = (m2 : Int) from by omega]; exact IntWalk.wrap64_in _ ⟨by omega, by have := HMB.out; omega⟩
        clear hd2 hm2 HJ
        have q1 := HQ1.out; have q2 := HQ2.out; have q3 := HW.out
        go_wp2_with fail
        clear q1 q2 q3
        go_roundw
        case rel => exact ⟨j + 1, d2, m2, by first | with_reducible rfl | exact congrArg (Value.int .i64) HW.out, by first | with_reducible rfl | exact congrArg (Value.int .i64) HQ2.out | exact congrArg (Value.int .i64) HQ1.out, HJ2.out, by first | trivial | rfl⟩
        case measure => first | (rw [HQ2.out]; have := HLT.out; simp [intOf]; omega) | (have := HLT.out; simp [intOf]; omega)
end Go.Proofs.YtegobakoflbnfaaGreatDoor.QA

namespace Go.Proofs.YtegobakoflbnfaaGreatDoor.QA
open Go Go.RowKit Go.Shelf WN LM

theorem make_bytes (w : World) (l c : Int) (h0 : 0 ≤ l) (hlc : l ≤ c) (hc : c ≤ 1000000000000) :
    (Instr.makeSlice 30 (.int .i64 l) (.int .i64 c)).run Tryz.prog w = .ok (.slice (some ⟨w.heap.size, 0, none⟩) l.toNat c.toNat) (w.alloc (.cells (ns .u8 (List.replicate c.toNat 0)) 5)) := by
  obtain ⟨i0, hi, hz0, hz1, hz2⟩ := info_parts Tryz.info5
  rw [run_make w 30 5 i0 _ Tryz.underlying30 hi hz0 .i64 .i64 l c h0 hlc (by rw [hz2]; omega) (by omega), hz1, Nat.mul_one]
  show Result.ok _ (w.alloc (.cells (madeCells #[Value.int .u8 0] c.toNat) 5)) = _
  rw [ns_zeros]
def padN : Nat → Nat → List Nat
  | 0, _ => []
  | j + 1, n => padN j (n / 10) ++ [48 + n % 10]
theorem padN_length (j n : Nat) : (padN j n).length = j := by
  induction j generalizing n with
  | zero => rfl
  | succ j ih => simp [padN, ih]
theorem padN_cons (j n : Nat) : padN (j + 1) n = (48 + n / 10 ^ j % 10) :: padN j n := by
  induction j generalizing n with
  | zero => simp [padN]
  | succ j ih =>
    rw [padN, ih, List.cons_append, Nat.div_div_eq_div_mul, show 10 * 10 ^ j = 10 ^ (j + 1) from by rw [Nat.pow_succ, Nat.mul_comm]]
    rfl
theorem padN_dec : ∀ (N n : Nat), n ≤ N → padN (dec n).length n = (dec n).map UInt8.toNat
  | 0, n, h => by obtain rfl : n = 0 := by omega
                  rw [dec_zero]; rfl
  | N + 1, n, h => by
    by_cases h0 : n = 0
    · subst h0; rw [dec_zero]; rfl
    · rw [dec_pos h0, List.length_append, List.length_singleton, padN, padN_dec N (n / 10) (by omega), List.map_append, List.map_singleton, digit_nat (by omega)]
theorem padN_decT (n : Nat) : padN (Dig n) n = (decT n).map UInt8.toNat := by
  by_cases h0 : n = 0
  · subst h0; rw [dig_zero]; rfl
  · rw [← decT_len]; unfold decT; rw [if_neg h0]; exact padN_dec n n (Nat.le_refl _)
def TextI (n S : Nat) (w wr : World) (j : Nat) : Prop := Row wr w.heap.size .u8 5 (List.replicate (S - j) 48 ++ padN j n) ∧ j ≤ S ∧ Below w.heap.size w wr
theorem TextI.step {n S : Nat} {w wr : World} {j A c : Nat} {z : Int} (h : TextI n S w wr j) (hA : A = S - 1 - j) (hj : j < S) (hc : c = 48 + n / 10 ^ j % 10) (hz : z = (c : Int)) : TextI n S w (wr.setCell ⟨w.heap.size, A, none⟩ (.int .u8 z)) (j + 1) := by
  obtain ⟨h1, h2, h3⟩ := h
  subst hz
  refine ⟨?_, hj, h3.setCell (p := ⟨w.heap.size, A, none⟩) (Nat.le_refl _) _⟩
  have := h1.set A c
  rw [show S - j = A + 1 from by omega, List.replicate_succ', List.append_assoc, List.set_append_right _ _ (by rw [List.length_replicate]; exact Nat.le_refl _), List.length_replicate, Nat.sub_self] at this
  rw [padN_cons, ← hc, show S - (j + 1) = A from by omega]
  exact this
def FillI (S : Nat) (w wr : World) (i : Nat) : Prop := Row wr w.heap.size .u8 5 (List.replicate i 48 ++ List.replicate (S - i) 0) ∧ Below w.heap.size w wr
theorem FillI.step {S : Nat} {w wr : World} {i : Nat} (h : FillI S w wr i) (hi : i < S) : FillI S w (wr.setCell ⟨w.heap.size, i, none⟩ (.int .u8 48)) (i + 1) := by
  obtain ⟨h1, h3⟩ := h
  refine ⟨?_, h3.setCell (p := ⟨w.heap.size, i, none⟩) (Nat.le_refl _) _⟩
  have := h1.set i 48
  rw [set_next (by rw [List.length_replicate]) hi] at this
  rw [List.replicate_succ']
  exact this
theorem dig_len4 (n : Nat) : Dig n ≤ 4 * RLen n + 1 ∧ (0 < n → Dig n ≤ 4 * RLen n ∧ 4 * (RLen n - 1) < Dig n) := by
  have hp : ∀ k, (10000 : Nat) ^ k = 10 ^ (4 * k) := fun k => by rw [Nat.pow_mul]
  have h1 := lt_rlen n
  rw [hp] at h1
  refine ⟨dig_le (by omega) (Nat.lt_of_lt_of_le h1 (Nat.pow_le_pow_right (by omega) (by omega))), fun h0 => ⟨dig_le (by have := rlen_pos h0; omega) h1, ?_⟩⟩
  have h2 := rlen_le h0
  rw [hp] at h2
  have h3 := lt_dig n
  have h4 : 10 ^ (4 * (RLen n - 1)) < 10 ^ Dig n := by omega
  exact (Nat.pow_lt_pow_iff_right (by omega)).1 h4
theorem digit_at {n i k x : Nat} (hx : x = n / 10000 ^ i % 10000) (hk : k < 4) : x / 10 ^ k % 10 = n / 10 ^ (4 * i + k) % 10 := by
  rw [Nat.pow_add, ← Nat.div_div_eq_div_mul, Nat.pow_mul, show (10 : Nat) ^ 4 = 10000 from rfl, hx]
  generalize n / 10000 ^ i = a
  rcases (show k = 0 ∨ k = 1 ∨ k = 2 ∨ k = 3 by omega) with h | h | h | h <;> subst h <;> simp only [Nat.pow_zero, Nat.pow_one, show (10 : Nat) ^ 2 = 100 from rfl, show (10 : Nat) ^ 3 = 1000 from rfl] <;> omega
theorem rlen_eq_zero' {n : Nat} : RLen n = 0 ↔ n = 0 := by
  constructor
  · intro h
    rcases Nat.eq_zero_or_pos n with h0 | h0
    · exact h0
    · have := rlen_pos h0; omega
  · rintro rfl; exact rlen_zero
theorem text_conv {W : World} {g : Nat} {n : Nat} (h : Row W g .u8 5 (padN (Dig n) n)) : (convert 30 9 (.slice (some ⟨g, 0, none⟩) (Dig n) (Dig n))).run Tryz.prog W = .ok (.string ⟨(decT n).toArray⟩) W := by
  have := run_convert_bytes_back (P := Tryz.prog) W 30 9 5 ⟨g, 0, none⟩ (Dig n) (decT n) Tryz.underlying30 Tryz.underlying5 Tryz.underlying9 fun j hj => by
    have hj2 : j < (padN (Dig n) n).length := by rw [padN_length, ← decT_len]; exact hj
    have h2 := h.cell j hj2
    have e : (⟨g, 0, none⟩ : Addr).add j = ⟨g, j, none⟩ := by unfold Addr.add; split <;> simp
    rw [e, h2]
    simp only [padN_decT, List.getElem_map]
  rw [decT_len] at this
  exact this

set_option maxHeartbeats 4000000 in
set_option maxRecDepth 100000 in
theorem rtext_any {va : Value} {n : Nat} {w : World} (ha : RNum w va n) (ln : RLen n ≤ 100000) : Calls Tryz.prog 78 #[va] w fun e w' => e = .returned (.string ⟨(decT n).toArray⟩) ∧ Below w.heap.size w w' := by
  have SZ := Lib.hid (rsize_any ha ln)
  obtain ⟨oa, cap, la, rfl, ra, ca, hva, hla⟩ := ha.open
  obtain ⟨S, hS⟩ : ∃ S, Dig n = S := ⟨_, rfl⟩
  obtain ⟨L, hL⟩ : ∃ L, RLen n = L := ⟨_, rfl⟩
  have hsl := dig_len4 n
  have hsp := dig_pos n
  have TC : Hid (∀ W, Row W w.heap.size .u8 5 (padN S n) → (convert 30 9 (.slice (some ⟨w.heap.size, 0, none⟩) S S)).run Tryz.prog W = .ok (.string ⟨(decT n).toArray⟩) W) := fun W h => by
    have := text_conv (W := W) (g := w.heap.size) (n := n) (by rw [hS]; exact h)
    rwa [hS] at this
  rw [hS] at SZ hsl hsp
  rw [hL] at SZ ra hla hsl ln ⊢
  have HLN : Hid (n < 10000 ^ L) := by show _ < _; rw [← hL]; exact lt_rlen n
  have RA := Lib.hid ra; have CA := Lib.hid ca; have HVA := Lib.hid hva; have HLA := Lib.hid hla; have LN := Lib.hid ln
  have HSL := Lib.hid hsl; have HSP := Lib.hid hsp
  have HSB : Hid (S ≤ 400001) := by show _ ≤ _; omega
  have hmk := fun w => make_bytes w (S : Int) (S : Int) (by omega) (by omega) (by have := HSB.out; omega)
  simp only [Int.toNat_natCast] at hmk
  have HZ : Hid (L = 0 → n = 0) := fun h => rlen_eq_zero'.1 (by rw [hL]; exact h)
  clear ha ra ca hva hla ln hsl hS hL hsp
  go_enter Tryz.func78, Tryz.ntmps78
  go_wp2_with fail
  refine SZ.out.mono ?_; rintro e w0 ⟨rfl, rfl⟩
  go_wp2_with fail
  have HR := Lib.hid (Row.new w0 .u8 5 (List.replicate S 0))
  have HB := Lib.hid ((Below.refl _ w0).alloc (Nat.le_refl _) (.cells (ns .u8 (List.replicate S 0)) 5))
  generalize w0.alloc (.cells (ns .u8 (List.replicate S 0)) 5) = w1 at *
  clear hmk
  go_loopw [4] (fun v4 wr => ∃ i : Nat, i ≤ S ∧ v4 = .int .i64 (i : Nat) ∧ Hid (FillI S w0 wr i)) (fun v4 _ => S - (intOf v4).toNat)
  case atStart => exact ⟨0, Nat.zero_le _, rfl, by have := HR.out; rw [List.replicate_zero, List.nil_append, Nat.sub_zero]; exact this, HB.out⟩
  case round =>
    rename World => wr
    obtain ⟨i, hi, rfl, hf⟩ := hrel
    have F := Lib.hid hf.out; clear hf
    by_cases hlt : i < S
    · obtain ⟨cc, hcc, hff⟩ : ∃ v0, wr.cell? ⟨w0.heap.size, i, none⟩ = some v0 ∧ wr.frozen? ⟨w0.heap.size, i, none⟩ = false := by
        have h1 := F.out.1
        exact ⟨_, h1.cell i (by simp; omega), h1.free _⟩
      have ST := Lib.hid (F.out.step hlt)
      have HLT := Lib.hid hlt
      obtain ⟨i1, hi1⟩ : ∃ i1, i1 = i + 1 := ⟨_, rfl⟩
      have HW : Hid (wrap64 ((i : Int) + 1) = (i1 : Int)) := by
        show _ = _
        rw [hi1]; exact IntWalk.wrap64_in _ ⟨by omega, by have := HSB.out; omega⟩
      have HI1 := Lib.hid hi1
      clear F hi1 hi
      have hw := HW.out
      go_wp2_with fail
      clear hw
      go_roundw
      case rel => exact ⟨i1, by have := HI1.out; have := HLT.out; omega, congrArg (Value.int .i64) HW.out, by have := ST.out; rwa [← HI1.out] at this⟩
      case measure => rw [HW.out]; have := HI1.out; have := HLT.out; simp [intOf]; omega
    · have hiS : i = S := by omega
      have TI0 : Hid (TextI n S w0 wr 0) := by
        obtain ⟨h1, h2⟩ := F.out
        rw [hiS, Nat.sub_self, List.replicate_zero, List.append_nil] at h1
        exact ⟨by rw [Nat.sub_zero]; simpa [padN] using h1, Nat.zero_le _, h2⟩
      have E1 : Hid (wrap64 ((S : Int) - 1) = (S : Int) - 1) := by
        show _ = _
        exact IntWalk.wrap64_in _ ⟨by omega, by have := HSB.out; omega⟩
      clear F hiS hi
      have e1 := E1.out
      go_wp2_with fail
      clear e1
      go_loopw [5, 6] (fun v5 v6 wk => ∃ i j : Nat, i ≤ L ∧ v5 = .int .i64 ((S : Int) - 1 - (j : Int)) ∧ v6 = .int .i64 (i : Nat) ∧ Hid ((i < L → j = 4 * i) ∧ (i = L → List.replicate (S - j) 48 ++ padN j n = padN S n)) ∧ Hid (TextI n S w0 wk j)) (fun _ v6 _ => L - (intOf v6).toNat)
      case atStart =>
        refine ⟨0, 0, Nat.zero_le _, ?_, rfl, ⟨fun _ => rfl, fun h => ?_⟩, TI0.out⟩
        · first | (rw [E1.out]; exact congrArg (Value.int .i64) (by omega)) | exact congrArg (Value.int .i64) (by omega)
        · have h0 : n = 0 := HZ.out h.symm
          have hs1 : S = 1 := by have := HSL.out.1; have := HSP.out; omega
          rw [h0, hs1]; rfl
      case round =>
        clear TI0 E1
        rename World => wk
        obtain ⟨i, j, hi, rfl, rfl, hij, hti⟩ := hrel
        have TI := Lib.hid hti.out; clear hti
        by_cases hlt : i < L
        · have hj4 : j = 4 * i := hij.out.1 hlt
          have hil : i < la.length := by have := HLA.out; omega
          obtain ⟨b1, f1, hoa, -, hx⟩ := RA.out.at' TI.out.2.2 i hil
          subst hoa
          have hxv : la[i] = n / 10000 ^ i % 10000 := by
            have h1 := val_drop_div CA.out.1 i
            rw [HVA.out, val_drop _ _ _ hil] at h1
            have h2 := CA.out.1.get i hil
            rw [← h1, Nat.add_mul_mod_self_left, Nat.mod_eq_of_lt h2]
          have HXV := Lib.hid hxv
          generalize la[i] = x at *
          have HJ4 := Lib.hid hj4; have HLT := Lib.hid hlt
          have HXB : Hid (x < 10000) := by show _ < _; rw [hxv]; exact Nat.mod_lt _ (show 0 < 10000 by decide)
          have HIJ : Hid (∀ jj k, jj = 4 * i + k → k ≤ 4 → jj ≤ S → (k = 4 ∨ jj = S) → (i + 1 < L → jj = 4 * (i + 1)) ∧ (i + 1 = L → List.replicate (S - jj) 48 ++ padN jj n = padN S n)) := fun jj k h1 h2 h3 h4 => by
            have hn0 : 0 < n := by
              rcases Nat.eq_zero_or_pos n with h | h
              · have := HLA.out
                exfalso
                have h9 := CA.out
                have : la = [] := (val_eq_zero (B := 10000) (by omega) h9.2).1 (by rw [HVA.out, h])
                rw [this] at hil; simp at hil
              · exact h
            obtain ⟨h5, h6⟩ := HSL.out.2 hn0
            refine ⟨fun h => by omega, fun h => ?_⟩
            have : jj = S := by omega
            rw [this, Nat.sub_self]; rfl
          clear hij hxv hj4 hil
          obtain ⟨i1, hi1⟩ : ∃ i1, i1 = i + 1 := ⟨_, rfl⟩
          have HW : Hid (wrap64 ((i : Int) + 1) = (i1 : Int)) := by
            show _ = _
            rw [hi1]; exact IntWalk.wrap64_in _ ⟨by omega, by have := LN.out; omega⟩
          have HI1 := Lib.hid hi1
          clear hi1 hi
          go_wp2_with fail
          go_loopw [5, 7, 8] (fun v5 v7 v8 wt => ∃ k jj d : Nat, v5 = .int .i64 ((S : Int) - 1 - (jj : Int)) ∧ v7 = .int .i64 (d : Nat) ∧ v8 = .int .i64 (k : Nat) ∧ Hid (k ≤ 4 ∧ jj = 4 * i + k ∧ d = x / 10 ^ k) ∧ Hid (TextI n S w0 wt jj)) (fun _ _ v8 _ => 4 - (intOf v8).toNat)
          case atStart => exact ⟨0, j, x, rfl, rfl, rfl, ⟨by omega, HJ4.out, by simp⟩, TI.out⟩
          case round =>
            clear TI
            rename World => wt
            obtain ⟨k, jj, d, rfl, rfl, rfl, hkj, hti⟩ := hrel
            have TI := Lib.hid hti.out; clear hti
            have hjS : jj ≤ S := TI.out.2.1
            have HKJ := Lib.hid hkj.out; clear hkj
            have hk4 : k ≤ 4 := HKJ.out.1
            by_cases hgo : k < 4 ∧ jj < S
            · obtain ⟨hk, hj⟩ := hgo
              obtain ⟨A, hA⟩ : ∃ A, A = S - 1 - jj := ⟨_, rfl⟩
              have eA : (S : Int) - 1 - (jj : Int) = (A : Int) := by omega
              rw [eA]
              have hAS : A < S := by omega
              obtain ⟨cc, hcc, hff⟩ : ∃ v0, wt.cell? ⟨w0.heap.size, A, none⟩ = some v0 ∧ wt.frozen? ⟨w0.heap.size, A, none⟩ = false := by
                have h1 := TI.out.1
                exact ⟨_, h1.cell A (by rw [List.length_append, List.length_replicate, padN_length]; omega), h1.free _⟩
              obtain ⟨dd, hdd⟩ : ∃ dd, dd = d % 10 := ⟨_, rfl⟩
              obtain ⟨d2, hd2⟩ : ∃ d2, d2 = d / 10 := ⟨_, rfl⟩
              obtain ⟨c, hc⟩ : ∃ c, c = 48 + dd := ⟨_, rfl⟩
              obtain ⟨k1, hk1⟩ : ∃ k1, k1 = k + 1 := ⟨_, rfl⟩
              have HDB : Hid (d ≤ 10000) := by
                show _ ≤ _
                rw [HKJ.out.2.2]; exact Nat.le_trans (Nat.div_le_self _ _) (by have := HXB.out; omega)
              have hdn : d % 10 = n / 10 ^ jj % 10 := by
                rw [HKJ.out.2.2, HKJ.out.2.1]; exact digit_at HXV.out hk
              have ST := Lib.hid (TI.out.step hA hj (c := c) (by rw [hc, hdd, hdn]) (z := (c : Int)) rfl)
              have HQ1 : Hid (IntKind.i64.wrap ((d : Int).tdiv 10) = (d2 : Int)) := by
                show _ = _
                rw [IntWalk.i64_quo _ _ ⟨by omega, by have := HDB.out; omega, by omega⟩, hd2]; rfl
              have HQ2 : Hid (wrap64 ((d : Int) / 10) = (d2 : Int)) := by
                show _ = _
                rw [show (d : Int) / 10 = (d2 : Int) from by omega]; exact IntWalk.wrap64_in _ ⟨by omega, by have := HDB.out; omega⟩
              have HR1 : Hid ((d : Int).tmod 10 = (dd : Int)) := by
                show _ = _
                rw [hdd]; exact IntWalk.up_tmod rfl rfl
              have HR2 : Hid ((d : Int) % 10 = (dd : Int)) := by show _ = _; omega
              have HC1 : Hid (wrap64 (48 + (dd : Int)) = (c : Int)) := by
                show _ = _
                rw [show 48 + (dd : Int) = (c : Int) from by omega]; exact IntWalk.wrap64_in _ ⟨by omega, by omega⟩
              have HC2 : Hid (IntKind.u8.wrap (c : Int) = (c : Int)) := IntWalk.u8_in _ ⟨by omega, by omega⟩
              have HC3 : Hid (IntKind.u8.wrap (48 + (dd : Int)) = (c : Int)) := by
                show _ = _
                rw [show 48 + (dd : Int) = (c : Int) from by omega]; exact HC2.out
              have HC4 : Hid (IntKind.u8.wrap (wrap64 (48 + (dd : Int))) = (c : Int)) := by show _ = _; rw [HC1.out]; exact HC2.out
              have HWK : Hid (wrap64 ((k : Int) + 1) = (k1 : Int)) := by
                show _ = _
                rw [hk1]; exact IntWalk.wrap64_in _ ⟨by omega, by omega⟩
              have HWA : Hid (wrap64 ((A : Int) - 1) = (S : Int) - 1 - ((jj + 1 : Nat) : Int)) := by
                show _ = _
                rw [show (A : Int) - 1 = (S : Int) - 1 - ((jj + 1 : Nat) : Int) from by omega]; exact IntWalk.wrap64_in _ ⟨by omega, by have := HSB.out; omega⟩
              have HKJ2 : Hid (k1 ≤ 4 ∧ jj + 1 = 4 * i + k1 ∧ d2 = x / 10 ^ k1) := by
                obtain ⟨h1, h2, h3⟩ := HKJ.out
                refine ⟨by omega, by omega, by rw [hd2, h3, Nat.div_div_eq_div_mul, hk1, Nat.pow_succ]⟩
              have HK1 := Lib.hid hk1; have HK := Lib.hid hk
              have tA : decide (0 ≤ (A : Int)) = true := decide_eq_true (by omega)
              have tk : decide ((k : Int) < 4) = true := decide_eq_true (by omega)
              clear hdd hd2 hc hk1 hdn HKJ TI hA eA hk4 hjS hj hk
              have q1 := HQ1.out; have q2 := HQ2.out; have q3 := HR1.out; have q4 := HR2.out; have q5 := HC1.out; have q6 := HC4.out; have q7 := HC3.out; have q8 := HC2.out
              go_wp2_with fail
              clear q1 q2 q3 q4 q5 q6 q7 q8
              go_roundw
              case rel => exact ⟨k1, jj + 1, d2, congrArg (Value.int .i64) HWA.out, by first | with_reducible rfl | exact congrArg (Value.int .i64) HQ2.out | exact congrArg (Value.int .i64) HQ1.out, congrArg (Value.int .i64) HWK.out, HKJ2.out, ST.out⟩
              case measure => rw [HWK.out]; have := HK1.out; have := HK.out; simp [intOf]; omega
            · have hex : k = 4 ∨ jj = S := by omega
              have NX := Lib.hid (HIJ.out jj k HKJ.out.2.1 hk4 hjS hex)
              have HEX := Lib.hid hex
              rcases HEX.out with h4 | hS
              · clear hex hgo
                subst h4
                have HTI : Hid (TextI n S w0 wt jj) := TI.out
                clear HKJ TI hjS hk4
                go_wp2_with fail
                go_roundw
                case rel => exact ⟨i1, jj, by have := HI1.out; have := HLT.out; omega, rfl, congrArg (Value.int .i64) HW.out, by have := NX.out; rwa [← HI1.out] at this, HTI.out⟩
                case measure => rw [HW.out]; have := HI1.out; have := HLT.out; simp [intOf]; omega
              · by_cases hk : k < 4
                · have eA : (S : Int) - 1 - (jj : Int) = -1 := by omega
                  have EA := Lib.hid eA
                  rw [eA]
                  have HTI : Hid (TextI n S w0 wt jj) := TI.out
                  have tA : decide ((0 : Int) ≤ -1) = false := rfl
                  clear HKJ TI hjS hk4 hex hgo eA hS
                  go_wp2_with fail
                  go_roundw
                  case rel => exact ⟨i1, jj, by have := HI1.out; have := HLT.out; omega, congrArg (Value.int .i64) EA.out.symm, congrArg (Value.int .i64) HW.out, by have := NX.out; rwa [← HI1.out] at this, HTI.out⟩
                  case measure => rw [HW.out]; have := HI1.out; have := HLT.out; simp [intOf]; omega
                · have HTI : Hid (TextI n S w0 wt jj) := TI.out
                  clear HKJ TI hjS hk4 hex hgo hS
                  go_wp2_with fail
                  go_roundw
                  case rel => exact ⟨i1, jj, by have := HI1.out; have := HLT.out; omega, rfl, congrArg (Value.int .i64) HW.out, by have := NX.out; rwa [← HI1.out] at this, HTI.out⟩
                  case measure => rw [HW.out]; have := HI1.out; have := HLT.out; simp [intOf]; omega
        · have hiL : i = L := by omega
          have hrow : Row wk w0.heap.size .u8 5 (padN S n) := by
            have := TI.out.1
            rwa [hij.out.2 hiL] at this
          have hcv := TC.out wk hrow
          have HB9 := Lib.hid TI.out.2.2
          clear TI hij hiL hrow hi
          go_wp2_with fail
          go_ret
          exact ⟨rfl, HB9.out⟩
end Go.Proofs.YtegobakoflbnfaaGreatDoor.QA

namespace Go.Proofs.YtegobakoflbnfaaGreatDoor.QA
open Go Go.RowKit Go.Shelf WN LM

def IsR (n : Nat) : Rel := ⟨fun v w => RNum w v n, fun _ _ _ hb h => h.go hb⟩
theorem RFrac.go {w w' : World} {v : Value} {s : Bool} {n d : Nat} (h : RFrac w v s n d) (hb : Below w.heap.size w w') : RFrac w' v s n d := by
  obtain ⟨o1, k1, c1, o2, k2, c2, rfl, h1, h2⟩ := h
  exact ⟨o1, k1, c1, o2, k2, c2, rfl, h1.go hb, h2.go hb⟩

set_option maxHeartbeats 2000000 in
set_option maxRecDepth 100000 in
theorem rwhole_any {w : World} {v : Value} {s : Bool} {n d : Nat} (h : RFrac w v s n d) (ld : RLen d ≤ 100000) : Calls Tryz.prog 79 #[v] w fun e w' => e = .returned (.bool (decide (d = 1))) ∧ Below w.heap.size w w' := by
  obtain ⟨o1, k1, c1, o2, k2, c2, rfl, h1, h2⟩ := h
  have bx := BoxQ.new w (.bool s) (.slice o1 k1 c1) (.slice o2 k2 c2)
  have b1 := below_alloc w (.cells #[.bool s, .slice o1 k1 c1, .slice o2 k2 c2] 76)
  have BX := Lib.hid bx; have HB1 := Lib.hid b1; have H2 := Lib.hid (h2.go b1)
  have LD := Lib.hid ld
  have N1 : Hid (∀ W, Calls Tryz.prog 73 #[.int .u64 1] W (RRet W 1)) := fun W => natOf_any 1 (by omega) W
  obtain ⟨c, hc⟩ : ∃ c : Int, cmpN d 1 = c := ⟨_, rfl⟩
  have HC := Lib.hid hc
  have CMP : Hid (∀ W v u, RNum W v d → RNum W u 1 → Calls Tryz.prog 76 #[v, u] W fun e w' => e = .returned (.int .i64 c) ∧ Below W.heap.size W w') := fun W v u h1 h2 => by
    have := rcmp_any h1 h2 (by omega) (by rw [rlen_one]; omega)
    rwa [hc] at this
  clear h1 h2 ld bx b1 hc
  go_enter Tryz.func79, Tryz.ntmps79
  go_wp2_with fail
  generalize w.alloc (.cells #[.bool s, .slice o1 k1 c1, .slice o2 k2 c2] 76) = w1 at *
  refine region_inv 4 8 [(3, Is (.pointer (some ⟨w.heap.size, 2, none⟩))), (4, Is (.slice o2 k2 c2)), (5, IsR 1), (6, Is (.int .i64 c))] (by kernel_rfl) rfl (by kernel_rfl) ?_ ?_
  · refine steps_cons rfl (fun A_ W hb hr hg K hK => ?_) <| steps_cons rfl (fun A_ W hb hr hg K hK => ?_) <| steps_cons rfl (fun A_ W hb hr hg K hK => ?_) <| steps_cons rfl (fun A_ W hb hr hg K hK => ?_) trivial
    · have e0 : A_.tmps[1]?.getD undef = .pointer (some ⟨w.heap.size, 0, none⟩) := hb 1 (by kernel_rfl)
      clear hb hr
      go_simp
      exact hK _ _ (Below.refl _ _) (rfl)
    · have e0 : A_.tmps[3]?.getD undef = .pointer (some ⟨w.heap.size, 2, none⟩) := hr 3 (by kernel_rfl)
      clear hb hr
      have c0 := (BX.out.go hg).facts.2.2.1
      go_simp; exact hK _ _ (Below.refl _ _) (rfl)
    · clear hb hr
      go_simp
      refine (N1.out W).mono ?_; rintro e w5 ⟨v5, rfl, hv5, hb5⟩
      exact hK _ _ hb5 hv5
    · have e0 : A_.tmps[4]?.getD undef = .slice o2 k2 c2 := hr 4 (by kernel_rfl)
      have h5 : RNum W (A_.tmps[5]?.getD undef) 1 := hr 5 (by kernel_rfl)
      clear hb hr
      have H5 := Lib.hid h5; clear h5
      go_simp
      refine (CMP.out _ _ _ (H2.out.go hg) H5.out).mono ?_; rintro e w5 ⟨rfl, hb5⟩
      exact hK _ _ hb5 rfl
  rintro g101 w101 hb101 ⟨-, -, -, h6, -⟩
  simp only [List.drop_succ_cons, List.drop_zero, List.take_succ_cons, List.take_zero, putHead, Option.getD_some, Act.put, List.setIfInBounds_toArray, List.set_cons_zero, List.set_cons_succ]
  replace h6 : g101 6 = .int .i64 c := h6
  generalize g101 6 = v6 at *
  subst h6
  have HB2 := Lib.hid (bstep HB1.out hb101); clear hb101
  go_wp2_with fail
  go_ret
  refine ⟨?_, HB2.out⟩
  have : (c == 0) = decide (d = 1) := by
    rw [← HC.out]
    unfold cmpN
    by_cases h1 : d < 1
    · rw [if_pos h1, show decide (d = 1) = false from decide_eq_false (by omega)]; rfl
    · rw [if_neg h1]
      by_cases h2 : 1 < d
      · rw [if_pos h2, show decide (d = 1) = false from decide_eq_false (by omega)]; rfl
      · rw [if_neg h2, show decide (d = 1) = true from decide_eq_true (by omega)]; rfl
  rw [← this]
  rfl
end Go.Proofs.YtegobakoflbnfaaGreatDoor.QA

namespace Go.Proofs.YtegobakoflbnfaaGreatDoor.QA
open Go Go.RowKit Go.Shelf WN LM

theorem ba_app (a b : List UInt8) : (⟨a.toArray⟩ : ByteArray) ++ ⟨b.toArray⟩ = ⟨(a ++ b).toArray⟩ := by
  apply ByteArray.ext
  simp
theorem rat_t0 {n : Nat} : (⟨#[45]⟩ : ByteArray) ++ ⟨(decT n).toArray⟩ = ⟨(ratText true n 1).toArray⟩ := by
  rw [show (⟨#[45]⟩ : ByteArray) = ⟨([45] : List UInt8).toArray⟩ from rfl, ba_app]
  congr 2
  unfold ratText; simp
theorem rat_t1 {n d : Nat} (h : ¬ d = 1) : (⟨#[45]⟩ : ByteArray) ++ ⟨(decT n).toArray⟩ ++ ⟨#[47]⟩ ++ ⟨(decT d).toArray⟩ = ⟨(ratText true n d).toArray⟩ := by
  rw [show (⟨#[45]⟩ : ByteArray) = ⟨([45] : List UInt8).toArray⟩ from rfl, show (⟨#[47]⟩ : ByteArray) = ⟨([47] : List UInt8).toArray⟩ from rfl, ba_app, ba_app, ba_app]
  congr 2
  unfold ratText; simp [h]
theorem rat_f1 {n d : Nat} (h : ¬ d = 1) : (⟨(decT n).toArray⟩ : ByteArray) ++ ⟨#[47]⟩ ++ ⟨(decT d).toArray⟩ = ⟨(ratText false n d).toArray⟩ := by
  rw [show (⟨#[47]⟩ : ByteArray) = ⟨([47] : List UInt8).toArray⟩ from rfl, ba_app, ba_app]
  congr 2
  unfold ratText; simp [h]
def IsRF (s : Bool) (n d : Nat) : Rel := ⟨fun v w => RFrac w v s n d, fun _ _ _ hb h => h.go hb⟩
theorem decT_size {n : Nat} (h : RLen n ≤ 1000) : (⟨(decT n).toArray⟩ : ByteArray).size ≤ 4001 := by
  have h1 := (dig_len4 n).1
  show (decT n).toArray.size ≤ _
  rw [List.size_toArray, decT_len]; omega

set_option maxHeartbeats 2000000 in
set_option maxRecDepth 100000 in
theorem rwrite_any {w : World} {v : Value} {s : Bool} {n d : Nat} (h : RFrac w v s n d) (ln : RLen n ≤ 1000) (ld : RLen d ≤ 1000) : Calls Tryz.prog 53 #[v] w fun e w' => e = .returned (.string ⟨(ratText s n d).toArray⟩) ∧ Below w.heap.size w w' := by
  obtain ⟨o1, k1, c1, o2, k2, c2, rfl, h1, h2⟩ := h
  have bx := BoxQ.new w (.bool s) (.slice o1 k1 c1) (.slice o2 k2 c2)
  have b1 := below_alloc w (.cells #[.bool s, .slice o1 k1 c1, .slice o2 k2 c2] 76)
  have BX := Lib.hid bx; have HB1 := Lib.hid b1; have H1 := Lib.hid (h1.go b1); have H2 := Lib.hid (h2.go b1)
  have TX : Hid (∀ W v x, RNum W v x → RLen x ≤ 1000 → Calls Tryz.prog 78 #[v] W fun e w' => e = .returned (.string ⟨(decT x).toArray⟩) ∧ Below W.heap.size W w') := fun W v x h1 h2 => rtext_any h1 (by omega)
  have WH : Hid (∀ W v s n d, RFrac W v s n d → RLen d ≤ 1000 → Calls Tryz.prog 79 #[v] W fun e w' => e = .returned (.bool (decide (d = 1))) ∧ Below W.heap.size W w') := fun W v s n d h1 h2 => rwhole_any h1 (by omega)
  have LN := Lib.hid ln; have LD := Lib.hid ld
  have hsn := decT_size ln; have hsd := decT_size ld
  have RT : Hid (ratText s n d = (if s then [45] else []) ++ decT n ++ (if d = 1 then [] else 47 :: decT d)) := rfl
  clear h1 h2 ln ld b1
  obtain ⟨x0, x1, x2, f0, f1, f2⟩ := bx.facts
  clear bx
  obtain ⟨tn, htn⟩ : ∃ tn, tn = (⟨(decT n).toArray⟩ : ByteArray) := ⟨_, rfl⟩
  obtain ⟨td, htd⟩ : ∃ td, td = (⟨(decT d).toArray⟩ : ByteArray) := ⟨_, rfl⟩
  rw [← htn] at hsn; rw [← htd] at hsd
  have HTN := Lib.hid htn; have HTD := Lib.hid htd
  clear htn htd
  go_enter Tryz.func53, Tryz.ntmps53
  go_wp2_with fail
  generalize w.alloc (.cells #[.bool s, .slice o1 k1 c1, .slice o2 k2 c2] 76) = w1 at *
  refine (TX.out _ _ _ H1.out LN.out).mono ?_; rintro e w2 ⟨rfl, hb2⟩
  rw [← HTN.out]
  have BX2 := Lib.hid (BX.out.go hb2); have HB2 := Lib.hid (bstep HB1.out hb2); have HN2 := Lib.hid (H1.out.go hb2); have HD2 := Lib.hid (H2.out.go hb2)
  clear hb2 x0 x1 x2 f0 f1 f2
  obtain ⟨x0, x1, x2, f0, f1, f2⟩ := BX2.out.facts
  cases s
  · go_wp2_with fail
    refine (WH.out _ _ _ _ _ ⟨_, _, _, _, _, _, rfl, HN2.out, HD2.out⟩ LD.out).mono ?_; rintro e w3 ⟨rfl, hb3⟩
    have BX3 := Lib.hid (BX2.out.go hb3); have HB3 := Lib.hid (bstep HB2.out hb3); have HD3 := Lib.hid (HD2.out.go hb3)
    clear hb3 x0 x1 x2 f0 f1 f2
    obtain ⟨x0, x1, x2, f0, f1, f2⟩ := BX3.out.facts
    by_cases h1 : d = 1
    · rw [decide_eq_true h1]
      have H1' := Lib.hid h1; clear h1
      go_wp2_with fail
      go_ret
      exact ⟨by rw [RT.out, if_pos H1'.out]; show Ending.returned (Value.string tn) = _; rw [HTN.out]; simp, HB3.out⟩
    · rw [decide_eq_false h1]
      have H1' := Lib.hid h1; clear h1
      go_wp2_with fail
      refine (TX.out _ _ _ HD3.out LD.out).mono ?_; rintro e w4 ⟨rfl, hb4⟩
      rw [← HTD.out]
      have HB4 := Lib.hid (bstep HB3.out hb4); clear hb4
      go_wp2_with fail
      go_ret
      refine ⟨?_, HB4.out⟩
      show Ending.returned (Value.string (tn ++ ⟨#[47]⟩ ++ td)) = _
      rw [HTN.out, HTD.out, rat_f1 H1'.out]
  · go_wp2_with fail
    refine (WH.out _ _ _ _ _ ⟨_, _, _, _, _, _, rfl, HN2.out, HD2.out⟩ LD.out).mono ?_; rintro e w3 ⟨rfl, hb3⟩
    have BX3 := Lib.hid (BX2.out.go hb3); have HB3 := Lib.hid (bstep HB2.out hb3); have HD3 := Lib.hid (HD2.out.go hb3)
    clear hb3 x0 x1 x2 f0 f1 f2
    obtain ⟨x0, x1, x2, f0, f1, f2⟩ := BX3.out.facts
    by_cases h1 : d = 1
    · rw [decide_eq_true h1]
      have H1' := Lib.hid h1; clear h1
      go_wp2_with fail
      go_ret
      refine ⟨?_, HB3.out⟩
      show Ending.returned (Value.string (⟨#[45]⟩ ++ tn)) = _
      rw [HTN.out, H1'.out, rat_t0]
    · rw [decide_eq_false h1]
      have H1' := Lib.hid h1; clear h1
      go_wp2_with fail
      refine (TX.out _ _ _ HD3.out LD.out).mono ?_; rintro e w4 ⟨rfl, hb4⟩
      rw [← HTD.out]
      have HB4 := Lib.hid (bstep HB3.out hb4); clear hb4
      go_wp2_with fail
      go_ret
      refine ⟨?_, HB4.out⟩
      show Ending.returned (Value.string (⟨#[45]⟩ ++ tn ++ ⟨#[47]⟩ ++ td)) = _
      rw [HTN.out, HTD.out, rat_t1 H1'.out]

end Go.Proofs.YtegobakoflbnfaaGreatDoor.QA

namespace Go.Proofs.YtegobakoflbnfaaGreatDoor.QA
open Go Go.RowKit Go.Shelf WN LM

def RRetQ (w : World) (q : Q3) (e : Ending) (w' : World) : Prop := ∃ v, e = .returned v ∧ RFrac w' v q.1 q.2.1 q.2.2 ∧ Below w.heap.size w w'
def lowQ (s : Bool) (n d : Nat) : Q3 := (s && decide (n ≠ 0), n / Nat.gcd n d, d / Nat.gcd n d)
theorem low_spec {s : Bool} {n d : Nat} (h : 0 < d) : Can (lowQ s n d) ∧ toR (lowQ s n d) = mkRat (sgi s n) d := by
  have hg : 0 < Nat.gcd n d := Nat.gcd_pos_of_pos_right _ h
  have hn := Nat.div_mul_cancel (Nat.gcd_dvd_left n d)
  have hd := Nat.div_mul_cancel (Nat.gcd_dvd_right n d)
  have hd0 : 0 < d / Nat.gcd n d := Nat.div_pos (Nat.le_of_dvd h (Nat.gcd_dvd_right n d)) hg
  refine ⟨⟨hd0, Nat.coprime_div_gcd_div_gcd hg, ?_⟩, ?_⟩
  · intro hs
    show n / Nat.gcd n d ≠ 0
    have hn0 : n ≠ 0 := by
      have : (s && decide (n ≠ 0)) = true := hs
      simp at this; exact this.2
    intro h0
    rw [h0, Nat.zero_mul] at hn
    exact hn0 hn.symm
  · show mkRat (sgi (s && decide (n ≠ 0)) (n / Nat.gcd n d)) (d / Nat.gcd n d) = _
    have e : sgi (s && decide (n ≠ 0)) (n / Nat.gcd n d) = sgi s (n / Nat.gcd n d) := by
      by_cases h0 : n = 0
      · subst h0; simp [sgi]
      · simp [h0]
    rw [e]
    have e2 : sgi s n = sgi s (n / Nat.gcd n d) * (Nat.gcd n d : Nat) := by rw [← sgi_mul, hn]
    have h9 := Rat.mkRat_mul_right (n := sgi s (n / Nat.gcd n d)) (d := d / Nat.gcd n d) (a := Nat.gcd n d) (by omega)
    rw [hd, ← e2] at h9
    exact h9.symm

set_option maxHeartbeats 2000000 in
set_option maxRecDepth 100000 in
theorem lowest_any {w : World} {va vb : Value} {n d : Nat} (s : Bool) (ha : RNum w va n) (hb : RNum w vb d) (h0 : 0 < d) (ln : RLen n ≤ 100000) (ld : RLen d ≤ 100000) : Calls Tryz.prog 72 #[.bool s, va, vb] w (RRetQ w (lowQ s n d)) := by
  have N1 : Hid (∀ W, Calls Tryz.prog 73 #[.int .u64 1] W (RRet W 1)) := fun W => natOf_any 1 (by omega) W
  have GC : Hid (∀ W, Below w.heap.size w W → Calls Tryz.prog 91 #[va, vb] W (RRet W (Nat.gcd n d))) := fun W h => rgcd_any (ha.go h) (hb.go h) ln ld
  have hg0 : 0 < Nat.gcd n d := Nat.gcd_pos_of_pos_right _ h0
  have lg : RLen (Nat.gcd n d) ≤ 100000 := Nat.le_trans (rlen_mono (Nat.gcd_le_right _ h0)) ld
  have DN : Hid (∀ W u, Below w.heap.size w W → RNum W u (Nat.gcd n d) → Calls Tryz.prog 92 #[va, u] W (RRet2 W (n / Nat.gcd n d) (n % Nat.gcd n d))) := fun W u h1 h2 => rdiv_any (ha.go h1) h2 hg0 ln lg
  have DD : Hid (∀ W u, Below w.heap.size w W → RNum W u (Nat.gcd n d) → Calls Tryz.prog 92 #[vb, u] W (RRet2 W (d / Nat.gcd n d) (d % Nat.gcd n d))) := fun W u h1 h2 => rdiv_any (hb.go h1) h2 hg0 ld lg
  have bx := BoxQ.new w (.bool false) (.slice none 0 0) (.slice none 0 0)
  have b1 := below_alloc w (.cells #[.bool false, .slice none 0 0, .slice none 0 0] 76)
  have BX := Lib.hid bx; have HB1 := Lib.hid b1
  obtain ⟨oa, ca, rfl⟩ := ha.shape
  obtain ⟨ob, cb, rfl⟩ := hb.shape
  clear bx b1 ha hb lg hg0 ln ld
  by_cases hn : n = 0
  · subst hn
    have HQ : Hid (lowQ s 0 d = (false, 0, 1)) := by
      show _ = _
      unfold lowQ
      rw [Nat.gcd_zero_left, Nat.zero_div, Nat.div_self h0]; simp
    rw [rlen_zero]
    rw [rlen_zero] at GC DN
    clear h0
    go_enter Tryz.func72, Tryz.ntmps72
    go_wp2_with fail
    generalize w.alloc (.cells #[.bool false, .slice none 0 0, .slice none 0 0] 76) = w1 at *
    refine (N1.out _).mono ?_; rintro e w2 ⟨v2, rfl, hv2, hb2⟩
    have BX2 := Lib.hid (BX.out.go hb2); have HB2 := Lib.hid (bstep HB1.out hb2); have HV2 := Lib.hid hv2
    clear hb2 hv2
    obtain ⟨o2, c2, rfl⟩ := HV2.out.shape
    obtain ⟨x0, x1, x2, f0, f1, f2⟩ := BX2.out.facts
    go_wp2_with fail
    obtain ⟨e0, e1, e2, hn9, hd9, hb9⟩ := boxq_ret (t := false) BX2.out (RNum.nil w2) HV2.out HB2.out (Nat.le_refl _)
    refine bodyPost_ret (v := .agg #[.bool false, .slice none 0 0, .slice o2 (RLen 1) c2]) ?_ rfl ⟨_, rfl, by rw [HQ.out]; exact ⟨_, _, _, _, _, _, rfl, hn9, hd9⟩, hb9⟩
    simp [results, Tryz.f72, go_sem, e0, e1, e2]
  · have hl0 : ¬ RLen n = 0 := fun h => hn (rlen_eq_zero.1 h)
    have HQ : Hid (lowQ s n d = (s, n / Nat.gcd n d, d / Nat.gcd n d)) := by
      show _ = _
      unfold lowQ; simp [hn]
    obtain ⟨R, hR⟩ : ∃ R, RLen n = R := ⟨_, rfl⟩
    rw [hR] at hl0 GC DN ⊢
    have tl : ((R : Int) == 0) = false := by rw [beq_eq_false_iff_ne]; omega
    clear hR hl0 h0 hn
    go_enter Tryz.func72, Tryz.ntmps72
    go_wp2_with fail
    generalize w.alloc (.cells #[.bool false, .slice none 0 0, .slice none 0 0] 76) = w1 at *
    refine (GC.out _ HB1.out).mono ?_; rintro e w2 ⟨v2, rfl, hv2, hb2⟩
    have BX2 := Lib.hid (BX.out.go hb2); have HB2 := Lib.hid (bstep HB1.out hb2); have HV2 := Lib.hid hv2
    clear hb2 hv2
    go_wp2_with fail
    refine (DN.out _ _ HB2.out HV2.out).mono ?_; rintro e w3 ⟨v3, v4, rfl, hv3, -, hb3⟩
    have BX3 := Lib.hid (BX2.out.go hb3); have HB3 := Lib.hid (bstep HB2.out hb3); have HV3 := Lib.hid hv3; have HG3 := Lib.hid (HV2.out.go hb3)
    clear hb3 hv3
    go_wp2_with fail
    refine (DD.out _ _ HB3.out HG3.out).mono ?_; rintro e w4 ⟨v5, v6, rfl, hv5, -, hb4⟩
    have BX4 := Lib.hid (BX3.out.go hb4); have HB4 := Lib.hid (bstep HB3.out hb4); have HV4 := Lib.hid (HV3.out.go hb4); have HV5 := Lib.hid hv5
    clear hb4 hv5
    obtain ⟨o2, c2, rfl⟩ := HV4.out.shape
    obtain ⟨o3, c3, rfl⟩ := HV5.out.shape
    obtain ⟨x0, x1, x2, f0, f1, f2⟩ := BX4.out.facts
    go_wp2_with fail
    obtain ⟨e0, e1, e2, hn9, hd9, hb9⟩ := boxq_ret (t := s) BX4.out HV4.out HV5.out HB4.out (Nat.le_refl _)
    refine bodyPost_ret (v := .agg #[.bool s, .slice o2 (RLen (n / Nat.gcd n d)) c2, .slice o3 (RLen (d / Nat.gcd n d)) c3]) ?_ rfl ⟨_, rfl, by rw [HQ.out]; exact ⟨_, _, _, _, _, _, rfl, hn9, hd9⟩, hb9⟩
    simp [results, Tryz.f72, go_sem, e0, e1, e2]

end Go.Proofs.YtegobakoflbnfaaGreatDoor.QA

namespace Go.Proofs.YtegobakoflbnfaaGreatDoor.QA
open Go Go.RowKit Go.Shelf WN LM

theorem boxesQ3 (w : World) (a0 a1 a2 b0 b1 b2 r0 r1 r2 : Value) :
    Below w.heap.size w (((w.alloc (.cells #[a0, a1, a2] 76)).alloc (.cells #[b0, b1, b2] 76)).alloc (.cells #[r0, r1, r2] 76)) ∧
    BoxQ (((w.alloc (.cells #[a0, a1, a2] 76)).alloc (.cells #[b0, b1, b2] 76)).alloc (.cells #[r0, r1, r2] 76)) w.heap.size a0 a1 a2 ∧
    BoxQ (((w.alloc (.cells #[a0, a1, a2] 76)).alloc (.cells #[b0, b1, b2] 76)).alloc (.cells #[r0, r1, r2] 76)) (w.heap.size + 1) b0 b1 b2 ∧
    BoxQ (((w.alloc (.cells #[a0, a1, a2] 76)).alloc (.cells #[b0, b1, b2] 76)).alloc (.cells #[r0, r1, r2] 76)) (w.heap.size + 2) r0 r1 r2 := by
  have s1 : (w.alloc (.cells #[a0, a1, a2] 76)).heap.size = w.heap.size + 1 := by simp
  have s2 : ((w.alloc (.cells #[a0, a1, a2] 76)).alloc (.cells #[b0, b1, b2] 76)).heap.size = w.heap.size + 2 := by simp
  refine ⟨(((Below.refl _ w).alloc (Nat.le_refl _) _).alloc (by omega) _).alloc (by omega) _, ?_, ?_, ?_⟩
  · exact (alloc_lt _ _ _ (by omega)).trans ((alloc_lt _ _ _ (by omega)).trans (BoxQ.new w a0 a1 a2))
  · exact (alloc_lt _ _ _ (by omega)).trans (by have := BoxQ.new (w.alloc (.cells #[a0, a1, a2] 76)) b0 b1 b2; rwa [s1] at this)
  · have := BoxQ.new ((w.alloc (.cells #[a0, a1, a2] 76)).alloc (.cells #[b0, b1, b2] 76)) r0 r1 r2; rwa [s2] at this

set_option maxHeartbeats 4000000 in
set_option maxRecDepth 100000 in
theorem rtimes_any {w : World} {v u : Value} {s t : Bool} {n d m c : Nat} (h : RFrac w v s n d) (k : RFrac w u t m c) (ln : RLen n ≤ 40000) (ld : RLen d ≤ 40000) (lm : RLen m ≤ 40000) (lc : RLen c ≤ 40000) (d0 : 0 < d) (p0 : 0 < c) :
    Calls Tryz.prog 49 #[v, u] w (RRetQ w (lowQ (s != t) (n * m) (d * c))) := by
  obtain ⟨o1, k1, c1, o2, k2, c2, rfl, hn, hd⟩ := h
  obtain ⟨o3, k3, c3, o4, k4, c4, rfl, hm, hc⟩ := k
  obtain ⟨B1, bA, bB, bR⟩ := boxesQ3 w (.bool s) (.slice o1 k1 c1) (.slice o2 k2 c2) (.bool t) (.slice o3 k3 c3) (.slice o4 k4 c4) (.bool false) (.slice none 0 0) (.slice none 0 0)
  have HN := Lib.hid (hn.go B1); have HD := Lib.hid (hd.go B1); have HM := Lib.hid (hm.go B1); have HC := Lib.hid (hc.go B1)
  have BA := Lib.hid bA; have BB := Lib.hid bB; have BR := Lib.hid bR; have HB1 := Lib.hid B1
  have LN : Hid (RLen n ≤ 1000000) := Nat.le_trans ln (by omega)
  have LD : Hid (RLen d ≤ 1000000) := Nat.le_trans ld (by omega)
  have LM : Hid (RLen m ≤ 1000000) := Nat.le_trans lm (by omega)
  have LC : Hid (RLen c ≤ 1000000) := Nat.le_trans lc (by omega)
  have LW : Hid (∀ W v u, RNum W v (n * m) → RNum W u (d * c) → Calls Tryz.prog 72 #[.bool (s != t), v, u] W (RRetQ W (lowQ (s != t) (n * m) (d * c)))) := fun W v u h1 h2 => lowest_any (s != t) h1 h2 (Nat.mul_pos d0 p0) (Nat.le_trans (rlen_mul _ _) (by omega)) (Nat.le_trans (rlen_mul _ _) (by omega))
  clear hn hd hm hc bA bB bR B1 ln ld lm lc d0 p0
  go_enter Tryz.func49, Tryz.ntmps49
  go_wp2_with fail
  generalize ((w.alloc (.cells #[.bool s, .slice o1 k1 c1, .slice o2 k2 c2] 76)).alloc (.cells #[.bool t, .slice o3 k3 c3, .slice o4 k4 c4] 76)).alloc (.cells #[.bool false, .slice none 0 0, .slice none 0 0] 76) = w1 at *
  refine region_inv 16 21 [(5, Is (.pointer (some ⟨w.heap.size, 0, none⟩))), (6, Is (.bool s)), (7, Is (.pointer (some ⟨w.heap.size + 1, 0, none⟩))), (8, Is (.bool t)), (9, Is (.bool (s != t))), (10, Is (.pointer (some ⟨w.heap.size, 1, none⟩))), (11, Is (.slice o1 k1 c1)), (12, Is (.pointer (some ⟨w.heap.size + 1, 1, none⟩))), (13, Is (.slice o3 k3 c3)), (14, IsR (n * m)), (15, Is (.pointer (some ⟨w.heap.size, 2, none⟩))), (16, Is (.slice o2 k2 c2)), (17, Is (.pointer (some ⟨w.heap.size + 1, 2, none⟩))), (18, Is (.slice o4 k4 c4)), (19, IsR (d * c)), (20, IsRF (lowQ (s != t) (n * m) (d * c)).1 (lowQ (s != t) (n * m) (d * c)).2.1 (lowQ (s != t) (n * m) (d * c)).2.2)] (by kernel_rfl) rfl (by kernel_rfl) ?_ ?_
  · refine steps_cons rfl (fun A_ W hb hr hg K hK => ?_) <| steps_cons rfl (fun A_ W hb hr hg K hK => ?_) <| steps_cons rfl (fun A_ W hb hr hg K hK => ?_) <| steps_cons rfl (fun A_ W hb hr hg K hK => ?_) <| steps_cons rfl (fun A_ W hb hr hg K hK => ?_) <| steps_cons rfl (fun A_ W hb hr hg K hK => ?_) <| steps_cons rfl (fun A_ W hb hr hg K hK => ?_) <| steps_cons rfl (fun A_ W hb hr hg K hK => ?_) <| steps_cons rfl (fun A_ W hb hr hg K hK => ?_) <| steps_cons rfl (fun A_ W hb hr hg K hK => ?_) <| steps_cons rfl (fun A_ W hb hr hg K hK => ?_) <| steps_cons rfl (fun A_ W hb hr hg K hK => ?_) <| steps_cons rfl (fun A_ W hb hr hg K hK => ?_) <| steps_cons rfl (fun A_ W hb hr hg K hK => ?_) <| steps_cons rfl (fun A_ W hb hr hg K hK => ?_) <| steps_cons rfl (fun A_ W hb hr hg K hK => ?_) trivial
    · have e0 : A_.tmps[2]?.getD undef = .pointer (some ⟨w.heap.size, 0, none⟩) := hb 2 (by kernel_rfl)
      clear hb hr; go_simp; exact hK _ _ (Below.refl _ _) rfl
    · have e0 : A_.tmps[5]?.getD undef = .pointer (some ⟨w.heap.size, 0, none⟩) := hr 5 (by kernel_rfl)
      have c0 := (BA.out.go hg).facts.1
      clear hb hr; go_simp; exact hK _ _ (Below.refl _ _) rfl
    · have e0 : A_.tmps[3]?.getD undef = .pointer (some ⟨w.heap.size + 1, 0, none⟩) := hb 3 (by kernel_rfl)
      clear hb hr; go_simp; exact hK _ _ (Below.refl _ _) rfl
    · have e0 : A_.tmps[7]?.getD undef = .pointer (some ⟨w.heap.size + 1, 0, none⟩) := hr 7 (by kernel_rfl)
      have c0 := (BB.out.go hg).facts.1
      clear hb hr; go_simp; exact hK _ _ (Below.refl _ _) rfl
    · have e0 : A_.tmps[6]?.getD undef = .bool s := hr 6 (by kernel_rfl)
      have e1 : A_.tmps[8]?.getD undef = .bool t := hr 8 (by kernel_rfl)
      clear hb hr; go_simp; exact hK _ _ (Below.refl _ _) rfl
    · have e0 : A_.tmps[2]?.getD undef = .pointer (some ⟨w.heap.size, 0, none⟩) := hb 2 (by kernel_rfl)
      clear hb hr; go_simp; exact hK _ _ (Below.refl _ _) rfl
    · have e0 : A_.tmps[10]?.getD undef = .pointer (some ⟨w.heap.size, 1, none⟩) := hr 10 (by kernel_rfl)
      have c0 := (BA.out.go hg).facts.2.1
      clear hb hr; go_simp; exact hK _ _ (Below.refl _ _) rfl
    · have e0 : A_.tmps[3]?.getD undef = .pointer (some ⟨w.heap.size + 1, 0, none⟩) := hb 3 (by kernel_rfl)
      clear hb hr; go_simp; exact hK _ _ (Below.refl _ _) rfl
    · have e0 : A_.tmps[12]?.getD undef = .pointer (some ⟨w.heap.size + 1, 1, none⟩) := hr 12 (by kernel_rfl)
      have c0 := (BB.out.go hg).facts.2.1
      clear hb hr; go_simp; exact hK _ _ (Below.refl _ _) rfl
    · have e0 : A_.tmps[11]?.getD undef = .slice o1 k1 c1 := hr 11 (by kernel_rfl)
      have e1 : A_.tmps[13]?.getD undef = .slice o3 k3 c3 := hr 13 (by kernel_rfl)
      clear hb hr; go_simp
      refine (rmul_any (HN.out.go hg) (HM.out.go hg) LN.out LM.out).mono ?_; rintro e w5 ⟨v5, rfl, hv5, hb5⟩
      exact hK _ _ hb5 hv5
    · have e0 : A_.tmps[2]?.getD undef = .pointer (some ⟨w.heap.size, 0, none⟩) := hb 2 (by kernel_rfl)
      clear hb hr; go_simp; exact hK _ _ (Below.refl _ _) rfl
    · have e0 : A_.tmps[15]?.getD undef = .pointer (some ⟨w.heap.size, 2, none⟩) := hr 15 (by kernel_rfl)
      have c0 := (BA.out.go hg).facts.2.2.1
      clear hb hr; go_simp; exact hK _ _ (Below.refl _ _) rfl
    · have e0 : A_.tmps[3]?.getD undef = .pointer (some ⟨w.heap.size + 1, 0, none⟩) := hb 3 (by kernel_rfl)
      clear hb hr; go_simp; exact hK _ _ (Below.refl _ _) rfl
    · have e0 : A_.tmps[17]?.getD undef = .pointer (some ⟨w.heap.size + 1, 2, none⟩) := hr 17 (by kernel_rfl)
      have c0 := (BB.out.go hg).facts.2.2.1
      clear hb hr; go_simp; exact hK _ _ (Below.refl _ _) rfl
    · have e0 : A_.tmps[16]?.getD undef = .slice o2 k2 c2 := hr 16 (by kernel_rfl)
      have e1 : A_.tmps[18]?.getD undef = .slice o4 k4 c4 := hr 18 (by kernel_rfl)
      clear hb hr; go_simp
      refine (rmul_any (HD.out.go hg) (HC.out.go hg) LD.out LC.out).mono ?_; rintro e w5 ⟨v5, rfl, hv5, hb5⟩
      exact hK _ _ hb5 hv5
    · have e0 : A_.tmps[9]?.getD undef = .bool (s != t) := hr 9 (by kernel_rfl)
      have h5 : RNum W (A_.tmps[14]?.getD undef) (n * m) := hr 14 (by kernel_rfl)
      have h6 : RNum W (A_.tmps[19]?.getD undef) (d * c) := hr 19 (by kernel_rfl)
      have H5 := Lib.hid h5; have H6 := Lib.hid h6
      clear hb hr h5 h6; go_simp
      refine (LW.out _ _ _ H5.out H6.out).mono ?_; rintro e w5 ⟨v5, rfl, hv5, hb5⟩
      exact hK _ _ hb5 hv5
  rintro g4 w14 hb14 ⟨-, -, -, -, -, -, -, -, -, -, -, -, -, -, -, h20, -⟩
  simp only [List.drop_succ_cons, List.drop_zero, List.take_succ_cons, List.take_zero, putHead, Option.getD_some, Act.put, List.setIfInBounds_toArray, List.set_cons_zero, List.set_cons_succ]
  replace h20 : RFrac w14 (g4 20) (lowQ (s != t) (n * m) (d * c)).1 (lowQ (s != t) (n * m) (d * c)).2.1 (lowQ (s != t) (n * m) (d * c)).2.2 := h20
  generalize g4 20 = v20 at *
  have HQ : Hid (∀ e w', RRetQ w (lowQ (s != t) (n * m) (d * c)) e w' → RRetQ w (lowQ (s != t) (n * m) (d * c)) e w') := fun _ _ h => h
  generalize lowQ (s != t) (n * m) (d * c) = q at *
  obtain ⟨o7, k7, c7, o8, k8, c8, rfl, hqn, hqd⟩ := h20
  have HB9 := Lib.hid (bstep HB1.out hb14); have BR9 := Lib.hid (BR.out.go hb14); have QN := Lib.hid hqn; have QD := Lib.hid hqd
  clear hb14 hqn hqd LW
  obtain ⟨x0, x1, x2, f0, f1, f2⟩ := BR9.out.facts
  go_wp2_with fail
  obtain ⟨e0, e1, e2, hn9, hd9, hb9⟩ := boxq_ret (t := q.1) BR9.out QN.out QD.out HB9.out (by omega)
  refine bodyPost_ret (v := .agg #[.bool q.1, .slice o7 k7 c7, .slice o8 k8 c8]) ?_ rfl ⟨_, rfl, ⟨_, _, _, _, _, _, rfl, hn9, hd9⟩, hb9⟩
  simp [results, Tryz.f49, go_sem, e0, e1, e2]

set_option maxHeartbeats 4000000 in
set_option maxRecDepth 100000 in
theorem rover_any {w : World} {v u : Value} {s t : Bool} {n d m c : Nat} (h : RFrac w v s n d) (k : RFrac w u t m c) (ln : RLen n ≤ 40000) (ld : RLen d ≤ 40000) (lm : RLen m ≤ 40000) (lc : RLen c ≤ 40000) (d0 : 0 < d) (p0 : 0 < m) :
    Calls Tryz.prog 51 #[v, u] w (RRetQ w (lowQ (s != t) (n * c) (d * m))) := by
  obtain ⟨o1, k1, c1, o2, k2, c2, rfl, hn, hd⟩ := h
  obtain ⟨o3, k3, c3, o4, k4, c4, rfl, hm, hc⟩ := k
  obtain ⟨B1, bA, bB, bR⟩ := boxesQ3 w (.bool s) (.slice o1 k1 c1) (.slice o2 k2 c2) (.bool t) (.slice o3 k3 c3) (.slice o4 k4 c4) (.bool false) (.slice none 0 0) (.slice none 0 0)
  have HN := Lib.hid (hn.go B1); have HD := Lib.hid (hd.go B1); have HM := Lib.hid (hm.go B1); have HC := Lib.hid (hc.go B1)
  have BA := Lib.hid bA; have BB := Lib.hid bB; have BR := Lib.hid bR; have HB1 := Lib.hid B1
  have LN : Hid (RLen n ≤ 1000000) := Nat.le_trans ln (by omega)
  have LD : Hid (RLen d ≤ 1000000) := Nat.le_trans ld (by omega)
  have LM : Hid (RLen m ≤ 1000000) := Nat.le_trans lm (by omega)
  have LC : Hid (RLen c ≤ 1000000) := Nat.le_trans lc (by omega)
  have LW : Hid (∀ W v u, RNum W v (n * c) → RNum W u (d * m) → Calls Tryz.prog 72 #[.bool (s != t), v, u] W (RRetQ W (lowQ (s != t) (n * c) (d * m)))) := fun W v u h1 h2 => lowest_any (s != t) h1 h2 (Nat.mul_pos d0 p0) (Nat.le_trans (rlen_mul _ _) (by omega)) (Nat.le_trans (rlen_mul _ _) (by omega))
  clear hn hd hm hc bA bB bR B1 ln ld lm lc d0 p0
  go_enter Tryz.func51, Tryz.ntmps51
  go_wp2_with fail
  generalize ((w.alloc (.cells #[.bool s, .slice o1 k1 c1, .slice o2 k2 c2] 76)).alloc (.cells #[.bool t, .slice o3 k3 c3, .slice o4 k4 c4] 76)).alloc (.cells #[.bool false, .slice none 0 0, .slice none 0 0] 76) = w1 at *
  refine region_inv 16 21 [(5, Is (.pointer (some ⟨w.heap.size, 0, none⟩))), (6, Is (.bool s)), (7, Is (.pointer (some ⟨w.heap.size + 1, 0, none⟩))), (8, Is (.bool t)), (9, Is (.bool (s != t))), (10, Is (.pointer (some ⟨w.heap.size, 1, none⟩))), (11, Is (.slice o1 k1 c1)), (12, Is (.pointer (some ⟨w.heap.size + 1, 2, none⟩))), (13, Is (.slice o4 k4 c4)), (14, IsR (n * c)), (15, Is (.pointer (some ⟨w.heap.size, 2, none⟩))), (16, Is (.slice o2 k2 c2)), (17, Is (.pointer (some ⟨w.heap.size + 1, 1, none⟩))), (18, Is (.slice o3 k3 c3)), (19, IsR (d * m)), (20, IsRF (lowQ (s != t) (n * c) (d * m)).1 (lowQ (s != t) (n * c) (d * m)).2.1 (lowQ (s != t) (n * c) (d * m)).2.2)] (by kernel_rfl) rfl (by kernel_rfl) ?_ ?_
  · refine steps_cons rfl (fun A_ W hb hr hg K hK => ?_) <| steps_cons rfl (fun A_ W hb hr hg K hK => ?_) <| steps_cons rfl (fun A_ W hb hr hg K hK => ?_) <| steps_cons rfl (fun A_ W hb hr hg K hK => ?_) <| steps_cons rfl (fun A_ W hb hr hg K hK => ?_) <| steps_cons rfl (fun A_ W hb hr hg K hK => ?_) <| steps_cons rfl (fun A_ W hb hr hg K hK => ?_) <| steps_cons rfl (fun A_ W hb hr hg K hK => ?_) <| steps_cons rfl (fun A_ W hb hr hg K hK => ?_) <| steps_cons rfl (fun A_ W hb hr hg K hK => ?_) <| steps_cons rfl (fun A_ W hb hr hg K hK => ?_) <| steps_cons rfl (fun A_ W hb hr hg K hK => ?_) <| steps_cons rfl (fun A_ W hb hr hg K hK => ?_) <| steps_cons rfl (fun A_ W hb hr hg K hK => ?_) <| steps_cons rfl (fun A_ W hb hr hg K hK => ?_) <| steps_cons rfl (fun A_ W hb hr hg K hK => ?_) trivial
    · have e0 : A_.tmps[2]?.getD undef = .pointer (some ⟨w.heap.size, 0, none⟩) := hb 2 (by kernel_rfl)
      clear hb hr; go_simp; exact hK _ _ (Below.refl _ _) rfl
    · have e0 : A_.tmps[5]?.getD undef = .pointer (some ⟨w.heap.size, 0, none⟩) := hr 5 (by kernel_rfl)
      have c0 := (BA.out.go hg).facts.1
      clear hb hr; go_simp; exact hK _ _ (Below.refl _ _) rfl
    · have e0 : A_.tmps[3]?.getD undef = .pointer (some ⟨w.heap.size + 1, 0, none⟩) := hb 3 (by kernel_rfl)
      clear hb hr; go_simp; exact hK _ _ (Below.refl _ _) rfl
    · have e0 : A_.tmps[7]?.getD undef = .pointer (some ⟨w.heap.size + 1, 0, none⟩) := hr 7 (by kernel_rfl)
      have c0 := (BB.out.go hg).facts.1
      clear hb hr; go_simp; exact hK _ _ (Below.refl _ _) rfl
    · have e0 : A_.tmps[6]?.getD undef = .bool s := hr 6 (by kernel_rfl)
      have e1 : A_.tmps[8]?.getD undef = .bool t := hr 8 (by kernel_rfl)
      clear hb hr; go_simp; exact hK _ _ (Below.refl _ _) rfl
    · have e0 : A_.tmps[2]?.getD undef = .pointer (some ⟨w.heap.size, 0, none⟩) := hb 2 (by kernel_rfl)
      clear hb hr; go_simp; exact hK _ _ (Below.refl _ _) rfl
    · have e0 : A_.tmps[10]?.getD undef = .pointer (some ⟨w.heap.size, 1, none⟩) := hr 10 (by kernel_rfl)
      have c0 := (BA.out.go hg).facts.2.1
      clear hb hr; go_simp; exact hK _ _ (Below.refl _ _) rfl
    · have e0 : A_.tmps[3]?.getD undef = .pointer (some ⟨w.heap.size + 1, 0, none⟩) := hb 3 (by kernel_rfl)
      clear hb hr; go_simp; exact hK _ _ (Below.refl _ _) rfl
    · have e0 : A_.tmps[12]?.getD undef = .pointer (some ⟨w.heap.size + 1, 2, none⟩) := hr 12 (by kernel_rfl)
      have c0 := (BB.out.go hg).facts.2.2.1
      clear hb hr; go_simp; exact hK _ _ (Below.refl _ _) rfl
    · have e0 : A_.tmps[11]?.getD undef = .slice o1 k1 c1 := hr 11 (by kernel_rfl)
      have e1 : A_.tmps[13]?.getD undef = .slice o4 k4 c4 := hr 13 (by kernel_rfl)
      clear hb hr; go_simp
      refine (rmul_any (HN.out.go hg) (HC.out.go hg) LN.out LC.out).mono ?_; rintro e w5 ⟨v5, rfl, hv5, hb5⟩
      exact hK _ _ hb5 hv5
    · have e0 : A_.tmps[2]?.getD undef = .pointer (some ⟨w.heap.size, 0, none⟩) := hb 2 (by kernel_rfl)
      clear hb hr; go_simp; exact hK _ _ (Below.refl _ _) rfl
    · have e0 : A_.tmps[15]?.getD undef = .pointer (some ⟨w.heap.size, 2, none⟩) := hr 15 (by kernel_rfl)
      have c0 := (BA.out.go hg).facts.2.2.1
      clear hb hr; go_simp; exact hK _ _ (Below.refl _ _) rfl
    · have e0 : A_.tmps[3]?.getD undef = .pointer (some ⟨w.heap.size + 1, 0, none⟩) := hb 3 (by kernel_rfl)
      clear hb hr; go_simp; exact hK _ _ (Below.refl _ _) rfl
    · have e0 : A_.tmps[17]?.getD undef = .pointer (some ⟨w.heap.size + 1, 1, none⟩) := hr 17 (by kernel_rfl)
      have c0 := (BB.out.go hg).facts.2.1
      clear hb hr; go_simp; exact hK _ _ (Below.refl _ _) rfl
    · have e0 : A_.tmps[16]?.getD undef = .slice o2 k2 c2 := hr 16 (by kernel_rfl)
      have e1 : A_.tmps[18]?.getD undef = .slice o3 k3 c3 := hr 18 (by kernel_rfl)
      clear hb hr; go_simp
      refine (rmul_any (HD.out.go hg) (HM.out.go hg) LD.out LM.out).mono ?_; rintro e w5 ⟨v5, rfl, hv5, hb5⟩
      exact hK _ _ hb5 hv5
    · have e0 : A_.tmps[9]?.getD undef = .bool (s != t) := hr 9 (by kernel_rfl)
      have h5 : RNum W (A_.tmps[14]?.getD undef) (n * c) := hr 14 (by kernel_rfl)
      have h6 : RNum W (A_.tmps[19]?.getD undef) (d * m) := hr 19 (by kernel_rfl)
      have H5 := Lib.hid h5; have H6 := Lib.hid h6
      clear hb hr h5 h6; go_simp
      refine (LW.out _ _ _ H5.out H6.out).mono ?_; rintro e w5 ⟨v5, rfl, hv5, hb5⟩
      exact hK _ _ hb5 hv5
  rintro g4 w14 hb14 ⟨-, -, -, -, -, -, -, -, -, -, -, -, -, -, -, h20, -⟩
  simp only [List.drop_succ_cons, List.drop_zero, List.take_succ_cons, List.take_zero, putHead, Option.getD_some, Act.put, List.setIfInBounds_toArray, List.set_cons_zero, List.set_cons_succ]
  replace h20 : RFrac w14 (g4 20) (lowQ (s != t) (n * c) (d * m)).1 (lowQ (s != t) (n * c) (d * m)).2.1 (lowQ (s != t) (n * c) (d * m)).2.2 := h20
  generalize g4 20 = v20 at *
  have HQ : Hid (∀ e w', RRetQ w (lowQ (s != t) (n * c) (d * m)) e w' → RRetQ w (lowQ (s != t) (n * c) (d * m)) e w') := fun _ _ h => h
  generalize lowQ (s != t) (n * c) (d * m) = q at *
  obtain ⟨o7, k7, c7, o8, k8, c8, rfl, hqn, hqd⟩ := h20
  have HB9 := Lib.hid (bstep HB1.out hb14); have BR9 := Lib.hid (BR.out.go hb14); have QN := Lib.hid hqn; have QD := Lib.hid hqd
  clear hb14 hqn hqd LW
  obtain ⟨x0, x1, x2, f0, f1, f2⟩ := BR9.out.facts
  go_wp2_with fail
  obtain ⟨e0, e1, e2, hn9, hd9, hb9⟩ := boxq_ret (t := q.1) BR9.out QN.out QD.out HB9.out (by omega)
  refine bodyPost_ret (v := .agg #[.bool q.1, .slice o7 k7 c7, .slice o8 k8 c8]) ?_ rfl ⟨_, rfl, ⟨_, _, _, _, _, _, rfl, hn9, hd9⟩, hb9⟩
  simp [results, Tryz.f51, go_sem, e0, e1, e2]

set_option maxHeartbeats 4000000 in
set_option maxRecDepth 100000 in
theorem rof_any (w : World) (n : Int) (n1 : -9223372036854775808 ≤ n) (n2 : n ≤ 9223372036854775807) : Calls Tryz.prog 48 #[.int .i64 n] w (RRetQ w (decide (n < 0), n.natAbs, 1)) := by
  have N1 : Hid (∀ W, Calls Tryz.prog 73 #[.int .u64 1] W (RRet W 1)) := fun W => natOf_any 1 (by omega) W
  have bx := BoxQ.new w (.bool false) (.slice none 0 0) (.slice none 0 0)
  have b1 := below_alloc w (.cells #[.bool false, .slice none 0 0, .slice none 0 0] 76)
  have BX := Lib.hid bx; have HB1 := Lib.hid b1
  clear bx b1
  have LW : Hid (∀ W v u (s : Bool) (x : Nat), (s = true → x ≠ 0) → RLen x ≤ 100 → RNum W v x → RNum W u 1 → Calls Tryz.prog 72 #[.bool s, v, u] W (RRetQ W (s, x, 1))) := fun W v u s x h0 h1 h2 h3 => by
    have := lowest_any s h2 h3 (by omega) (by omega) (by rw [rlen_one]; omega)
    have e : lowQ s x 1 = (s, x, 1) := by
      unfold lowQ
      rw [Nat.gcd_one_right, Nat.div_one]
      cases s
      · rfl
      · simp [h0 rfl]
    rwa [e] at this
  by_cases h0 : n < 0
  · obtain ⟨m, hm⟩ : ∃ m : Nat, n = -(m : Int) - 1 := ⟨(-n - 1).toNat, by omega⟩
    have hmb : m < 9223372036854775808 := by omega
    have HQ : Hid ((decide (n < 0), n.natAbs, 1) = ((true, m + 1, 1) : Q3)) := by
      show _ = _
      rw [decide_eq_true h0, show n.natAbs = m + 1 from by omega]
    obtain ⟨m1, hm1⟩ : ∃ m1, m1 = m + 1 := ⟨_, rfl⟩
    have NO : Hid (∀ W, Calls Tryz.prog 73 #[.int .u64 (m1 : Nat)] W (RRet W m1)) := fun W => natOf_any m1 (by omega) W
    have hn1 : n + 1 = -(m : Int) := by omega
    have hm1i : (m : Int) + 1 = (m1 : Int) := by omega
    have hm0 : -9223372036854775808 ≤ -(m : Int) ∧ -(m : Int) ≤ 9223372036854775807 := ⟨by omega, by omega⟩
    have hm2 : -9223372036854775808 ≤ (m : Int) ∧ (m : Int) ≤ 9223372036854775807 := ⟨by omega, by omega⟩
    have hm3 : 0 ≤ (m : Int) ∧ (m : Int) ≤ 18446744073709551615 := ⟨by omega, by omega⟩
    have hm4 : 0 ≤ (m1 : Int) ∧ (m1 : Int) ≤ 18446744073709551615 := ⟨by omega, by omega⟩
    have tn : decide (n < 0) = true := decide_eq_true h0
    have L1 : Hid (RLen m1 ≤ 100) := Nat.le_trans (rlen_word (by omega)) (by omega)
    have H1 : Hid (m1 ≠ 0) := by show _ ≠ _; omega
    rw [HQ.out, ← hm1]
    have EE : Hid (IntKind.u64.wrap (IntKind.u64.wrap (wrap64 (-wrap64 (n + 1))) + 1) = (m1 : Int)) := by
      show _ = _
      rw [hn1, IntWalk.wrap64_in _ hm0, Int.neg_neg, IntWalk.wrap64_in _ hm2, IntWalk.u64_in _ hm3, hm1i, IntWalk.u64_in _ hm4]
    clear h0 hm hmb hm1 HQ n1 n2 hn1 hm1i hm0 hm2 hm3 hm4
    go_enter Tryz.func48, Tryz.ntmps48
    go_wp2_with fail
    generalize w.alloc (.cells #[.bool false, .slice none 0 0, .slice none 0 0] 76) = w1 at *
    first
      | (rw [EE.out]; refine (NO.out _).mono ?_)
      | refine (NO.out _).mono ?_
    rintro e w2 ⟨v2, rfl, hv2, hb2⟩
    have BX2 := Lib.hid (BX.out.go hb2); have HB2 := Lib.hid (bstep HB1.out hb2); have HV2 := Lib.hid hv2
    clear hb2 hv2
    go_wp2_with fail
    refine (N1.out _).mono ?_; rintro e w3 ⟨v3, rfl, hv3, hb3⟩
    have BX3 := Lib.hid (BX2.out.go hb3); have HB3 := Lib.hid (bstep HB2.out hb3); have HV3 := Lib.hid (HV2.out.go hb3); have HU3 := Lib.hid hv3
    clear hb3 hv3
    go_wp2_with fail
    refine (LW.out _ _ _ true m1 (fun _ => H1.out) L1.out HV3.out HU3.out).mono ?_; rintro e w4 ⟨v4, rfl, hv4, hb4⟩
    obtain ⟨o7, k7, c7, o8, k8, c8, rfl, hqn, hqd⟩ := hv4
    have BX4 := Lib.hid (BX3.out.go hb4); have HB4 := Lib.hid (bstep HB3.out hb4); have QN := Lib.hid hqn; have QD := Lib.hid hqd
    clear hb4 hqn hqd
    obtain ⟨x0, x1, x2, f0, f1, f2⟩ := BX4.out.facts
    go_wp2_with fail
    obtain ⟨e0, e1, e2, hn9, hd9, hb9⟩ := boxq_ret (t := true) BX4.out QN.out QD.out HB4.out (Nat.le_refl _)
    refine bodyPost_ret (v := .agg #[.bool true, .slice o7 k7 c7, .slice o8 k8 c8]) ?_ rfl ⟨_, rfl, ⟨_, _, _, _, _, _, rfl, hn9, hd9⟩, hb9⟩
    simp [results, Tryz.f48, go_sem, e0, e1, e2]
  · obtain ⟨m, rfl⟩ := Int.eq_ofNat_of_zero_le (show 0 ≤ n by omega)
    have HQ : Hid ((decide (((m : Nat) : Int) < 0), ((m : Nat) : Int).natAbs, 1) = ((false, m, 1) : Q3)) := by
      show _ = _
      rw [decide_eq_false h0]; rfl
    have NO : Hid (∀ W, Calls Tryz.prog 73 #[.int .u64 (m : Nat)] W (RRet W m)) := fun W => natOf_any m (by omega) W
    have hm3 : 0 ≤ (m : Int) ∧ (m : Int) ≤ 18446744073709551615 := ⟨by omega, by omega⟩
    have tn : decide ((m : Int) < 0) = false := decide_eq_false h0
    have L1 : Hid (RLen m ≤ 100) := Nat.le_trans (rlen_word (by omega)) (by omega)
    rw [HQ.out]
    have E3 := Lib.hid (IntWalk.u64_in _ hm3)
    clear h0 HQ n1 n2 hm3
    go_enter Tryz.func48, Tryz.ntmps48
    go_wp2_with fail
    generalize w.alloc (.cells #[.bool false, .slice none 0 0, .slice none 0 0] 76) = w1 at *
    first
      | (rw [E3.out]; refine (NO.out _).mono ?_)
      | refine (NO.out _).mono ?_
    rintro e w2 ⟨v2, rfl, hv2, hb2⟩
    have BX2 := Lib.hid (BX.out.go hb2); have HB2 := Lib.hid (bstep HB1.out hb2); have HV2 := Lib.hid hv2
    clear hb2 hv2
    go_wp2_with fail
    refine (N1.out _).mono ?_; rintro e w3 ⟨v3, rfl, hv3, hb3⟩
    have BX3 := Lib.hid (BX2.out.go hb3); have HB3 := Lib.hid (bstep HB2.out hb3); have HV3 := Lib.hid (HV2.out.go hb3); have HU3 := Lib.hid hv3
    clear hb3 hv3
    go_wp2_with fail
    refine (LW.out _ _ _ false m (fun h => by cases h) L1.out HV3.out HU3.out).mono ?_; rintro e w4 ⟨v4, rfl, hv4, hb4⟩
    obtain ⟨o7, k7, c7, o8, k8, c8, rfl, hqn, hqd⟩ := hv4
    have BX4 := Lib.hid (BX3.out.go hb4); have HB4 := Lib.hid (bstep HB3.out hb4); have QN := Lib.hid hqn; have QD := Lib.hid hqd
    clear hb4 hqn hqd
    obtain ⟨x0, x1, x2, f0, f1, f2⟩ := BX4.out.facts
    go_wp2_with fail
    obtain ⟨e0, e1, e2, hn9, hd9, hb9⟩ := boxq_ret (t := false) BX4.out QN.out QD.out HB4.out (Nat.le_refl _)
    refine bodyPost_ret (v := .agg #[.bool false, .slice o7 k7 c7, .slice o8 k8 c8]) ?_ rfl ⟨_, rfl, ⟨_, _, _, _, _, _, rfl, hn9, hd9⟩, hb9⟩
    simp [results, Tryz.f48, go_sem, e0, e1, e2]
end Go.Proofs.YtegobakoflbnfaaGreatDoor.QA

namespace Go.Proofs.YtegobakoflbnfaaGreatDoor.QA
open Go Go.RowKit Go.Shelf WN LM

theorem sgi_mul2 (s t : Bool) (n m : Nat) : sgi s n * sgi t m = sgi (s != t) (n * m) := by
  unfold sgi
  cases s <;> cases t <;> simp [Int.neg_mul, Int.mul_neg]
theorem low_mul {p q : Q3} (hp : Can p) (hq : Can q) : lowQ (p.1 != q.1) (p.2.1 * q.2.1) (p.2.2 * q.2.2) = mulQ p q := by
  obtain ⟨h1, h2⟩ := low_spec (s := p.1 != q.1) (n := p.2.1 * q.2.1) (d := p.2.2 * q.2.2) (Nat.mul_pos hp.1 hq.1)
  obtain ⟨h3, h4⟩ := mulQ_spec hp hq
  refine toR_inj h1 h3 ?_
  rw [h2, h4]
  unfold toR
  rw [Rat.mkRat_mul_mkRat, sgi_mul2]
theorem low_div {p q : Q3} (hp : Can p) (hq : Can q) (h0 : q.2.1 ≠ 0) : lowQ (p.1 != q.1) (p.2.1 * q.2.2) (p.2.2 * q.2.1) = divQ p q := by
  obtain ⟨h5, h6⟩ := invQ_spec hq h0
  have := low_mul hp h5
  exact this
theorem intQ_can (n : Int) : Can (intQ n) := by
  refine ⟨Nat.one_pos, Nat.coprime_one_right _, ?_⟩
  intro h
  have : n < 0 := by simpa [intQ] using h
  show n.natAbs ≠ 0
  omega
theorem rlen_int {n : Int} (h1 : -9223372036854775808 ≤ n) (h2 : n ≤ 9223372036854775807) : RLen n.natAbs ≤ 5 := rlen_word (by omega)

end Go.Proofs.YtegobakoflbnfaaGreatDoor.QA

namespace Go.Proofs.YtegobakoflbnfaaGreatDoor.QA
open Go Go.RowKit Go.Shelf WN LM

theorem boxesQ2 (w : World) (a0 a1 a2 r0 r1 r2 : Value) :
    Below w.heap.size w ((w.alloc (.cells #[a0, a1, a2] 76)).alloc (.cells #[r0, r1, r2] 76)) ∧
    BoxQ ((w.alloc (.cells #[a0, a1, a2] 76)).alloc (.cells #[r0, r1, r2] 76)) w.heap.size a0 a1 a2 ∧
    BoxQ ((w.alloc (.cells #[a0, a1, a2] 76)).alloc (.cells #[r0, r1, r2] 76)) (w.heap.size + 1) r0 r1 r2 := by
  have s1 : (w.alloc (.cells #[a0, a1, a2] 76)).heap.size = w.heap.size + 1 := by simp
  refine ⟨((Below.refl _ w).alloc (Nat.le_refl _) _).alloc (by omega) _, ?_, ?_⟩
  · exact (alloc_lt _ _ _ (by omega)).trans (BoxQ.new w a0 a1 a2)
  · have := BoxQ.new (w.alloc (.cells #[a0, a1, a2] 76)) r0 r1 r2; rwa [s1] at this
theorem low_add {p q : Q3} (hp : Can p) (hq : Can q) : lowQ (addS p.1 (p.2.1 * q.2.2) q.1 (q.2.1 * p.2.2)) (addN p.1 (p.2.1 * q.2.2) q.1 (q.2.1 * p.2.2)) (p.2.2 * q.2.2) = addQ p q := by
  obtain ⟨h1, h2⟩ := low_spec (s := addS p.1 (p.2.1 * q.2.2) q.1 (q.2.1 * p.2.2)) (n := addN p.1 (p.2.1 * q.2.2) q.1 (q.2.1 * p.2.2)) (d := p.2.2 * q.2.2) (Nat.mul_pos hp.1 hq.1)
  obtain ⟨h3, h4⟩ := addQ_spec hp hq
  refine toR_inj h1 h3 ?_
  rw [h2, h4, add_int]
  unfold toR
  rw [Rat.mkRat_add_mkRat _ _ (Nat.ne_of_gt hp.1) (Nat.ne_of_gt hq.1), sgi_mul, sgi_mul]

set_option maxHeartbeats 2000000 in
set_option maxRecDepth 100000 in
theorem rzero_any {w : World} {v : Value} {s : Bool} {n d : Nat} (h : RFrac w v s n d) : Calls Tryz.prog 66 #[v] w fun e w' => e = .returned (.bool (decide (n = 0))) ∧ Below w.heap.size w w' := by
  obtain ⟨o1, k1, c1, o2, k2, c2, rfl, h1, h2⟩ := h
  obtain ⟨oo, cc, e⟩ := h1.shape
  cases e
  have bx := BoxQ.new w (.bool s) (.slice o1 (RLen n) c1) (.slice o2 k2 c2)
  have b1 := Lib.hid (below_alloc w (.cells #[.bool s, .slice o1 (RLen n) c1, .slice o2 k2 c2] 76))
  obtain ⟨x0, x1, x2, f0, f1, f2⟩ := bx.facts
  have HZ : Hid (((RLen n : Int) == 0) = decide (n = 0)) := by
    show _ = _
    by_cases h : n = 0
    · rw [decide_eq_true h, h, rlen_zero]; rfl
    · rw [decide_eq_false h, beq_eq_false_iff_ne]
      have : RLen n ≠ 0 := fun e => h (rlen_eq_zero.1 e)
      omega
  clear h1 h2 bx
  generalize RLen n = R at *
  go_enter Tryz.func66, Tryz.ntmps66
  go_wp2_with fail
  go_ret
  exact ⟨by rw [← HZ.out]; rfl, b1.out⟩

set_option maxHeartbeats 2000000 in
set_option maxRecDepth 100000 in
theorem rsign_any {w : World} {v : Value} {s : Bool} {n d : Nat} (h : RFrac w v s n d) (hs : s = true → n ≠ 0) : Calls Tryz.prog 63 #[v] w fun e w' => e = .returned (.int .i64 (sgn s n)) ∧ Below w.heap.size w w' := by
  obtain ⟨o1, k1, c1, o2, k2, c2, rfl, h1, h2⟩ := h
  obtain ⟨oo, cc, e⟩ := h1.shape
  cases e
  have bx := BoxQ.new w (.bool s) (.slice o1 (RLen n) c1) (.slice o2 k2 c2)
  have b1 := Lib.hid (below_alloc w (.cells #[.bool s, .slice o1 (RLen n) c1, .slice o2 k2 c2] 76))
  obtain ⟨x0, x1, x2, f0, f1, f2⟩ := bx.facts
  by_cases h0 : n = 0
  · have hsf : s = false := by
      cases s
      · rfl
      · exact absurd h0 (hs rfl)
    have HG : Hid (sgn s n = 0) := by show _ = _; rw [hsf, h0]; rfl
    have hz : RLen n = 0 := by rw [h0]; exact rlen_zero
    clear h1 h2 bx hs hsf h0
    generalize RLen n = R at *
    subst hz
    go_enter Tryz.func63, Tryz.ntmps63
    go_wp2_with fail
    go_ret
    exact ⟨by rw [HG.out]; rfl, b1.out⟩
  · have hl : RLen n ≠ 0 := fun e => h0 (rlen_eq_zero.1 e)
    have HG : Hid (sgn s n = if s then -1 else 1) := by
      show _ = _
      unfold sgn
      cases s
      · simp [h0]
      · rfl
    have tl : ((RLen n : Int) == 0) = false := by rw [beq_eq_false_iff_ne]; omega
    clear h1 h2 bx hs h0 hl
    generalize RLen n = R at *
    cases s
    · go_enter Tryz.func63, Tryz.ntmps63
      go_wp2_with fail
      go_ret
      exact ⟨by rw [HG.out]; rfl, b1.out⟩
    · go_enter Tryz.func63, Tryz.ntmps63
      go_wp2_with fail
      go_ret
      exact ⟨by rw [HG.out]; rfl, b1.out⟩

set_option maxHeartbeats 2000000 in
set_option maxRecDepth 100000 in
theorem ropp_any {w : World} {v : Value} {s : Bool} {n d : Nat} (h : RFrac w v s n d) : Calls Tryz.prog 93 #[v] w (RRetQ w (negQ (s, n, d))) := by
  obtain ⟨o1, k1, c1, o2, k2, c2, rfl, h1, h2⟩ := h
  obtain ⟨oo, cc, e⟩ := h1.shape
  cases e
  obtain ⟨B1, bA, bR⟩ := boxesQ2 w (.bool s) (.slice o1 (RLen n) c1) (.slice o2 k2 c2) (.bool false) (.slice none 0 0) (.slice none 0 0)
  have HN := Lib.hid h1; have HD := Lib.hid h2
  obtain ⟨x0, x1, x2, f0, f1, f2⟩ := bA.facts
  obtain ⟨y0, y1, y2, g0, g1, g2⟩ := bR.facts
  have HNQ : Hid (negQ (s, n, d) = (!s && decide (0 < RLen n), n, d)) := by
    show (!s && decide (n ≠ 0), n, d) = _
    by_cases h : n = 0
    · rw [h, rlen_zero]; simp
    · have : RLen n ≠ 0 := fun e => h (rlen_eq_zero.1 e)
      rw [decide_eq_true h, decide_eq_true (show 0 < RLen n by omega)]
  clear h1 h2 bA bR B1
  generalize hR : RLen n = R at *
  clear hR
  cases s
  · by_cases hp : 0 < R
    · have HQ : Hid (negQ (false, n, d) = (true, n, d)) := by show _ = _; rw [HNQ.out, decide_eq_true hp]; rfl
      go_enter Tryz.func93, Tryz.ntmps93
      go_wp2_with fail
      obtain ⟨B9, -, bF⟩ := boxesQ2 w (.bool false) (.slice o1 R c1) (.slice o2 k2 c2) (.bool true) (.slice o1 R c1) (.slice o2 k2 c2)
      obtain ⟨e0, e1, e2, -, -, -⟩ := bF.facts
      refine bodyPost_ret (v := .agg #[.bool true, .slice o1 R c1, .slice o2 k2 c2]) ?_ rfl ⟨_, rfl, by rw [HQ.out]; exact ⟨_, _, _, _, _, _, rfl, HN.out.go B9, HD.out.go B9⟩, B9⟩
      simp [results, Tryz.f93, go_sem, e0, e1, e2]
    · have hp0 : R = 0 := by omega
      have HQ : Hid (negQ (false, n, d) = (false, n, d)) := by show _ = _; rw [HNQ.out, decide_eq_false hp]; rfl
      subst hp0
      go_enter Tryz.func93, Tryz.ntmps93
      go_wp2_with fail
      obtain ⟨B9, -, bF⟩ := boxesQ2 w (.bool false) (.slice o1 0 c1) (.slice o2 k2 c2) (.bool false) (.slice o1 0 c1) (.slice o2 k2 c2)
      obtain ⟨e0, e1, e2, -, -, -⟩ := bF.facts
      refine bodyPost_ret (v := .agg #[.bool false, .slice o1 0 c1, .slice o2 k2 c2]) ?_ rfl ⟨_, rfl, by rw [HQ.out]; exact ⟨_, _, _, _, _, _, rfl, HN.out.go B9, HD.out.go B9⟩, B9⟩
      simp [results, Tryz.f93, go_sem, e0, e1, e2]
  · have HQ : Hid (negQ (true, n, d) = (false, n, d)) := by show _ = _; rw [HNQ.out]; rfl
    go_enter Tryz.func93, Tryz.ntmps93
    go_wp2_with fail
    obtain ⟨B9, -, bF⟩ := boxesQ2 w (.bool true) (.slice o1 R c1) (.slice o2 k2 c2) (.bool false) (.slice o1 R c1) (.slice o2 k2 c2)
    obtain ⟨e0, e1, e2, -, -, -⟩ := bF.facts
    refine bodyPost_ret (v := .agg #[.bool false, .slice o1 R c1, .slice o2 k2 c2]) ?_ rfl ⟨_, rfl, by rw [HQ.out]; exact ⟨_, _, _, _, _, _, rfl, HN.out.go B9, HD.out.go B9⟩, B9⟩
    simp [results, Tryz.f93, go_sem, e0, e1, e2]
end Go.Proofs.YtegobakoflbnfaaGreatDoor.QA

namespace Go.Proofs.YtegobakoflbnfaaGreatDoor.QA
open Go Go.RowKit Go.Shelf WN LM

set_option maxHeartbeats 8000000 in
set_option maxRecDepth 100000 in
theorem rplus_any {w : World} {v u : Value} {s t : Bool} {n d m c : Nat} (h : RFrac w v s n d) (k : RFrac w u t m c) (ln : RLen n ≤ 40000) (ld : RLen d ≤ 40000) (lm : RLen m ≤ 40000) (lc : RLen c ≤ 40000) (d0 : 0 < d) (p0 : 0 < c) :
    Calls Tryz.prog 50 #[v, u] w (RRetQ w (lowQ (addS s (n * c) t (m * d)) (addN s (n * c) t (m * d)) (d * c))) := by
  obtain ⟨o1, k1, c1, o2, k2, c2, rfl, hn, hd⟩ := h
  obtain ⟨o3, k3, c3, o4, k4, c4, rfl, hm, hc⟩ := k
  obtain ⟨B1, bA, bB, bR⟩ := boxesQ3 w (.bool s) (.slice o1 k1 c1) (.slice o2 k2 c2) (.bool t) (.slice o3 k3 c3) (.slice o4 k4 c4) (.bool false) (.slice none 0 0) (.slice none 0 0)
  have HN := Lib.hid (hn.go B1); have HD := Lib.hid (hd.go B1); have HM := Lib.hid (hm.go B1); have HC := Lib.hid (hc.go B1)
  have BA := Lib.hid bA; have BB := Lib.hid bB; have BR := Lib.hid bR; have HB1 := Lib.hid B1
  have LN : Hid (RLen n ≤ 1000000) := Nat.le_trans ln (by omega)
  have LD : Hid (RLen d ≤ 1000000) := Nat.le_trans ld (by omega)
  have LM : Hid (RLen m ≤ 1000000) := Nat.le_trans lm (by omega)
  have LC : Hid (RLen c ≤ 1000000) := Nat.le_trans lc (by omega)
  have LX : Hid (RLen (n * c) ≤ 1000000) := Nat.le_trans (rlen_mul _ _) (by omega)
  have LY : Hid (RLen (m * d) ≤ 1000000) := Nat.le_trans (rlen_mul _ _) (by omega)
  have LX8 : Hid (RLen (n * c) ≤ 80000) := Nat.le_trans (rlen_mul _ _) (by omega)
  have LY8 : Hid (RLen (m * d) ≤ 80000) := Nat.le_trans (rlen_mul _ _) (by omega)
  have LZ : Hid (RLen (d * c) ≤ 100000) := Nat.le_trans (rlen_mul _ _) (by omega)
  have DP : Hid (0 < d * c) := Nat.mul_pos d0 p0
  clear hn hd hm hc bA bB bR B1 ln ld lm lc d0 p0
  go_enter Tryz.func50, Tryz.ntmps50
  go_wp2_with fail
  generalize ((w.alloc (.cells #[.bool s, .slice o1 k1 c1, .slice o2 k2 c2] 76)).alloc (.cells #[.bool t, .slice o3 k3 c3, .slice o4 k4 c4] 76)).alloc (.cells #[.bool false, .slice none 0 0, .slice none 0 0] 76) = w1 at *
  refine region_inv 15 53 [(8, Is (.pointer (some ⟨w.heap.size, 1, none⟩))), (9, Is (.slice o1 k1 c1)), (10, Is (.pointer (some ⟨w.heap.size + 1, 2, none⟩))), (11, Is (.slice o4 k4 c4)), (12, IsR (n * c)), (13, Is (.pointer (some ⟨w.heap.size + 1, 1, none⟩))), (14, Is (.slice o3 k3 c3)), (15, Is (.pointer (some ⟨w.heap.size, 2, none⟩))), (16, Is (.slice o2 k2 c2)), (17, IsR (m * d)), (18, Is (.pointer (some ⟨w.heap.size, 2, none⟩))), (19, Is (.slice o2 k2 c2)), (20, Is (.pointer (some ⟨w.heap.size + 1, 2, none⟩))), (21, Is (.slice o4 k4 c4)), (22, IsR (d * c))] (by kernel_rfl) rfl (by kernel_rfl) ?_ ?_
  · refine steps_cons rfl (fun A_ W hb hr hg K hK => ?_) <| steps_cons rfl (fun A_ W hb hr hg K hK => ?_) <| steps_cons rfl (fun A_ W hb hr hg K hK => ?_) <| steps_cons rfl (fun A_ W hb hr hg K hK => ?_) <| steps_cons rfl (fun A_ W hb hr hg K hK => ?_) <| steps_cons rfl (fun A_ W hb hr hg K hK => ?_) <| steps_cons rfl (fun A_ W hb hr hg K hK => ?_) <| steps_cons rfl (fun A_ W hb hr hg K hK => ?_) <| steps_cons rfl (fun A_ W hb hr hg K hK => ?_) <| steps_cons rfl (fun A_ W hb hr hg K hK => ?_) <| steps_cons rfl (fun A_ W hb hr hg K hK => ?_) <| steps_cons rfl (fun A_ W hb hr hg K hK => ?_) <| steps_cons rfl (fun A_ W hb hr hg K hK => ?_) <| steps_cons rfl (fun A_ W hb hr hg K hK => ?_) <| steps_cons rfl (fun A_ W hb hr hg K hK => ?_) trivial
    · have e0 : A_.tmps[2]?.getD undef = .pointer (some ⟨w.heap.size, 0, none⟩) := hb 2 (by kernel_rfl)
      clear hb hr; go_simp; exact hK _ _ (Below.refl _ _) rfl
    · have e0 : A_.tmps[8]?.getD undef = .pointer (some ⟨w.heap.size, 1, none⟩) := hr 8 (by kernel_rfl)
      have c0 := (BA.out.go hg).facts.2.1
      clear hb hr; go_simp; exact hK _ _ (Below.refl _ _) rfl
    · have e0 : A_.tmps[3]?.getD undef = .pointer (some ⟨w.heap.size + 1, 0, none⟩) := hb 3 (by kernel_rfl)
      clear hb hr; go_simp; exact hK _ _ (Below.refl _ _) rfl
    · have e0 : A_.tmps[10]?.getD undef = .pointer (some ⟨w.heap.size + 1, 2, none⟩) := hr 10 (by kernel_rfl)
      have c0 := (BB.out.go hg).facts.2.2.1
      clear hb hr; go_simp; exact hK _ _ (Below.refl _ _) rfl
    · have e0 : A_.tmps[9]?.getD undef = .slice o1 k1 c1 := hr 9 (by kernel_rfl)
      have e1 : A_.tmps[11]?.getD undef = .slice o4 k4 c4 := hr 11 (by kernel_rfl)
      clear hb hr; go_simp
      refine (rmul_any (HN.out.go hg) (HC.out.go hg) LN.out LC.out).mono ?_; rintro e w5 ⟨v5, rfl, hv5, hb5⟩
      exact hK _ _ hb5 hv5
    · have e0 : A_.tmps[3]?.getD undef = .pointer (some ⟨w.heap.size + 1, 0, none⟩) := hb 3 (by kernel_rfl)
      clear hb hr; go_simp; exact hK _ _ (Below.refl _ _) rfl
    · have e0 : A_.tmps[13]?.getD undef = .pointer (some ⟨w.heap.size + 1, 1, none⟩) := hr 13 (by kernel_rfl)
      have c0 := (BB.out.go hg).facts.2.1
      clear hb hr; go_simp; exact hK _ _ (Below.refl _ _) rfl
    · have e0 : A_.tmps[2]?.getD undef = .pointer (some ⟨w.heap.size, 0, none⟩) := hb 2 (by kernel_rfl)
      clear hb hr; go_simp; exact hK _ _ (Below.refl _ _) rfl
    · have e0 : A_.tmps[15]?.getD undef = .pointer (some ⟨w.heap.size, 2, none⟩) := hr 15 (by kernel_rfl)
      have c0 := (BA.out.go hg).facts.2.2.1
      clear hb hr; go_simp; exact hK _ _ (Below.refl _ _) rfl
    · have e0 : A_.tmps[14]?.getD undef = .slice o3 k3 c3 := hr 14 (by kernel_rfl)
      have e1 : A_.tmps[16]?.getD undef = .slice o2 k2 c2 := hr 16 (by kernel_rfl)
      clear hb hr; go_simp
      refine (rmul_any (HM.out.go hg) (HD.out.go hg) LM.out LD.out).mono ?_; rintro e w5 ⟨v5, rfl, hv5, hb5⟩
      exact hK _ _ hb5 hv5
    · have e0 : A_.tmps[2]?.getD undef = .pointer (some ⟨w.heap.size, 0, none⟩) := hb 2 (by kernel_rfl)
      clear hb hr; go_simp; exact hK _ _ (Below.refl _ _) rfl
    · have e0 : A_.tmps[18]?.getD undef = .pointer (some ⟨w.heap.size, 2, none⟩) := hr 18 (by kernel_rfl)
      have c0 := (BA.out.go hg).facts.2.2.1
      clear hb hr; go_simp; exact hK _ _ (Below.refl _ _) rfl
    · have e0 : A_.tmps[3]?.getD undef = .pointer (some ⟨w.heap.size + 1, 0, none⟩) := hb 3 (by kernel_rfl)
      clear hb hr; go_simp; exact hK _ _ (Below.refl _ _) rfl
    · have e0 : A_.tmps[20]?.getD undef = .pointer (some ⟨w.heap.size + 1, 2, none⟩) := hr 20 (by kernel_rfl)
      have c0 := (BB.out.go hg).facts.2.2.1
      clear hb hr; go_simp; exact hK _ _ (Below.refl _ _) rfl
    · have e0 : A_.tmps[19]?.getD undef = .slice o2 k2 c2 := hr 19 (by kernel_rfl)
      have e1 : A_.tmps[21]?.getD undef = .slice o4 k4 c4 := hr 21 (by kernel_rfl)
      clear hb hr; go_simp
      refine (rmul_any (HD.out.go hg) (HC.out.go hg) LD.out LC.out).mono ?_; rintro e w5 ⟨v5, rfl, hv5, hb5⟩
      exact hK _ _ hb5 hv5
  rintro g4 w14 hb14 ⟨-, -, -, -, h12, -, -, -, -, h17, -, -, -, -, h22, -⟩
  simp only [List.drop_succ_cons, List.drop_zero, List.take_succ_cons, List.take_zero, putHead, Option.getD_some, Act.put, List.setIfInBounds_toArray, List.set_cons_zero, List.set_cons_succ]
  replace h12 : RNum w14 (g4 12) (n * c) := h12
  replace h17 : RNum w14 (g4 17) (m * d) := h17
  replace h22 : RNum w14 (g4 22) (d * c) := h22
  generalize g4 12 = v12 at *
  generalize g4 17 = v17 at *
  generalize g4 22 = v22 at *
  have NX := Lib.hid h12; have NY := Lib.hid h17; have DEN := Lib.hid h22
  have HB3 := Lib.hid (bstep HB1.out hb14); have BA3 := Lib.hid (BA.out.go hb14); have BB3 := Lib.hid (BB.out.go hb14); have BR3 := Lib.hid (BR.out.go hb14)
  clear h12 h17 h22 hb14 BA BB BR HN HD HM HC LN LD LM LC
  have BA := BA3; have BB := BB3; have BR := BR3; have HB4 := HB3
  clear BA3 BB3 BR3
  obtain ⟨x0, -, -, f0, -, -⟩ := BA.out.facts
  obtain ⟨y0, -, -, g0, -, -⟩ := BB.out.facts
  by_cases hst : s = t
  · have tst : (s == t) = true := by rw [beq_iff_eq]; exact hst
    have HST := Lib.hid hst
    clear hst
    go_wp2_with fail
    clear x0 y0 f0 g0 tst
    have OPR : Hid (∀ W, RNum W v12 (n * c) → RNum W v17 (m * d) → Calls Tryz.prog 75 #[v12, v17] W (RRet W (n * c + m * d))) := fun W h1 h2 => radd_any h1 h2 LX.out LY.out
    have LWR0 : ∀ W v, RNum W v (n * c + m * d) → RNum W v22 (d * c) → Calls Tryz.prog 72 #[.bool s, v, v22] W (RRetQ W (lowQ s (n * c + m * d) (d * c))) := fun W v h1 h2 => lowest_any s h1 h2 DP.out (Nat.le_trans (rlen_add _ _) (by have := LX8.out; have := LY8.out; omega)) LZ.out
    have QE : Hid (∀ e w', RRetQ w (lowQ s (n * c + m * d) (d * c)) e w' → RRetQ w (lowQ (addS s (n * c) t (m * d)) (addN s (n * c) t (m * d)) (d * c)) e w') := fun e w' h => by
      have e9 : lowQ (addS s (n * c) t (m * d)) (addN s (n * c) t (m * d)) (d * c) = lowQ s (n * c + m * d) (d * c) := by unfold addS addN; rw [if_pos HST.out, if_pos HST.out]
      rw [e9]; exact h
    obtain ⟨q, hq⟩ : ∃ q, q = lowQ s (n * c + m * d) (d * c) := ⟨_, rfl⟩
    rw [← hq] at LWR0 QE
    have LWR := Lib.hid LWR0
    clear LWR0 hq
    refine region_inv 7 53 [(28, Is (.pointer (some ⟨w.heap.size, 0, none⟩))), (29, Is (.bool s)), (30, Is (v12)), (31, Is (v17)), (32, IsR (n * c + m * d)), (33, Is (v22)), (34, IsRF q.1 q.2.1 q.2.2)] (by kernel_rfl) rfl (by kernel_rfl) ?_ ?_
    · refine steps_cons rfl (fun A_ W hb hr hg K hK => ?_) <| steps_cons rfl (fun A_ W hb hr hg K hK => ?_) <| steps_cons rfl (fun A_ W hb hr hg K hK => ?_) <| steps_cons rfl (fun A_ W hb hr hg K hK => ?_) <| steps_cons rfl (fun A_ W hb hr hg K hK => ?_) <| steps_cons rfl (fun A_ W hb hr hg K hK => ?_) <| steps_cons rfl (fun A_ W hb hr hg K hK => ?_) trivial
      · have e0 : A_.tmps[2]?.getD undef = .pointer (some ⟨w.heap.size, 0, none⟩) := hb 2 (by kernel_rfl)
        clear hb hr; go_simp; exact hK _ _ (Below.refl _ _) rfl
      · have e0 : A_.tmps[28]?.getD undef = .pointer (some ⟨w.heap.size, 0, none⟩) := hr 28 (by kernel_rfl)
        have c0 := (BA.out.go hg).facts.1
        clear hb hr; go_simp; exact hK _ _ (Below.refl _ _) rfl
      · have e0 : A_.tmps[5]?.getD undef = v12 := hb 5 (by kernel_rfl)
        clear hb hr; go_simp; exact hK _ _ (Below.refl _ _) rfl
      · have e0 : A_.tmps[6]?.getD undef = v17 := hb 6 (by kernel_rfl)
        clear hb hr; go_simp; exact hK _ _ (Below.refl _ _) rfl
      · have e0 : A_.tmps[30]?.getD undef = v12 := hr 30 (by kernel_rfl)
        have e1 : A_.tmps[31]?.getD undef = v17 := hr 31 (by kernel_rfl)
        clear hb hr; go_simp
        refine (OPR.out _ (NX.out.go hg) (NY.out.go hg)).mono ?_; rintro e w5 ⟨v5, rfl, hv5, hb5⟩
        exact hK _ _ hb5 hv5
      · have e0 : A_.tmps[7]?.getD undef = v22 := hb 7 (by kernel_rfl)
        clear hb hr; go_simp; exact hK _ _ (Below.refl _ _) rfl
      · have e0 : A_.tmps[29]?.getD undef = .bool s := hr 29 (by kernel_rfl)
        have h5 : RNum W (A_.tmps[32]?.getD undef) (n * c + m * d) := hr 32 (by kernel_rfl)
        have e2 : A_.tmps[33]?.getD undef = v22 := hr 33 (by kernel_rfl)
        have H5 := Lib.hid h5
        clear hb hr h5; go_simp
        refine (LWR.out _ _ H5.out (DEN.out.go hg)).mono ?_; rintro e w5 ⟨v5, rfl, hv5, hb5⟩
        exact hK _ _ hb5 hv5
    rintro g4 w14 hb14 ⟨-, -, -, -, -, -, h20, -⟩
    simp only [List.drop_succ_cons, List.drop_zero, List.take_succ_cons, List.take_zero, putHead, Option.getD_some, Act.put, List.setIfInBounds_toArray, List.set_cons_zero, List.set_cons_succ]
    replace h20 : RFrac w14 (g4 34) q.1 q.2.1 q.2.2 := h20
    generalize g4 34 = v20 at *
    obtain ⟨o7, k7, c7, o8, k8, c8, rfl, hqn, hqd⟩ := h20
    have HB9 := Lib.hid (bstep HB4.out hb14); have BR9 := Lib.hid (BR.out.go hb14); have QN := Lib.hid hqn; have QD := Lib.hid hqd
    clear hb14 hqn hqd
    obtain ⟨x0, x1, x2, f0, f1, f2⟩ := BR9.out.facts
    go_wp2_with fail
    obtain ⟨e0, e1, e2, hn9, hd9, hb9⟩ := boxq_ret (t := q.1) BR9.out QN.out QD.out HB9.out (by omega)
    refine bodyPost_ret (v := .agg #[.bool q.1, .slice o7 k7 c7, .slice o8 k8 c8]) ?_ rfl (QE.out _ _ ⟨_, rfl, ⟨_, _, _, _, _, _, rfl, hn9, hd9⟩, hb9⟩)
    simp [results, Tryz.f50, go_sem, e0, e1, e2]
  · have tst : (s == t) = false := by rw [beq_eq_false_iff_ne]; exact hst
    have HST := Lib.hid hst
    clear hst
    go_wp2_with fail
    refine (rcmp_any NX.out NY.out (by have := LX8.out; omega) (by have := LY8.out; omega)).mono ?_; rintro e w15 ⟨rfl, hb15⟩
    have NX3 := Lib.hid (NX.out.go hb15); have NY3 := Lib.hid (NY.out.go hb15); have DEN3 := Lib.hid (DEN.out.go hb15)
    have BA3 := Lib.hid (BA.out.go hb15); have BB3 := Lib.hid (BB.out.go hb15); have BR3 := Lib.hid (BR.out.go hb15); have HB5 := Lib.hid (bstep HB4.out hb15)
    clear hb15 NX NY DEN BA BB BR HB4 x0 y0 f0 g0 tst
    have NX := NX3; have NY := NY3; have DEN := DEN3; have BA := BA3; have BB := BB3; have BR := BR3; have HB4 := HB5
    clear NX3 NY3 DEN3 BA3 BB3 BR3 HB5
    by_cases hlt : n * c < m * d
    · have hcm : cmpN (n * c) (m * d) = -1 := by unfold cmpN; rw [if_pos hlt]
      rw [hcm]
      have HLE : Hid (n * c ≤ m * d) := by show _ ≤ _; omega
      have HLT := Lib.hid hlt
      have LX9 := LY
      clear hlt hcm
      go_wp2_with fail
      have OPR : Hid (∀ W, RNum W v17 (m * d) → RNum W v12 (n * c) → Calls Tryz.prog 77 #[v17, v12] W (RRet W (m * d - n * c))) := fun W h1 h2 => rsub_any h1 h2 (by have := HLE.out; omega) LX9.out
      have LWR0 : ∀ W v, RNum W v (m * d - n * c) → RNum W v22 (d * c) → Calls Tryz.prog 72 #[.bool t, v, v22] W (RRetQ W (lowQ t (m * d - n * c) (d * c))) := fun W v h1 h2 => lowest_any t h1 h2 DP.out (Nat.le_trans (rlen_mono (Nat.sub_le _ _)) (by have := LY8.out; omega)) LZ.out
      have QE : Hid (∀ e w', RRetQ w (lowQ t (m * d - n * c) (d * c)) e w' → RRetQ w (lowQ (addS s (n * c) t (m * d)) (addN s (n * c) t (m * d)) (d * c)) e w') := fun e w' h => by
        have e9 : lowQ (addS s (n * c) t (m * d)) (addN s (n * c) t (m * d)) (d * c) = lowQ t (m * d - n * c) (d * c) := by unfold addS addN; rw [if_neg HST.out, if_neg HST.out, if_pos HLT.out, if_pos HLT.out]
        rw [e9]; exact h
      obtain ⟨q, hq⟩ : ∃ q, q = lowQ t (m * d - n * c) (d * c) := ⟨_, rfl⟩
      rw [← hq] at LWR0 QE
      have LWR := Lib.hid LWR0
      clear LWR0 hq
      refine region_inv 7 53 [(46, Is (.pointer (some ⟨w.heap.size + 1, 0, none⟩))), (47, Is (.bool t)), (48, Is (v17)), (49, Is (v12)), (50, IsR (m * d - n * c)), (51, Is (v22)), (52, IsRF q.1 q.2.1 q.2.2)] (by kernel_rfl) rfl (by kernel_rfl) ?_ ?_
      · refine steps_cons rfl (fun A_ W hb hr hg K hK => ?_) <| steps_cons rfl (fun A_ W hb hr hg K hK => ?_) <| steps_cons rfl (fun A_ W hb hr hg K hK => ?_) <| steps_cons rfl (fun A_ W hb hr hg K hK => ?_) <| steps_cons rfl (fun A_ W hb hr hg K hK => ?_) <| steps_cons rfl (fun A_ W hb hr hg K hK => ?_) <| steps_cons rfl (fun A_ W hb hr hg K hK => ?_) trivial
        · have e0 : A_.tmps[3]?.getD undef = .pointer (some ⟨w.heap.size + 1, 0, none⟩) := hb 3 (by kernel_rfl)
          clear hb hr; go_simp; exact hK _ _ (Below.refl _ _) rfl
        · have e0 : A_.tmps[46]?.getD undef = .pointer (some ⟨w.heap.size + 1, 0, none⟩) := hr 46 (by kernel_rfl)
          have c0 := (BB.out.go hg).facts.1
          clear hb hr; go_simp; exact hK _ _ (Below.refl _ _) rfl
        · have e0 : A_.tmps[6]?.getD undef = v17 := hb 6 (by kernel_rfl)
          clear hb hr; go_simp; exact hK _ _ (Below.refl _ _) rfl
        · have e0 : A_.tmps[5]?.getD undef = v12 := hb 5 (by kernel_rfl)
          clear hb hr; go_simp; exact hK _ _ (Below.refl _ _) rfl
        · have e0 : A_.tmps[48]?.getD undef = v17 := hr 48 (by kernel_rfl)
          have e1 : A_.tmps[49]?.getD undef = v12 := hr 49 (by kernel_rfl)
          clear hb hr; go_simp
          refine (OPR.out _ (NY.out.go hg) (NX.out.go hg)).mono ?_; rintro e w5 ⟨v5, rfl, hv5, hb5⟩
          exact hK _ _ hb5 hv5
        · have e0 : A_.tmps[7]?.getD undef = v22 := hb 7 (by kernel_rfl)
          clear hb hr; go_simp; exact hK _ _ (Below.refl _ _) rfl
        · have e0 : A_.tmps[47]?.getD undef = .bool t := hr 47 (by kernel_rfl)
          have h5 : RNum W (A_.tmps[50]?.getD undef) (m * d - n * c) := hr 50 (by kernel_rfl)
          have e2 : A_.tmps[51]?.getD undef = v22 := hr 51 (by kernel_rfl)
          have H5 := Lib.hid h5
          clear hb hr h5; go_simp
          refine (LWR.out _ _ H5.out (DEN.out.go hg)).mono ?_; rintro e w5 ⟨v5, rfl, hv5, hb5⟩
          exact hK _ _ hb5 hv5
      rintro g4 w14 hb14 ⟨-, -, -, -, -, -, h20, -⟩
      simp only [List.drop_succ_cons, List.drop_zero, List.take_succ_cons, List.take_zero, putHead, Option.getD_some, Act.put, List.setIfInBounds_toArray, List.set_cons_zero, List.set_cons_succ]
      replace h20 : RFrac w14 (g4 52) q.1 q.2.1 q.2.2 := h20
      generalize g4 52 = v20 at *
      obtain ⟨o7, k7, c7, o8, k8, c8, rfl, hqn, hqd⟩ := h20
      have HB9 := Lib.hid (bstep HB4.out hb14); have BR9 := Lib.hid (BR.out.go hb14); have QN := Lib.hid hqn; have QD := Lib.hid hqd
      clear hb14 hqn hqd
      obtain ⟨x0, x1, x2, f0, f1, f2⟩ := BR9.out.facts
      go_wp2_with fail
      obtain ⟨e0, e1, e2, hn9, hd9, hb9⟩ := boxq_ret (t := q.1) BR9.out QN.out QD.out HB9.out (by omega)
      refine bodyPost_ret (v := .agg #[.bool q.1, .slice o7 k7 c7, .slice o8 k8 c8]) ?_ rfl (QE.out _ _ ⟨_, rfl, ⟨_, _, _, _, _, _, rfl, hn9, hd9⟩, hb9⟩)
      simp [results, Tryz.f50, go_sem, e0, e1, e2]
    · have hcx : ∃ c9 : Int, cmpN (n * c) (m * d) = c9 ∧ 0 ≤ c9 ∧ c9 ≤ 1 := by
        unfold cmpN
        rw [if_neg hlt]
        split
        · exact ⟨_, rfl, by omega, by omega⟩
        · exact ⟨_, rfl, by omega, by omega⟩
      obtain ⟨c9, hc9, hc90, hc91⟩ := hcx
      rw [hc9]
      have HLE : Hid (m * d ≤ n * c) := by show _ ≤ _; omega
      have HLT := Lib.hid hlt
      have LX9 := LX
      clear hlt hc9
      go_wp2_with fail
      have OPR : Hid (∀ W, RNum W v12 (n * c) → RNum W v17 (m * d) → Calls Tryz.prog 77 #[v12, v17] W (RRet W (n * c - m * d))) := fun W h1 h2 => rsub_any h1 h2 (by have := HLE.out; omega) LX9.out
      have LWR0 : ∀ W v, RNum W v (n * c - m * d) → RNum W v22 (d * c) → Calls Tryz.prog 72 #[.bool s, v, v22] W (RRetQ W (lowQ s (n * c - m * d) (d * c))) := fun W v h1 h2 => lowest_any s h1 h2 DP.out (Nat.le_trans (rlen_mono (Nat.sub_le _ _)) (by have := LX8.out; omega)) LZ.out
      have QE : Hid (∀ e w', RRetQ w (lowQ s (n * c - m * d) (d * c)) e w' → RRetQ w (lowQ (addS s (n * c) t (m * d)) (addN s (n * c) t (m * d)) (d * c)) e w') := fun e w' h => by
        have e9 : lowQ (addS s (n * c) t (m * d)) (addN s (n * c) t (m * d)) (d * c) = lowQ s (n * c - m * d) (d * c) := by unfold addS addN; rw [if_neg HST.out, if_neg HST.out, if_neg HLT.out, if_neg HLT.out]
        rw [e9]; exact h
      obtain ⟨q, hq⟩ : ∃ q, q = lowQ s (n * c - m * d) (d * c) := ⟨_, rfl⟩
      rw [← hq] at LWR0 QE
      have LWR := Lib.hid LWR0
      clear LWR0 hq
      refine region_inv 7 53 [(39, Is (.pointer (some ⟨w.heap.size, 0, none⟩))), (40, Is (.bool s)), (41, Is (v12)), (42, Is (v17)), (43, IsR (n * c - m * d)), (44, Is (v22)), (45, IsRF q.1 q.2.1 q.2.2)] (by kernel_rfl) rfl (by kernel_rfl) ?_ ?_
      · refine steps_cons rfl (fun A_ W hb hr hg K hK => ?_) <| steps_cons rfl (fun A_ W hb hr hg K hK => ?_) <| steps_cons rfl (fun A_ W hb hr hg K hK => ?_) <| steps_cons rfl (fun A_ W hb hr hg K hK => ?_) <| steps_cons rfl (fun A_ W hb hr hg K hK => ?_) <| steps_cons rfl (fun A_ W hb hr hg K hK => ?_) <| steps_cons rfl (fun A_ W hb hr hg K hK => ?_) trivial
        · have e0 : A_.tmps[2]?.getD undef = .pointer (some ⟨w.heap.size, 0, none⟩) := hb 2 (by kernel_rfl)
          clear hb hr; go_simp; exact hK _ _ (Below.refl _ _) rfl
        · have e0 : A_.tmps[39]?.getD undef = .pointer (some ⟨w.heap.size, 0, none⟩) := hr 39 (by kernel_rfl)
          have c0 := (BA.out.go hg).facts.1
          clear hb hr; go_simp; exact hK _ _ (Below.refl _ _) rfl
        · have e0 : A_.tmps[5]?.getD undef = v12 := hb 5 (by kernel_rfl)
          clear hb hr; go_simp; exact hK _ _ (Below.refl _ _) rfl
        · have e0 : A_.tmps[6]?.getD undef = v17 := hb 6 (by kernel_rfl)
          clear hb hr; go_simp; exact hK _ _ (Below.refl _ _) rfl
        · have e0 : A_.tmps[41]?.getD undef = v12 := hr 41 (by kernel_rfl)
          have e1 : A_.tmps[42]?.getD undef = v17 := hr 42 (by kernel_rfl)
          clear hb hr; go_simp
          refine (OPR.out _ (NX.out.go hg) (NY.out.go hg)).mono ?_; rintro e w5 ⟨v5, rfl, hv5, hb5⟩
          exact hK _ _ hb5 hv5
        · have e0 : A_.tmps[7]?.getD undef = v22 := hb 7 (by kernel_rfl)
          clear hb hr; go_simp; exact hK _ _ (Below.refl _ _) rfl
        · have e0 : A_.tmps[40]?.getD undef = .bool s := hr 40 (by kernel_rfl)
          have h5 : RNum W (A_.tmps[43]?.getD undef) (n * c - m * d) := hr 43 (by kernel_rfl)
          have e2 : A_.tmps[44]?.getD undef = v22 := hr 44 (by kernel_rfl)
          have H5 := Lib.hid h5
          clear hb hr h5; go_simp
          refine (LWR.out _ _ H5.out (DEN.out.go hg)).mono ?_; rintro e w5 ⟨v5, rfl, hv5, hb5⟩
          exact hK _ _ hb5 hv5
      rintro g4 w14 hb14 ⟨-, -, -, -, -, -, h20, -⟩
      simp only [List.drop_succ_cons, List.drop_zero, List.take_succ_cons, List.take_zero, putHead, Option.getD_some, Act.put, List.setIfInBounds_toArray, List.set_cons_zero, List.set_cons_succ]
      replace h20 : RFrac w14 (g4 45) q.1 q.2.1 q.2.2 := h20
      generalize g4 45 = v20 at *
      obtain ⟨o7, k7, c7, o8, k8, c8, rfl, hqn, hqd⟩ := h20
      have HB9 := Lib.hid (bstep HB4.out hb14); have BR9 := Lib.hid (BR.out.go hb14); have QN := Lib.hid hqn; have QD := Lib.hid hqd
      clear hb14 hqn hqd
      obtain ⟨x0, x1, x2, f0, f1, f2⟩ := BR9.out.facts
      go_wp2_with fail
      obtain ⟨e0, e1, e2, hn9, hd9, hb9⟩ := boxq_ret (t := q.1) BR9.out QN.out QD.out HB9.out (by omega)
      refine bodyPost_ret (v := .agg #[.bool q.1, .slice o7 k7 c7, .slice o8 k8 c8]) ?_ rfl (QE.out _ _ ⟨_, rfl, ⟨_, _, _, _, _, _, rfl, hn9, hd9⟩, hb9⟩)
      simp [results, Tryz.f50, go_sem, e0, e1, e2]

end Go.Proofs.YtegobakoflbnfaaGreatDoor.QA
