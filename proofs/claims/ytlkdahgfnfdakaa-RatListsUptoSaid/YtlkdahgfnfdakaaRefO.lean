/- The reference's textNat. -/
import Derived.Test.YtlkdahgfnfdakaaRefN
namespace Go.Proofs.Ytlkdahgfnfdakaa
open Go Go.RowKit Go.Shelf WN LM

theorem make_bytes (w : World) (l c : Int) (h0 : 0 ≤ l) (hlc : l ≤ c) (hc : c ≤ 1000000000000) :
    (Instr.makeSlice 92 (.int .i64 l) (.int .i64 c)).run Try.prog w = .ok (.slice (some ⟨w.heap.size, 0, none⟩) l.toNat c.toNat) (w.alloc (.cells (ns .u8 (List.replicate c.toNat 0)) 5)) := by
  obtain ⟨i0, hi, hz0, hz1, hz2⟩ := info_parts Try.info5
  rw [run_make w 92 5 i0 _ Try.underlying92 hi hz0 .i64 .i64 l c h0 hlc (by rw [hz2]; omega) (by omega), hz1, Nat.mul_one]
  show Result.ok _ (w.alloc (.cells (madeCells #[Value.int .u8 0] c.toNat) 5)) = _
  rw [ns_zeros]
def padN : Nat → Nat → List Nat
  | 0, _ => []
  | j + 1, n => padN j (n / 10) ++ [48 + n % 10]
theorem padN_length (j n : Nat) : (padN j n).length = j := by
  induction j generalizing n with
  | zero => rfl
  | succ j ih => simp [padN, ih]
theorem padN_cons (j n : Nat) : padN (j + 1) n = (48 + n / 10 ^ j % 10) :: padN j n := by
  induction j generalizing n with
  | zero => simp [padN]
  | succ j ih =>
    rw [padN, ih, List.cons_append, Nat.div_div_eq_div_mul, show 10 * 10 ^ j = 10 ^ (j + 1) from by rw [Nat.pow_succ, Nat.mul_comm]]
    rfl
theorem padN_dec : ∀ (N n : Nat), n ≤ N → padN (dec n).length n = (dec n).map UInt8.toNat
  | 0, n, h => by obtain rfl : n = 0 := by omega
                  rw [dec_zero]; rfl
  | N + 1, n, h => by
    by_cases h0 : n = 0
    · subst h0; rw [dec_zero]; rfl
    · rw [dec_pos h0, List.length_append, List.length_singleton, padN, padN_dec N (n / 10) (by omega), List.map_append, List.map_singleton, digit_nat (by omega)]
theorem padN_decT (n : Nat) : padN (Dig n) n = (decT n).map UInt8.toNat := by
  by_cases h0 : n = 0
  · subst h0; rw [dig_zero]; rfl
  · rw [← decT_len]; unfold decT; rw [if_neg h0]; exact padN_dec n n (Nat.le_refl _)
def TextI (n S : Nat) (w wr : World) (j : Nat) : Prop := Row wr w.heap.size .u8 5 (List.replicate (S - j) 48 ++ padN j n) ∧ j ≤ S ∧ Below w.heap.size w wr
theorem TextI.step {n S : Nat} {w wr : World} {j A c : Nat} {z : Int} (h : TextI n S w wr j) (hA : A = S - 1 - j) (hj : j < S) (hc : c = 48 + n / 10 ^ j % 10) (hz : z = (c : Int)) : TextI n S w (wr.setCell ⟨w.heap.size, A, none⟩ (.int .u8 z)) (j + 1) := by
  obtain ⟨h1, h2, h3⟩ := h
  subst hz
  refine ⟨?_, hj, h3.setCell (p := ⟨w.heap.size, A, none⟩) (Nat.le_refl _) _⟩
  have := h1.set A c
  rw [show S - j = A + 1 from by omega, List.replicate_succ', List.append_assoc, List.set_append_right _ _ (by rw [List.length_replicate]; exact Nat.le_refl _), List.length_replicate, Nat.sub_self] at this
  rw [padN_cons, ← hc, show S - (j + 1) = A from by omega]
  exact this
def FillI (S : Nat) (w wr : World) (i : Nat) : Prop := Row wr w.heap.size .u8 5 (List.replicate i 48 ++ List.replicate (S - i) 0) ∧ Below w.heap.size w wr
theorem FillI.step {S : Nat} {w wr : World} {i : Nat} (h : FillI S w wr i) (hi : i < S) : FillI S w (wr.setCell ⟨w.heap.size, i, none⟩ (.int .u8 48)) (i + 1) := by
  obtain ⟨h1, h3⟩ := h
  refine ⟨?_, h3.setCell (p := ⟨w.heap.size, i, none⟩) (Nat.le_refl _) _⟩
  have := h1.set i 48
  rw [set_next (by rw [List.length_replicate]) hi] at this
  rw [List.replicate_succ']
  exact this
theorem dig_len4 (n : Nat) : Dig n ≤ 4 * RLen n + 1 ∧ (0 < n → Dig n ≤ 4 * RLen n ∧ 4 * (RLen n - 1) < Dig n) := by
  have hp : ∀ k, (10000 : Nat) ^ k = 10 ^ (4 * k) := fun k => by rw [Nat.pow_mul]
  have h1 := lt_rlen n
  rw [hp] at h1
  refine ⟨dig_le (by omega) (Nat.lt_of_lt_of_le h1 (Nat.pow_le_pow_right (by omega) (by omega))), fun h0 => ⟨dig_le (by have := rlen_pos h0; omega) h1, ?_⟩⟩
  have h2 := rlen_le h0
  rw [hp] at h2
  have h3 := lt_dig n
  have h4 : 10 ^ (4 * (RLen n - 1)) < 10 ^ Dig n := by omega
  exact (Nat.pow_lt_pow_iff_right (by omega)).1 h4
theorem digit_at {n i k x : Nat} (hx : x = n / 10000 ^ i % 10000) (hk : k < 4) : x / 10 ^ k % 10 = n / 10 ^ (4 * i + k) % 10 := by
  rw [Nat.pow_add, ← Nat.div_div_eq_div_mul, Nat.pow_mul, show (10 : Nat) ^ 4 = 10000 from rfl, hx]
  generalize n / 10000 ^ i = a
  rcases (show k = 0 ∨ k = 1 ∨ k = 2 ∨ k = 3 by omega) with h | h | h | h <;> subst h <;> simp only [Nat.pow_zero, Nat.pow_one, show (10 : Nat) ^ 2 = 100 from rfl, show (10 : Nat) ^ 3 = 1000 from rfl] <;> omega
theorem rlen_eq_zero' {n : Nat} : RLen n = 0 ↔ n = 0 := by
  constructor
  · intro h
    rcases Nat.eq_zero_or_pos n with h0 | h0
    · exact h0
    · have := rlen_pos h0; omega
  · rintro rfl; exact rlen_zero
theorem text_conv {W : World} {g : Nat} {n : Nat} (h : Row W g .u8 5 (padN (Dig n) n)) : (convert 92 9 (.slice (some ⟨g, 0, none⟩) (Dig n) (Dig n))).run Try.prog W = .ok (.string ⟨(decT n).toArray⟩) W := by
  have := run_convert_bytes_back (P := Try.prog) W 92 9 5 ⟨g, 0, none⟩ (Dig n) (decT n) Try.underlying92 Try.underlying5 Try.underlying9 fun j hj => by
    have hj2 : j < (padN (Dig n) n).length := by rw [padN_length, ← decT_len]; exact hj
    have h2 := h.cell j hj2
    have e : (⟨g, 0, none⟩ : Addr).add j = ⟨g, j, none⟩ := by unfold Addr.add; split <;> simp
    rw [e, h2]
    simp only [padN_decT, List.getElem_map]
  rw [decT_len] at this
  exact this

set_option maxHeartbeats 4000000 in
set_option maxRecDepth 100000 in
theorem rtext_any {va : Value} {n : Nat} {w : World} (ha : RNum w va n) (ln : RLen n ≤ 100000) : Calls Try.prog 60 #[va] w fun e w' => e = .returned (.string ⟨(decT n).toArray⟩) ∧ Below w.heap.size w w' := by
  have SZ := Lib.hid (rsize_any ha ln)
  obtain ⟨oa, cap, la, rfl, ra, ca, hva, hla⟩ := ha.open
  obtain ⟨S, hS⟩ : ∃ S, Dig n = S := ⟨_, rfl⟩
  obtain ⟨L, hL⟩ : ∃ L, RLen n = L := ⟨_, rfl⟩
  have hsl := dig_len4 n
  have hsp := dig_pos n
  have TC : Hid (∀ W, Row W w.heap.size .u8 5 (padN S n) → (convert 92 9 (.slice (some ⟨w.heap.size, 0, none⟩) S S)).run Try.prog W = .ok (.string ⟨(decT n).toArray⟩) W) := fun W h => by
    have := text_conv (W := W) (g := w.heap.size) (n := n) (by rw [hS]; exact h)
    rwa [hS] at this
  rw [hS] at SZ hsl hsp
  rw [hL] at SZ ra hla hsl ln ⊢
  have HLN : Hid (n < 10000 ^ L) := by show _ < _; rw [← hL]; exact lt_rlen n
  have RA := Lib.hid ra; have CA := Lib.hid ca; have HVA := Lib.hid hva; have HLA := Lib.hid hla; have LN := Lib.hid ln
  have HSL := Lib.hid hsl; have HSP := Lib.hid hsp
  have HSB : Hid (S ≤ 400001) := by show _ ≤ _; omega
  have hmk := fun w => make_bytes w (S : Int) (S : Int) (by omega) (by omega) (by have := HSB.out; omega)
  simp only [Int.toNat_natCast] at hmk
  have HZ : Hid (L = 0 → n = 0) := fun h => rlen_eq_zero'.1 (by rw [hL]; exact h)
  clear ha ra ca hva hla ln hsl hS hL hsp
  go_enter Try.func60, Try.ntmps60
  go_wp2_with fail
  refine SZ.out.mono ?_; rintro e w0 ⟨rfl, rfl⟩
  go_wp2_with fail
  have HR := Lib.hid (Row.new w0 .u8 5 (List.replicate S 0))
  have HB := Lib.hid ((Below.refl _ w0).alloc (Nat.le_refl _) (.cells (ns .u8 (List.replicate S 0)) 5))
  generalize w0.alloc (.cells (ns .u8 (List.replicate S 0)) 5) = w1 at *
  clear hmk
  go_loopw [4] (fun v4 wr => ∃ i : Nat, i ≤ S ∧ v4 = .int .i64 (i : Nat) ∧ Hid (FillI S w0 wr i)) (fun v4 _ => S - (intOf v4).toNat)
  case atStart => exact ⟨0, Nat.zero_le _, rfl, by have := HR.out; rw [List.replicate_zero, List.nil_append, Nat.sub_zero]; exact this, HB.out⟩
  case round =>
    rename World => wr
    obtain ⟨i, hi, rfl, hf⟩ := hrel
    have F := Lib.hid hf.out; clear hf
    by_cases hlt : i < S
    · obtain ⟨cc, hcc, hff⟩ : ∃ v0, wr.cell? ⟨w0.heap.size, i, none⟩ = some v0 ∧ wr.frozen? ⟨w0.heap.size, i, none⟩ = false := by
        have h1 := F.out.1
        exact ⟨_, h1.cell i (by simp; omega), h1.free _⟩
      have ST := Lib.hid (F.out.step hlt)
      have HLT := Lib.hid hlt
      obtain ⟨i1, hi1⟩ : ∃ i1, i1 = i + 1 := ⟨_, rfl⟩
      have HW : Hid (wrap64 ((i : Int) + 1) = (i1 : Int)) := by
        show _ = _
        rw [hi1]; exact IntWalk.wrap64_in _ ⟨by omega, by have := HSB.out; omega⟩
      have HI1 := Lib.hid hi1
      clear F hi1 hi
      have hw := HW.out
      go_wp2_with fail
      clear hw
      go_roundw
      case rel => exact ⟨i1, by have := HI1.out; have := HLT.out; omega, congrArg (Value.int .i64) HW.out, by have := ST.out; rwa [← HI1.out] at this⟩
      case measure => rw [HW.out]; have := HI1.out; have := HLT.out; simp [intOf]; omega
    · have hiS : i = S := by omega
      have TI0 : Hid (TextI n S w0 wr 0) := by
        obtain ⟨h1, h2⟩ := F.out
        rw [hiS, Nat.sub_self, List.replicate_zero, List.append_nil] at h1
        exact ⟨by rw [Nat.sub_zero]; simpa [padN] using h1, Nat.zero_le _, h2⟩
      have E1 : Hid (wrap64 ((S : Int) - 1) = (S : Int) - 1) := by
        show _ = _
        exact IntWalk.wrap64_in _ ⟨by omega, by have := HSB.out; omega⟩
      clear F hiS hi
      have e1 := E1.out
      go_wp2_with fail
      clear e1
      go_loopw [5, 6] (fun v5 v6 wk => ∃ i j : Nat, i ≤ L ∧ v5 = .int .i64 ((S : Int) - 1 - (j : Int)) ∧ v6 = .int .i64 (i : Nat) ∧ Hid ((i < L → j = 4 * i) ∧ (i = L → List.replicate (S - j) 48 ++ padN j n = padN S n)) ∧ Hid (TextI n S w0 wk j)) (fun _ v6 _ => L - (intOf v6).toNat)
      case atStart =>
        refine ⟨0, 0, Nat.zero_le _, ?_, rfl, ⟨fun _ => rfl, fun h => ?_⟩, TI0.out⟩
        · first | (rw [E1.out]; exact congrArg (Value.int .i64) (by omega)) | exact congrArg (Value.int .i64) (by omega)
        · have h0 : n = 0 := HZ.out h.symm
          have hs1 : S = 1 := by have := HSL.out.1; have := HSP.out; omega
          rw [h0, hs1]; rfl
      case round =>
        clear TI0 E1
        rename World => wk
        obtain ⟨i, j, hi, rfl, rfl, hij, hti⟩ := hrel
        have TI := Lib.hid hti.out; clear hti
        by_cases hlt : i < L
        · have hj4 : j = 4 * i := hij.out.1 hlt
          have hil : i < la.length := by have := HLA.out; omega
          obtain ⟨b1, f1, hoa, -, hx⟩ := RA.out.at' TI.out.2.2 i hil
          subst hoa
          have hxv : la[i] = n / 10000 ^ i % 10000 := by
            have h1 := val_drop_div CA.out.1 i
            rw [HVA.out, val_drop _ _ _ hil] at h1
            have h2 := CA.out.1.get i hil
            rw [← h1, Nat.add_mul_mod_self_left, Nat.mod_eq_of_lt h2]
          have HXV := Lib.hid hxv
          generalize la[i] = x at *
          have HJ4 := Lib.hid hj4; have HLT := Lib.hid hlt
          have HXB : Hid (x < 10000) := by show _ < _; rw [hxv]; exact Nat.mod_lt _ (show 0 < 10000 by decide)
          have HIJ : Hid (∀ jj k, jj = 4 * i + k → k ≤ 4 → jj ≤ S → (k = 4 ∨ jj = S) → (i + 1 < L → jj = 4 * (i + 1)) ∧ (i + 1 = L → List.replicate (S - jj) 48 ++ padN jj n = padN S n)) := fun jj k h1 h2 h3 h4 => by
            have hn0 : 0 < n := by
              rcases Nat.eq_zero_or_pos n with h | h
              · have := HLA.out
                exfalso
                have h9 := CA.out
                have : la = [] := (val_eq_zero (B := 10000) (by omega) h9.2).1 (by rw [HVA.out, h])
                rw [this] at hil; simp at hil
              · exact h
            obtain ⟨h5, h6⟩ := HSL.out.2 hn0
            refine ⟨fun h => by omega, fun h => ?_⟩
            have : jj = S := by omega
            rw [this, Nat.sub_self]; rfl
          clear hij hxv hj4 hil
          obtain ⟨i1, hi1⟩ : ∃ i1, i1 = i + 1 := ⟨_, rfl⟩
          have HW : Hid (wrap64 ((i : Int) + 1) = (i1 : Int)) := by
            show _ = _
            rw [hi1]; exact IntWalk.wrap64_in _ ⟨by omega, by have := LN.out; omega⟩
          have HI1 := Lib.hid hi1
          clear hi1 hi
          go_wp2_with fail
          go_loopw [5, 7, 8] (fun v5 v7 v8 wt => ∃ k jj d : Nat, v5 = .int .i64 ((S : Int) - 1 - (jj : Int)) ∧ v7 = .int .i64 (d : Nat) ∧ v8 = .int .i64 (k : Nat) ∧ Hid (k ≤ 4 ∧ jj = 4 * i + k ∧ d = x / 10 ^ k) ∧ Hid (TextI n S w0 wt jj)) (fun _ _ v8 _ => 4 - (intOf v8).toNat)
          case atStart => exact ⟨0, j, x, rfl, rfl, rfl, ⟨by omega, HJ4.out, by simp⟩, TI.out⟩
          case round =>
            clear TI
            rename World => wt
            obtain ⟨k, jj, d, rfl, rfl, rfl, hkj, hti⟩ := hrel
            have TI := Lib.hid hti.out; clear hti
            have hjS : jj ≤ S := TI.out.2.1
            have HKJ := Lib.hid hkj.out; clear hkj
            have hk4 : k ≤ 4 := HKJ.out.1
            by_cases hgo : k < 4 ∧ jj < S
            · obtain ⟨hk, hj⟩ := hgo
              obtain ⟨A, hA⟩ : ∃ A, A = S - 1 - jj := ⟨_, rfl⟩
              have eA : (S : Int) - 1 - (jj : Int) = (A : Int) := by omega
              rw [eA]
              have hAS : A < S := by omega
              obtain ⟨cc, hcc, hff⟩ : ∃ v0, wt.cell? ⟨w0.heap.size, A, none⟩ = some v0 ∧ wt.frozen? ⟨w0.heap.size, A, none⟩ = false := by
                have h1 := TI.out.1
                exact ⟨_, h1.cell A (by rw [List.length_append, List.length_replicate, padN_length]; omega), h1.free _⟩
              obtain ⟨dd, hdd⟩ : ∃ dd, dd = d % 10 := ⟨_, rfl⟩
              obtain ⟨d2, hd2⟩ : ∃ d2, d2 = d / 10 := ⟨_, rfl⟩
              obtain ⟨c, hc⟩ : ∃ c, c = 48 + dd := ⟨_, rfl⟩
              obtain ⟨k1, hk1⟩ : ∃ k1, k1 = k + 1 := ⟨_, rfl⟩
              have HDB : Hid (d ≤ 10000) := by
                show _ ≤ _
                rw [HKJ.out.2.2]; exact Nat.le_trans (Nat.div_le_self _ _) (by have := HXB.out; omega)
              have hdn : d % 10 = n / 10 ^ jj % 10 := by
                rw [HKJ.out.2.2, HKJ.out.2.1]; exact digit_at HXV.out hk
              have ST := Lib.hid (TI.out.step hA hj (c := c) (by rw [hc, hdd, hdn]) (z := (c : Int)) rfl)
              have HQ1 : Hid (IntKind.i64.wrap ((d : Int).tdiv 10) = (d2 : Int)) := by
                show _ = _
                rw [IntWalk.i64_quo _ _ ⟨by omega, by have := HDB.out; omega, by omega⟩, hd2]; rfl
              have HQ2 : Hid (wrap64 ((d : Int) / 10) = (d2 : Int)) := by
                show _ = _
                rw [show (d : Int) / 10 = (d2 : Int) from by omega]; exact IntWalk.wrap64_in _ ⟨by omega, by have := HDB.out; omega⟩
              have HR1 : Hid ((d : Int).tmod 10 = (dd : Int)) := by
                show _ = _
                rw [hdd]; exact IntWalk.up_tmod rfl rfl
              have HR2 : Hid ((d : Int) % 10 = (dd : Int)) := by show _ = _; omega
              have HC1 : Hid (wrap64 (48 + (dd : Int)) = (c : Int)) := by
                show _ = _
                rw [show 48 + (dd : Int) = (c : Int) from by omega]; exact IntWalk.wrap64_in _ ⟨by omega, by omega⟩
              have HC2 : Hid (IntKind.u8.wrap (c : Int) = (c : Int)) := IntWalk.u8_in _ ⟨by omega, by omega⟩
              have HC3 : Hid (IntKind.u8.wrap (48 + (dd : Int)) = (c : Int)) := by
                show _ = _
                rw [show 48 + (dd : Int) = (c : Int) from by omega]; exact HC2.out
              have HC4 : Hid (IntKind.u8.wrap (wrap64 (48 + (dd : Int))) = (c : Int)) := by show _ = _; rw [HC1.out]; exact HC2.out
              have HWK : Hid (wrap64 ((k : Int) + 1) = (k1 : Int)) := by
                show _ = _
                rw [hk1]; exact IntWalk.wrap64_in _ ⟨by omega, by omega⟩
              have HWA : Hid (wrap64 ((A : Int) - 1) = (S : Int) - 1 - ((jj + 1 : Nat) : Int)) := by
                show _ = _
                rw [show (A : Int) - 1 = (S : Int) - 1 - ((jj + 1 : Nat) : Int) from by omega]; exact IntWalk.wrap64_in _ ⟨by omega, by have := HSB.out; omega⟩
              have HKJ2 : Hid (k1 ≤ 4 ∧ jj + 1 = 4 * i + k1 ∧ d2 = x / 10 ^ k1) := by
                obtain ⟨h1, h2, h3⟩ := HKJ.out
                refine ⟨by omega, by omega, by rw [hd2, h3, Nat.div_div_eq_div_mul, hk1, Nat.pow_succ]⟩
              have HK1 := Lib.hid hk1; have HK := Lib.hid hk
              have tA : decide (0 ≤ (A : Int)) = true := decide_eq_true (by omega)
              have tk : decide ((k : Int) < 4) = true := decide_eq_true (by omega)
              clear hdd hd2 hc hk1 hdn HKJ TI hA eA hk4 hjS hj hk
              have q1 := HQ1.out; have q2 := HQ2.out; have q3 := HR1.out; have q4 := HR2.out; have q5 := HC1.out; have q6 := HC4.out; have q7 := HC3.out; have q8 := HC2.out
              go_wp2_with fail
              clear q1 q2 q3 q4 q5 q6 q7 q8
              go_roundw
              case rel => exact ⟨k1, jj + 1, d2, congrArg (Value.int .i64) HWA.out, by first | with_reducible rfl | exact congrArg (Value.int .i64) HQ2.out | exact congrArg (Value.int .i64) HQ1.out, congrArg (Value.int .i64) HWK.out, HKJ2.out, ST.out⟩
              case measure => rw [HWK.out]; have := HK1.out; have := HK.out; simp [intOf]; omega
            · have hex : k = 4 ∨ jj = S := by omega
              have NX := Lib.hid (HIJ.out jj k HKJ.out.2.1 hk4 hjS hex)
              have HEX := Lib.hid hex
              rcases HEX.out with h4 | hS
              · clear hex hgo
                subst h4
                have HTI : Hid (TextI n S w0 wt jj) := TI.out
                clear HKJ TI hjS hk4
                go_wp2_with fail
                go_roundw
                case rel => exact ⟨i1, jj, by have := HI1.out; have := HLT.out; omega, rfl, congrArg (Value.int .i64) HW.out, by have := NX.out; rwa [← HI1.out] at this, HTI.out⟩
                case measure => rw [HW.out]; have := HI1.out; have := HLT.out; simp [intOf]; omega
              · by_cases hk : k < 4
                · have eA : (S : Int) - 1 - (jj : Int) = -1 := by omega
                  have EA := Lib.hid eA
                  rw [eA]
                  have HTI : Hid (TextI n S w0 wt jj) := TI.out
                  have tA : decide ((0 : Int) ≤ -1) = false := rfl
                  clear HKJ TI hjS hk4 hex hgo eA hS
                  go_wp2_with fail
                  go_roundw
                  case rel => exact ⟨i1, jj, by have := HI1.out; have := HLT.out; omega, congrArg (Value.int .i64) EA.out.symm, congrArg (Value.int .i64) HW.out, by have := NX.out; rwa [← HI1.out] at this, HTI.out⟩
                  case measure => rw [HW.out]; have := HI1.out; have := HLT.out; simp [intOf]; omega
                · have HTI : Hid (TextI n S w0 wt jj) := TI.out
                  clear HKJ TI hjS hk4 hex hgo hS
                  go_wp2_with fail
                  go_roundw
                  case rel => exact ⟨i1, jj, by have := HI1.out; have := HLT.out; omega, rfl, congrArg (Value.int .i64) HW.out, by have := NX.out; rwa [← HI1.out] at this, HTI.out⟩
                  case measure => rw [HW.out]; have := HI1.out; have := HLT.out; simp [intOf]; omega
        · have hiL : i = L := by omega
          have hrow : Row wk w0.heap.size .u8 5 (padN S n) := by
            have := TI.out.1
            rwa [hij.out.2 hiL] at this
          have hcv := TC.out wk hrow
          have HB9 := Lib.hid TI.out.2.2
          clear TI hij hiL hrow hi
          go_wp2_with fail
          go_ret
          exact ⟨rfl, HB9.out⟩
end Go.Proofs.Ytlkdahgfnfdakaa
