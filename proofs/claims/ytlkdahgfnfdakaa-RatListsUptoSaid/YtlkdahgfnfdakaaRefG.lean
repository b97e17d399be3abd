/- The reference's addNat. -/
import Derived.Test.YtlkdahgfnfdakaaRefF
namespace Go.Proofs.Ytlkdahgfnfdakaa
open Go Go.RowKit Go.Shelf WN LM

def AddI (la lb : List Nat) (T : Nat) (w wr : World) (i c : Nat) : Prop :=
  c ≤ 1 ∧ ∃ s, Row wr w.heap.size .i64 3 (s ++ List.replicate (T - i) 0) ∧ s.length = i ∧ Digs 10000 s ∧ val 10000 (la.take i) + val 10000 (lb.take i) = val 10000 s + 10000 ^ i * c ∧ Below w.heap.size w wr
theorem AddI.step {la lb : List Nat} {T : Nat} {w wr : World} {i c x y d c' : Nat} {z : Int} (h : AddI la lb T w wr i c) (hi : i < T) (hx : la[i]?.getD 0 = x) (hy : lb[i]?.getD 0 = y) (hx1 : x < 10000) (hy1 : y < 10000) (hd : d = (c + x + y) % 10000) (hc : c' = (c + x + y) / 10000) (hz : z = (d : Int)) :
    AddI la lb T w (wr.setCell ⟨w.heap.size, i, none⟩ (.int .i64 z)) (i + 1) c' := by
  obtain ⟨h0, s, h1, h2, h3, h4, h5⟩ := h
  subst hz
  have he : d + 10000 * c' = c + x + y := by subst hd hc; exact Nat.mod_add_div _ _
  refine ⟨by omega, s ++ [d], ?_, by rw [List.length_append, List.length_singleton, h2], h3.snoc (by omega), ?_, h5.setCell (p := ⟨w.heap.size, i, none⟩) (Nat.le_refl _) _⟩
  · have := h1.set i d
    rw [set_next h2 hi] at this
    exact this
  · rw [val_take_next, val_take_next, hx, hy, val_snoc, h2, Nat.pow_succ]
    clear hd hc h1 h5
    generalize val 10000 (la.take i) = A at *
    generalize val 10000 (lb.take i) = B at *
    generalize val 10000 s = S at *
    generalize 10000 ^ i = p at *
    have : p * (d + 10000 * c') = p * (c + x + y) := by rw [he]
    grind
theorem AddI.out {la lb : List Nat} {T : Nat} {w wr : World} {c : Nat} (h : AddI la lb T w wr T c) (da : Digs 10000 la) (db : Digs 10000 lb) (hla : la.length < T) (hlb : lb.length < T) : ∃ s, Row wr w.heap.size .i64 3 s ∧ s.length = T ∧ Digs 10000 s ∧ val 10000 s = val 10000 la + val 10000 lb ∧ Below w.heap.size w wr := by
  obtain ⟨hc, s, h1, h2, h3, h4, h5⟩ := h
  rw [Nat.sub_self, List.replicate_zero, List.append_nil] at h1
  rw [List.take_of_length_le (by omega), List.take_of_length_le (by omega)] at h4
  refine ⟨s, h1, h2, h3, ?_, h5⟩
  have : c = 0 := by
    rcases Nat.eq_zero_or_pos c with h | h
    · exact h
    · have : c = 1 := by omega
      subst this
      obtain ⟨k, rfl⟩ : ∃ k, T = k + 1 := ⟨T - 1, by omega⟩
      have ha := val_lt (B := 10000) (by omega) da
      have hb := val_lt (B := 10000) (by omega) db
      have ea : 10000 ^ la.length ≤ 10000 ^ k := Nat.pow_le_pow_right (by omega) (by omega)
      have eb : 10000 ^ lb.length ≤ 10000 ^ k := Nat.pow_le_pow_right (by omega) (by omega)
      rw [Nat.pow_succ] at h4
      omega
  subst this
  omega
theorem rem_i64 {z : Int} {v : Nat} (h : z = v) (hv : v ≤ 9223372036854775807) : z.tmod 10000 = ((v % 10000 : Nat) : Int) := IntWalk.up_tmod h rfl
theorem quo_i64 {z : Int} {v : Nat} (h : z = v) (hv : v ≤ 9223372036854775807) : IntKind.i64.wrap (z.tdiv 10000) = ((v / 10000 : Nat) : Int) := by
  subst h
  rw [IntWalk.i64_quo _ _ ⟨by omega, by omega, by omega⟩]; rfl
theorem quo_w64 {z : Int} {v : Nat} (h : z = v) (hv : v ≤ 9223372036854775807) : wrap64 (z / 10000) = ((v / 10000 : Nat) : Int) := by
  subst h; unfold wrap64; omega

set_option maxHeartbeats 4000000 in
set_option maxRecDepth 100000 in
theorem radd_any {va vb : Value} {n m : Nat} {w : World} (ha : RNum w va n) (hb : RNum w vb m) (ln : RLen n ≤ 1000000) (lm : RLen m ≤ 1000000) : Calls Try.prog 112 #[va, vb] w (RRet w (n + m)) := by
  obtain ⟨la, ra, ca, rfl⟩ := ha
  obtain ⟨lb, rb, cb, rfl⟩ := hb
  have hla : la.length ≤ 1000000 := by rw [rlen_eq ca rfl]; exact ln
  have hlb : lb.length ≤ 1000000 := by rw [rlen_eq cb rfl]; exact lm
  clear ln lm
  obtain ⟨oa, capa, rfl, -, -⟩ := id ra
  obtain ⟨ob, capb, rfl, -, -⟩ := id rb
  have RA := Lib.hid ra; have RB := Lib.hid rb; have CA := Lib.hid ca; have CB := Lib.hid cb
  clear ra rb ca cb
  obtain ⟨N, hN⟩ : ∃ N, la.length = N := ⟨_, rfl⟩
  obtain ⟨M, hM⟩ : ∃ M, lb.length = M := ⟨_, rfl⟩
  rw [hN] at hla
  rw [hM] at hlb
  rw [hN, hM]
  have HN := Lib.hid hN; have HM := Lib.hid hM; have HLA := Lib.hid hla; have HLB := Lib.hid hlb
  obtain ⟨T, hT⟩ : ∃ T : Nat, max N M + 1 = T := ⟨_, rfl⟩
  have hTN : N < T := by omega
  have hTM : M < T := by omega
  have hT1 : N < M → wrap64 ((M : Int) + 1) = (T : Int) := fun h => by unfold wrap64; omega
  have hT2 : ¬ N < M → wrap64 ((N : Int) + 1) = (T : Int) := fun h => by unfold wrap64; omega
  have HTN := Lib.hid hTN; have HTM := Lib.hid hTM
  have HT : Hid (T ≤ 1000001) := by show _ ≤ _; omega
  have hmk := fun w => make_ints w (T : Int) (T : Int) (by omega) (by omega) (by omega)
  simp only [Int.toNat_natCast] at hmk
  clear hN hM hlb hla hT hTN hTM
  by_cases hNM : N < M
  · have hTi := hT1 hNM
    clear hT1 hT2
    go_enter Try.func112, Try.ntmps112
    go_wp2_with fail
    clear hTi hNM
    have HR := Lib.hid (Row.new w .i64 3 (List.replicate T 0))
    have HB := Lib.hid ((Below.refl _ w).alloc (Nat.le_refl _) (.cells (ns .i64 (List.replicate T 0)) 3))
    generalize w.alloc (.cells (ns .i64 (List.replicate T 0)) 3) = w1 at *
    clear hmk
    go_loopw [6, 7] (fun v6 v7 wr => ∃ (i c : Nat), i ≤ T ∧ v6 = .int .i64 (c : Nat) ∧ v7 = .int .i64 (i : Nat) ∧ Hid (AddI la lb T w wr i c)) (fun _ vi _ => T - (intOf vi).toNat)
    case atStart => exact ⟨0, 0, Nat.zero_le _, rfl, rfl, by omega, [], by have := HR.out; rw [List.nil_append, Nat.sub_zero]; exact this, rfl, Digs.nil _, by simp [val], HB.out⟩
    case round =>
      obtain ⟨i, c, hi, rfl, rfl, hinv⟩ := hrel
      have Inv := Lib.hid hinv.out; clear hinv
      by_cases hlt : i < T
      · have hc1 : c ≤ 1 := Inv.out.1
        have hbel : Hid (Below w.heap.size w wr) := by obtain ⟨_, s, _, _, _, _, h5⟩ := Inv.out; exact h5
        obtain ⟨cc, hcc, hff⟩ : ∃ v0, wr.cell? ⟨w.heap.size, i, none⟩ = some v0 ∧ wr.frozen? ⟨w.heap.size, i, none⟩ = false := by
          obtain ⟨_, s, h1, h2, _, _, _⟩ := Inv.out
          exact ⟨_, h1.cell i (by rw [List.length_append, List.length_replicate]; omega), h1.free i⟩
        have HLT := Lib.hid hlt
        have hw : wrap64 ((i : Int) + 1) = ((i + 1 : Nat) : Int) := by unfold wrap64; have := HT.out; omega
        have HW := Lib.hid hw; clear hw
        by_cases hin : i < N
        · have hia : i < la.length := by have := HN.out; omega
          obtain ⟨b1, f1, hoa, -, hx⟩ := RA.out.at' hbel.out i hia
          subst hoa
          have GX : Hid (la[i]?.getD 0 = la[i]) := by show _ = _; rw [List.getElem?_eq_getElem hia]; rfl
          have hx1 : la[i] < 10000 := CA.out.1.get i hia
          generalize la[i] = x at *
          clear hia
          have e1 : wrap64 ((c : Int) + (x : Int)) = (c : Int) + (x : Int) := by unfold wrap64; omega
          by_cases him : i < M
          · have hib : i < lb.length := by have := HM.out; omega
            obtain ⟨b2, f2, hob, -, hy⟩ := RB.out.at' hbel.out i hib
            subst hob
            have GY : Hid (lb[i]?.getD 0 = lb[i]) := by show _ = _; rw [List.getElem?_eq_getElem hib]; rfl
            have hy1 : lb[i] < 10000 := CB.out.1.get i hib
            generalize lb[i] = y at *
            clear hib
            have e2 : wrap64 ((c : Int) + (x : Int) + (y : Int)) = (c : Int) + (x : Int) + (y : Int) := by unfold wrap64; omega
            have ez : ((c : Int) + (x : Int) + (y : Int) : Int) = ((c + x + y : Nat) : Int) := by omega
            obtain ⟨d, hd⟩ : ∃ d, d = (c + x + y) % 10000 := ⟨_, rfl⟩
            obtain ⟨c2, hc2⟩ : ∃ c2, c2 = (c + x + y) / 10000 := ⟨_, rfl⟩
            have hrem : ((c : Int) + (x : Int) + (y : Int) : Int).tmod 10000 = (d : Int) := by rw [hd]; exact rem_i64 ez (by omega)
            have hrem2 : ((c : Int) + (x : Int) + (y : Int) : Int) % 10000 = (d : Int) := by omega
            have hquo : IntKind.i64.wrap (((c : Int) + (x : Int) + (y : Int) : Int).tdiv 10000) = (c2 : Int) := by rw [hc2]; exact quo_i64 ez (by omega)
            have hquo2 : wrap64 (((c : Int) + (x : Int) + (y : Int) : Int) / 10000) = (c2 : Int) := by rw [hc2]; exact quo_w64 ez (by omega)
            have ST := Lib.hid (Inv.out.step HLT.out GX.out GY.out hx1 hy1 hd hc2 (z := (d : Int)) rfl)
            have HC2 := Lib.hid hc2
            clear Inv ez hd hc2 hc1
            go_wp2_with fail
            go_roundw
            case rel => exact ⟨i + 1, c2, HLT.out, by first | with_reducible rfl | exact congrArg (Value.int .i64) hquo2, congrArg (Value.int .i64) HW.out, ST.out⟩
            case measure => rw [HW.out]; have := HLT.out; simp [intOf]; omega
          · have GY : Hid (lb[i]?.getD 0 = 0) := by show _ = _; rw [List.getElem?_eq_none (by have := HM.out; omega)]; rfl
            have hy1 : 0 < 10000 := by omega
            have ez : ((c : Int) + (x : Int) : Int) = ((c + x + 0 : Nat) : Int) := by omega
            obtain ⟨d, hd⟩ : ∃ d, d = (c + x + 0) % 10000 := ⟨_, rfl⟩
            obtain ⟨c2, hc2⟩ : ∃ c2, c2 = (c + x + 0) / 10000 := ⟨_, rfl⟩
            have hrem : ((c : Int) + (x : Int) : Int).tmod 10000 = (d : Int) := by rw [hd]; exact rem_i64 ez (by omega)
            have hrem2 : ((c : Int) + (x : Int) : Int) % 10000 = (d : Int) := by omega
            have hquo : IntKind.i64.wrap (((c : Int) + (x : Int) : Int).tdiv 10000) = (c2 : Int) := by rw [hc2]; exact quo_i64 ez (by omega)
            have hquo2 : wrap64 (((c : Int) + (x : Int) : Int) / 10000) = (c2 : Int) := by rw [hc2]; exact quo_w64 ez (by omega)
            have ST := Lib.hid (Inv.out.step HLT.out GX.out GY.out hx1 hy1 hd hc2 (z := (d : Int)) rfl)
            have HC2 := Lib.hid hc2
            clear Inv ez hd hc2 hc1
            go_wp2_with fail
            go_roundw
            case rel => exact ⟨i + 1, c2, HLT.out, by first | with_reducible rfl | exact congrArg (Value.int .i64) hquo2, congrArg (Value.int .i64) HW.out, ST.out⟩
            case measure => rw [HW.out]; have := HLT.out; simp [intOf]; omega
        · have GX : Hid (la[i]?.getD 0 = 0) := by show _ = _; rw [List.getElem?_eq_none (by have := HN.out; omega)]; rfl
          have hx1 : 0 < 10000 := by omega
          by_cases him : i < M
          · have hib : i < lb.length := by have := HM.out; omega
            obtain ⟨b2, f2, hob, -, hy⟩ := RB.out.at' hbel.out i hib
            subst hob
            have GY : Hid (lb[i]?.getD 0 = lb[i]) := by show _ = _; rw [List.getElem?_eq_getElem hib]; rfl
            have hy1 : lb[i] < 10000 := CB.out.1.get i hib
            generalize lb[i] = y at *
            clear hib
            have e2 : wrap64 ((c : Int) + (y : Int)) = (c : Int) + (y : Int) := by unfold wrap64; omega
            have ez : ((c : Int) + (y : Int) : Int) = ((c + 0 + y : Nat) : Int) := by omega
            obtain ⟨d, hd⟩ : ∃ d, d = (c + 0 + y) % 10000 := ⟨_, rfl⟩
            obtain ⟨c2, hc2⟩ : ∃ c2, c2 = (c + 0 + y) / 10000 := ⟨_, rfl⟩
            have hrem : ((c : Int) + (y : Int) : Int).tmod 10000 = (d : Int) := by rw [hd]; exact rem_i64 ez (by omega)
            have hrem2 : ((c : Int) + (y : Int) : Int) % 10000 = (d : Int) := by omega
            have hquo : IntKind.i64.wrap (((c : Int) + (y : Int) : Int).tdiv 10000) = (c2 : Int) := by rw [hc2]; exact quo_i64 ez (by omega)
            have hquo2 : wrap64 (((c : Int) + (y : Int) : Int) / 10000) = (c2 : Int) := by rw [hc2]; exact quo_w64 ez (by omega)
            have ST := Lib.hid (Inv.out.step HLT.out GX.out GY.out hx1 hy1 hd hc2 (z := (d : Int)) rfl)
            have HC2 := Lib.hid hc2
            clear Inv ez hd hc2 hc1
            go_wp2_with fail
            go_roundw
            case rel => exact ⟨i + 1, c2, HLT.out, by first | with_reducible rfl | exact congrArg (Value.int .i64) hquo2, congrArg (Value.int .i64) HW.out, ST.out⟩
            case measure => rw [HW.out]; have := HLT.out; simp [intOf]; omega
          · have GY : Hid (lb[i]?.getD 0 = 0) := by show _ = _; rw [List.getElem?_eq_none (by have := HM.out; omega)]; rfl
            have hy1 : 0 < 10000 := by omega
            have ez : ((c : Int) : Int) = ((c + 0 + 0 : Nat) : Int) := by omega
            obtain ⟨d, hd⟩ : ∃ d, d = (c + 0 + 0) % 10000 := ⟨_, rfl⟩
            obtain ⟨c2, hc2⟩ : ∃ c2, c2 = (c + 0 + 0) / 10000 := ⟨_, rfl⟩
            have hrem : ((c : Int) : Int).tmod 10000 = (d : Int) := by rw [hd]; exact rem_i64 ez (by omega)
            have hrem2 : ((c : Int) : Int) % 10000 = (d : Int) := by omega
            have hquo : IntKind.i64.wrap (((c : Int) : Int).tdiv 10000) = (c2 : Int) := by rw [hc2]; exact quo_i64 ez (by omega)
            have hquo2 : wrap64 (((c : Int) : Int) / 10000) = (c2 : Int) := by rw [hc2]; exact quo_w64 ez (by omega)
            have ST := Lib.hid (Inv.out.step HLT.out GX.out GY.out hx1 hy1 hd hc2 (z := (d : Int)) rfl)
            have HC2 := Lib.hid hc2
            clear Inv ez hd hc2 hc1
            go_wp2_with fail
            go_roundw
            case rel => exact ⟨i + 1, c2, HLT.out, by first | with_reducible rfl | exact congrArg (Value.int .i64) hquo2, congrArg (Value.int .i64) HW.out, ST.out⟩
            case measure => rw [HW.out]; have := HLT.out; simp [intOf]; omega
      · have hiT : i = T := by omega
        subst hiT
        obtain ⟨s, k1, k2, k3, k4, k5⟩ := Inv.out.out CA.out.1 CB.out.1 (by have := HN.out; have := HTN.out; omega) (by have := HM.out; have := HTM.out; omega)
        have hrep := Rep.rowAll k1 i (by omega)
        rw [k2] at hrep
        have HT9 : Hid (Calls Try.prog 121 #[.slice (some ⟨w.heap.size, 0, none⟩) i i] wr fun e w' => ∃ v, e = .returned v ∧ Rep wr .i64 v (trim s) ∧ w' = wr) := by
          have := rtrim_any (oa := some ⟨w.heap.size, 0, none⟩) (l := s) (cap := i) (by have := HT.out; omega) (w := wr) (by rw [k2]; exact hrep)
          rw [k2] at this
          exact this
        have K3 := Lib.hid k3; have K4 := Lib.hid k4; have K5 := Lib.hid k5
        clear Inv k1 k2 k3 k4 k5 hrep
        go_wp2_with fail
        refine HT9.out.mono ?_; rintro e' w2 ⟨v', rfl, hv', rfl⟩
        have HV' := Lib.hid hv'; clear hv'
        go_wp2_with fail
        go_ret
        exact ⟨_, rfl, ⟨_, HV'.out, canon_trim K3.out, by rw [val_trim, K4.out]⟩, K5.out⟩
  · have hTi := hT2 hNM
    clear hT1 hT2
    go_enter Try.func112, Try.ntmps112
    go_wp2_with fail
    clear hTi hNM
    have HR := Lib.hid (Row.new w .i64 3 (List.replicate T 0))
    have HB := Lib.hid ((Below.refl _ w).alloc (Nat.le_refl _) (.cells (ns .i64 (List.replicate T 0)) 3))
    generalize w.alloc (.cells (ns .i64 (List.replicate T 0)) 3) = w1 at *
    clear hmk
    go_loopw [6, 7] (fun v6 v7 wr => ∃ (i c : Nat), i ≤ T ∧ v6 = .int .i64 (c : Nat) ∧ v7 = .int .i64 (i : Nat) ∧ Hid (AddI la lb T w wr i c)) (fun _ vi _ => T - (intOf vi).toNat)
    case atStart => exact ⟨0, 0, Nat.zero_le _, rfl, rfl, by omega, [], by have := HR.out; rw [List.nil_append, Nat.sub_zero]; exact this, rfl, Digs.nil _, by simp [val], HB.out⟩
    case round =>
      obtain ⟨i, c, hi, rfl, rfl, hinv⟩ := hrel
      have Inv := Lib.hid hinv.out; clear hinv
      by_cases hlt : i < T
      · have hc1 : c ≤ 1 := Inv.out.1
        have hbel : Hid (Below w.heap.size w wr) := by obtain ⟨_, s, _, _, _, _, h5⟩ := Inv.out; exact h5
        obtain ⟨cc, hcc, hff⟩ : ∃ v0, wr.cell? ⟨w.heap.size, i, none⟩ = some v0 ∧ wr.frozen? ⟨w.heap.size, i, none⟩ = false := by
          obtain ⟨_, s, h1, h2, _, _, _⟩ := Inv.out
          exact ⟨_, h1.cell i (by rw [List.length_append, List.length_replicate]; omega), h1.free i⟩
        have HLT := Lib.hid hlt
        have hw : wrap64 ((i : Int) + 1) = ((i + 1 : Nat) : Int) := by unfold wrap64; have := HT.out; omega
        have HW := Lib.hid hw; clear hw
        by_cases hin : i < N
        · have hia : i < la.length := by have := HN.out; omega
          obtain ⟨b1, f1, hoa, -, hx⟩ := RA.out.at' hbel.out i hia
          subst hoa
          have GX : Hid (la[i]?.getD 0 = la[i]) := by show _ = _; rw [List.getElem?_eq_getElem hia]; rfl
          have hx1 : la[i] < 10000 := CA.out.1.get i hia
          generalize la[i] = x at *
          clear hia
          have e1 : wrap64 ((c : Int) + (x : Int)) = (c : Int) + (x : Int) := by unfold wrap64; omega
          by_cases him : i < M
          · have hib : i < lb.length := by have := HM.out; omega
            obtain ⟨b2, f2, hob, -, hy⟩ := RB.out.at' hbel.out i hib
            subst hob
            have GY : Hid (lb[i]?.getD 0 = lb[i]) := by show _ = _; rw [List.getElem?_eq_getElem hib]; rfl
            have hy1 : lb[i] < 10000 := CB.out.1.get i hib
            generalize lb[i] = y at *
            clear hib
            have e2 : wrap64 ((c : Int) + (x : Int) + (y : Int)) = (c : Int) + (x : Int) + (y : Int) := by unfold wrap64; omega
            have ez : ((c : Int) + (x : Int) + (y : Int) : Int) = ((c + x + y : Nat) : Int) := by omega
            obtain ⟨d, hd⟩ : ∃ d, d = (c + x + y) % 10000 := ⟨_, rfl⟩
            obtain ⟨c2, hc2⟩ : ∃ c2, c2 = (c + x + y) / 10000 := ⟨_, rfl⟩
            have hrem : ((c : Int) + (x : Int) + (y : Int) : Int).tmod 10000 = (d : Int) := by rw [hd]; exact rem_i64 ez (by omega)
            have hrem2 : ((c : Int) + (x : Int) + (y : Int) : Int) % 10000 = (d : Int) := by omega
            have hquo : IntKind.i64.wrap (((c : Int) + (x : Int) + (y : Int) : Int).tdiv 10000) = (c2 : Int) := by rw [hc2]; exact quo_i64 ez (by omega)
            have hquo2 : wrap64 (((c : Int) + (x : Int) + (y : Int) : Int) / 10000) = (c2 : Int) := by rw [hc2]; exact quo_w64 ez (by omega)
            have ST := Lib.hid (Inv.out.step HLT.out GX.out GY.out hx1 hy1 hd hc2 (z := (d : Int)) rfl)
            have HC2 := Lib.hid hc2
            clear Inv ez hd hc2 hc1
            go_wp2_with fail
            go_roundw
            case rel => exact ⟨i + 1, c2, HLT.out, by first | with_reducible rfl | exact congrArg (Value.int .i64) hquo2, congrArg (Value.int .i64) HW.out, ST.out⟩
            case measure => rw [HW.out]; have := HLT.out; simp [intOf]; omega
          · have GY : Hid (lb[i]?.getD 0 = 0) := by show _ = _; rw [List.getElem?_eq_none (by have := HM.out; omega)]; rfl
            have hy1 : 0 < 10000 := by omega
            have ez : ((c : Int) + (x : Int) : Int) = ((c + x + 0 : Nat) : Int) := by omega
            obtain ⟨d, hd⟩ : ∃ d, d = (c + x + 0) % 10000 := ⟨_, rfl⟩
            obtain ⟨c2, hc2⟩ : ∃ c2, c2 = (c + x + 0) / 10000 := ⟨_, rfl⟩
            have hrem : ((c : Int) + (x : Int) : Int).tmod 10000 = (d : Int) := by rw [hd]; exact rem_i64 ez (by omega)
            have hrem2 : ((c : Int) + (x : Int) : Int) % 10000 = (d : Int) := by omega
            have hquo : IntKind.i64.wrap (((c : Int) + (x : Int) : Int).tdiv 10000) = (c2 : Int) := by rw [hc2]; exact quo_i64 ez (by omega)
            have hquo2 : wrap64 (((c : Int) + (x : Int) : Int) / 10000) = (c2 : Int) := by rw [hc2]; exact quo_w64 ez (by omega)
            have ST := Lib.hid (Inv.out.step HLT.out GX.out GY.out hx1 hy1 hd hc2 (z := (d : Int)) rfl)
            have HC2 := Lib.hid hc2
            clear Inv ez hd hc2 hc1
            go_wp2_with fail
            go_roundw
            case rel => exact ⟨i + 1, c2, HLT.out, by first | with_reducible rfl | exact congrArg (Value.int .i64) hquo2, congrArg (Value.int .i64) HW.out, ST.out⟩
            case measure => rw [HW.out]; have := HLT.out; simp [intOf]; omega
        · have GX : Hid (la[i]?.getD 0 = 0) := by show _ = _; rw [List.getElem?_eq_none (by have := HN.out; omega)]; rfl
          have hx1 : 0 < 10000 := by omega
          by_cases him : i < M
          · have hib : i < lb.length := by have := HM.out; omega
            obtain ⟨b2, f2, hob, -, hy⟩ := RB.out.at' hbel.out i hib
            subst hob
            have GY : Hid (lb[i]?.getD 0 = lb[i]) := by show _ = _; rw [List.getElem?_eq_getElem hib]; rfl
            have hy1 : lb[i] < 10000 := CB.out.1.get i hib
            generalize lb[i] = y at *
            clear hib
            have e2 : wrap64 ((c : Int) + (y : Int)) = (c : Int) + (y : Int) := by unfold wrap64; omega
            have ez : ((c : Int) + (y : Int) : Int) = ((c + 0 + y : Nat) : Int) := by omega
            obtain ⟨d, hd⟩ : ∃ d, d = (c + 0 + y) % 10000 := ⟨_, rfl⟩
            obtain ⟨c2, hc2⟩ : ∃ c2, c2 = (c + 0 + y) / 10000 := ⟨_, rfl⟩
            have hrem : ((c : Int) + (y : Int) : Int).tmod 10000 = (d : Int) := by rw [hd]; exact rem_i64 ez (by omega)
            have hrem2 : ((c : Int) + (y : Int) : Int) % 10000 = (d : Int) := by omega
            have hquo : IntKind.i64.wrap (((c : Int) + (y : Int) : Int).tdiv 10000) = (c2 : Int) := by rw [hc2]; exact quo_i64 ez (by omega)
            have hquo2 : wrap64 (((c : Int) + (y : Int) : Int) / 10000) = (c2 : Int) := by rw [hc2]; exact quo_w64 ez (by omega)
            have ST := Lib.hid (Inv.out.step HLT.out GX.out GY.out hx1 hy1 hd hc2 (z := (d : Int)) rfl)
            have HC2 := Lib.hid hc2
            clear Inv ez hd hc2 hc1
            go_wp2_with fail
            go_roundw
            case rel => exact ⟨i + 1, c2, HLT.out, by first | with_reducible rfl | exact congrArg (Value.int .i64) hquo2, congrArg (Value.int .i64) HW.out, ST.out⟩
            case measure => rw [HW.out]; have := HLT.out; simp [intOf]; omega
          · have GY : Hid (lb[i]?.getD 0 = 0) := by show _ = _; rw [List.getElem?_eq_none (by have := HM.out; omega)]; rfl
            have hy1 : 0 < 10000 := by omega
            have ez : ((c : Int) : Int) = ((c + 0 + 0 : Nat) : Int) := by omega
            obtain ⟨d, hd⟩ : ∃ d, d = (c + 0 + 0) % 10000 := ⟨_, rfl⟩
            obtain ⟨c2, hc2⟩ : ∃ c2, c2 = (c + 0 + 0) / 10000 := ⟨_, rfl⟩
            have hrem : ((c : Int) : Int).tmod 10000 = (d : Int) := by rw [hd]; exact rem_i64 ez (by omega)
            have hrem2 : ((c : Int) : Int) % 10000 = (d : Int) := by omega
            have hquo : IntKind.i64.wrap (((c : Int) : Int).tdiv 10000) = (c2 : Int) := by rw [hc2]; exact quo_i64 ez (by omega)
            have hquo2 : wrap64 (((c : Int) : Int) / 10000) = (c2 : Int) := by rw [hc2]; exact quo_w64 ez (by omega)
            have ST := Lib.hid (Inv.out.step HLT.out GX.out GY.out hx1 hy1 hd hc2 (z := (d : Int)) rfl)
            have HC2 := Lib.hid hc2
            clear Inv ez hd hc2 hc1
            go_wp2_with fail
            go_roundw
            case rel => exact ⟨i + 1, c2, HLT.out, by first | with_reducible rfl | exact congrArg (Value.int .i64) hquo2, congrArg (Value.int .i64) HW.out, ST.out⟩
            case measure => rw [HW.out]; have := HLT.out; simp [intOf]; omega
      · have hiT : i = T := by omega
        subst hiT
        obtain ⟨s, k1, k2, k3, k4, k5⟩ := Inv.out.out CA.out.1 CB.out.1 (by have := HN.out; have := HTN.out; omega) (by have := HM.out; have := HTM.out; omega)
        have hrep := Rep.rowAll k1 i (by omega)
        rw [k2] at hrep
        have HT9 : Hid (Calls Try.prog 121 #[.slice (some ⟨w.heap.size, 0, none⟩) i i] wr fun e w' => ∃ v, e = .returned v ∧ Rep wr .i64 v (trim s) ∧ w' = wr) := by
          have := rtrim_any (oa := some ⟨w.heap.size, 0, none⟩) (l := s) (cap := i) (by have := HT.out; omega) (w := wr) (by rw [k2]; exact hrep)
          rw [k2] at this
          exact this
        have K3 := Lib.hid k3; have K4 := Lib.hid k4; have K5 := Lib.hid k5
        clear Inv k1 k2 k3 k4 k5 hrep
        go_wp2_with fail
        refine HT9.out.mono ?_; rintro e' w2 ⟨v', rfl, hv', rfl⟩
        have HV' := Lib.hid hv'; clear hv'
        go_wp2_with fail
        go_ret
        exact ⟨_, rfl, ⟨_, HV'.out, canon_trim K3.out, by rw [val_trim, K4.out]⟩, K5.out⟩
end Go.Proofs.Ytlkdahgfnfdakaa
