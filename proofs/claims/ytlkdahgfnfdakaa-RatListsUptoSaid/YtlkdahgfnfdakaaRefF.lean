/- The reference's subNat. -/
import Derived.Test.YtlkdahgfnfdakaaRefE
namespace Go.Proofs.Ytlkdahgfnfdakaa
open Go Go.RowKit Go.Shelf WN LM

def SubI (la lb : List Nat) (w wr : World) (i c : Nat) : Prop :=
  c ≤ 1 ∧ ∃ s, Row wr w.heap.size .i64 3 (s ++ List.replicate (la.length - i) 0) ∧ s.length = i ∧ Digs 10000 s ∧ val 10000 (la.take i) + 10000 ^ i * c = val 10000 s + val 10000 (lb.take i) ∧ Below w.heap.size w wr
theorem SubI.step {la lb : List Nat} {w wr : World} {i c x y d c' : Nat} {z : Int} (h : SubI la lb w wr i c) (hi : i < la.length) (hx : la[i]? = some x) (hy : lb[i]?.getD 0 = y) (hd : d < 10000) (hc : c' ≤ 1) (he : x + 10000 * c' = d + y + c) (hz : z = (d : Int)) :
    SubI la lb w (wr.setCell ⟨w.heap.size, i, none⟩ (.int .i64 z)) (i + 1) c' := by
  obtain ⟨_, s, h1, h2, h3, h4, h5⟩ := h
  subst hz
  refine ⟨hc, s ++ [d], ?_, by rw [List.length_append, List.length_singleton, h2], h3.snoc hd, ?_, h5.setCell (p := ⟨w.heap.size, i, none⟩) (Nat.le_refl _) _⟩
  · have := h1.set i d
    rw [set_next h2 hi] at this
    exact this
  · rw [val_take_next, val_take_next, hx, hy, val_snoc, h2, Nat.pow_succ]
    show val 10000 (la.take i) + 10000 ^ i * x + 10000 ^ i * 10000 * c' = _
    generalize val 10000 (la.take i) = A at *
    generalize val 10000 (lb.take i) = B at *
    generalize val 10000 s = S at *
    generalize 10000 ^ i = p at *
    have : p * (x + 10000 * c') = p * (d + y + c) := by rw [he]
    grind
theorem SubI.out {la lb : List Nat} {w wr : World} {c : Nat} (h : SubI la lb w wr la.length c) (hl : lb.length ≤ la.length) (hv : val 10000 lb ≤ val 10000 la) : ∃ s, Row wr w.heap.size .i64 3 s ∧ s.length = la.length ∧ Digs 10000 s ∧ val 10000 s = val 10000 la - val 10000 lb ∧ Below w.heap.size w wr := by
  obtain ⟨hc, s, h1, h2, h3, h4, h5⟩ := h
  rw [Nat.sub_self, List.replicate_zero, List.append_nil] at h1
  rw [List.take_of_length_le (Nat.le_refl _), List.take_of_length_le hl] at h4
  have hlt := val_lt (B := 10000) (by omega) h3
  rw [h2] at hlt
  refine ⟨s, h1, h2, h3, ?_, h5⟩
  have : c = 0 := by
    rcases Nat.eq_zero_or_pos c with h | h
    · exact h
    · have : c = 1 := by omega
      subst this
      rw [Nat.mul_one] at h4
      omega
  subst this
  omega

set_option maxHeartbeats 4000000 in
set_option maxRecDepth 100000 in
theorem rsub_at {va vb : Value} {n m : Nat} {w : World} (ha : RNum w va n) (hb : RNum w vb m) (hle : m ≤ n) (ln : RLen n ≤ 1000000) : Calls Try.prog 113 #[va, vb] w fun e w' => ∃ v, e = .returned v ∧ RNum w' v (n - m) ∧ Below w.heap.size w w' ∧ ∃ k c, v = .slice (some ⟨w.heap.size, 0, none⟩) k c := by
  obtain ⟨la, ra, ca, rfl⟩ := ha
  obtain ⟨lb, rb, cb, rfl⟩ := hb
  have hla : la.length ≤ 1000000 := by rw [rlen_eq ca rfl]; exact ln
  have hlb : lb.length ≤ la.length := by
    rcases Nat.lt_or_ge la.length lb.length with h | h
    · have := cmpT_len ca cb h; omega
    · exact h
  clear ln
  obtain ⟨oa, capa, rfl, -, -⟩ := id ra
  obtain ⟨ob, capb, rfl, -, -⟩ := id rb
  have RA := Lib.hid ra; have RB := Lib.hid rb; have CA := Lib.hid ca; have CB := Lib.hid cb; have HLE := Lib.hid hle
  clear ra rb ca cb hle
  have HLB := Lib.hid hlb
  obtain ⟨N, hN⟩ : ∃ N, la.length = N := ⟨_, rfl⟩
  obtain ⟨M, hM⟩ : ∃ M, lb.length = M := ⟨_, rfl⟩
  rw [hN] at hla
  rw [hN, hM]
  have HN := Lib.hid hN; have HM := Lib.hid hM; have HLA := Lib.hid hla
  have hmk := fun w => make_ints w (N : Int) (N : Int) (by omega) (by omega) (by omega)
  simp only [Int.toNat_natCast] at hmk
  clear hN hM hlb hla
  go_enter Try.func113, Try.ntmps113
  go_wp2_with fail
  have HR := Lib.hid (Row.new w .i64 3 (List.replicate N 0))
  have HB := Lib.hid ((Below.refl _ w).alloc (Nat.le_refl _) (.cells (ns .i64 (List.replicate N 0)) 3))
  generalize w.alloc (.cells (ns .i64 (List.replicate N 0)) 3) = w1 at *
  clear hmk
  go_loopw [6, 7] (fun v6 v7 wr => ∃ (i c : Nat), i ≤ N ∧ v6 = .int .i64 (c : Nat) ∧ v7 = .int .i64 (i : Nat) ∧ Hid (SubI la lb w wr i c)) (fun _ vi _ => N - (intOf vi).toNat)
  case atStart => exact ⟨0, 0, Nat.zero_le _, rfl, rfl, by omega, [], by have := HR.out; rw [List.nil_append, Nat.sub_zero, HN.out]; exact this, rfl, Digs.nil _, by simp [val], HB.out⟩
  case round =>
    obtain ⟨i, c, hi, rfl, rfl, hinv⟩ := hrel
    have Inv := Lib.hid hinv.out; clear hinv
    by_cases hlt : i < N
    · have hc1 : c ≤ 1 := Inv.out.1
      have hbel : Hid (Below w.heap.size w wr) := by obtain ⟨_, s, _, _, _, _, h5⟩ := Inv.out; exact h5
      have hia : i < la.length := by have := HN.out; omega
      obtain ⟨b1, f1, hoa, -, hx⟩ := RA.out.at' hbel.out i hia
      subst hoa
      have GX : Hid (la[i]? = some la[i]) := List.getElem?_eq_getElem hia
      have hx1 : la[i] < 10000 := CA.out.1.get i hia
      have HIA := Lib.hid hia
      obtain ⟨cc, hcc, hff⟩ : ∃ v0, wr.cell? ⟨w.heap.size, i, none⟩ = some v0 ∧ wr.frozen? ⟨w.heap.size, i, none⟩ = false := by
        obtain ⟨_, s, h1, h2, _, _, _⟩ := Inv.out
        exact ⟨_, h1.cell i (by rw [List.length_append, List.length_replicate]; omega), h1.free i⟩
      have hw : wrap64 ((i : Int) + 1) = ((i + 1 : Nat) : Int) := by unfold wrap64; have := HLA.out; omega
      have HW := Lib.hid hw; clear hw
      generalize la[i] = x at *
      clear hia
      have e1 : wrap64 ((x : Int) - (c : Int)) = (x : Int) - (c : Int) := by unfold wrap64; omega
      by_cases him : i < M
      · have hib : i < lb.length := by have := HM.out; omega
        obtain ⟨b2, f2, hob, -, hy⟩ := RB.out.at' hbel.out i hib
        subst hob
        have GY : Hid (lb[i]?.getD 0 = lb[i]) := by show _ = _; rw [List.getElem?_eq_getElem hib]; rfl
        have hy1 : lb[i] < 10000 := CB.out.1.get i hib
        generalize lb[i] = y at *
        clear hib
        have e2 : wrap64 ((x : Int) - (c : Int) - (y : Int)) = (x : Int) - (c : Int) - (y : Int) := by unfold wrap64; omega
        by_cases hneg : x < y + c
        · have e3 : wrap64 ((x : Int) - (c : Int) - (y : Int) + 10000) = (x : Int) - (c : Int) - (y : Int) + 10000 := by unfold wrap64; omega
          have t1 : decide ((x : Int) - (c : Int) - (y : Int) < 0) = true := decide_eq_true (by omega)
          have ST := Lib.hid (Inv.out.step HIA.out GX.out GY.out (d := x + 10000 - y - c) (c' := 1) (z := (x : Int) - (c : Int) - (y : Int) + 10000) (by omega) (by omega) (by omega) (by omega))
          clear Inv hneg
          go_wp2_with fail
          go_roundw
          case rel => exact ⟨i + 1, 1, hlt, rfl, congrArg (Value.int .i64) HW.out, ST.out⟩
          case measure => rw [HW.out]; simp [intOf]; omega
        · have t1 : decide ((x : Int) - (c : Int) - (y : Int) < 0) = false := decide_eq_false (by omega)
          have ST := Lib.hid (Inv.out.step HIA.out GX.out GY.out (d := x - y - c) (c' := 0) (z := (x : Int) - (c : Int) - (y : Int)) (by omega) (by omega) (by omega) (by omega))
          clear Inv hneg
          go_wp2_with fail
          go_roundw
          case rel => exact ⟨i + 1, 0, hlt, rfl, congrArg (Value.int .i64) HW.out, ST.out⟩
          case measure => rw [HW.out]; simp [intOf]; omega
      · have GY : Hid (lb[i]?.getD 0 = 0) := by show _ = _; rw [List.getElem?_eq_none (by have := HM.out; omega)]; rfl
        by_cases hneg : x < c
        · have e3 : wrap64 ((x : Int) - (c : Int) + 10000) = (x : Int) - (c : Int) + 10000 := by unfold wrap64; omega
          have t1 : decide ((x : Int) - (c : Int) < 0) = true := decide_eq_true (by omega)
          have ST := Lib.hid (Inv.out.step HIA.out GX.out GY.out (d := x + 10000 - c) (c' := 1) (z := (x : Int) - (c : Int) + 10000) (by omega) (by omega) (by omega) (by omega))
          clear Inv hneg
          go_wp2_with fail
          go_roundw
          case rel => exact ⟨i + 1, 1, hlt, rfl, congrArg (Value.int .i64) HW.out, ST.out⟩
          case measure => rw [HW.out]; simp [intOf]; omega
        · have t1 : decide ((x : Int) - (c : Int) < 0) = false := decide_eq_false (by omega)
          have ST := Lib.hid (Inv.out.step HIA.out GX.out GY.out (d := x - c) (c' := 0) (z := (x : Int) - (c : Int)) (by omega) (by omega) (by omega) (by omega))
          clear Inv hneg
          go_wp2_with fail
          go_roundw
          case rel => exact ⟨i + 1, 0, hlt, rfl, congrArg (Value.int .i64) HW.out, ST.out⟩
          case measure => rw [HW.out]; simp [intOf]; omega
    · have hiN : i = la.length := by have := HN.out; omega
      have h9 : SubI la lb w wr la.length c := by have := Inv.out; rwa [hiN] at this
      obtain ⟨s, k1, k2, k3, k4, k5⟩ := h9.out HLB.out HLE.out
      have hrep := Rep.rowAll k1 N (by have := HN.out; omega)
      have hsl : s.length = N := by have := HN.out; omega
      rw [hsl] at hrep
      have HT : Hid (Calls Try.prog 121 #[.slice (some ⟨w.heap.size, 0, none⟩) N N] wr fun e w' => ∃ v, e = .returned v ∧ Rep wr .i64 v (trim s) ∧ w' = wr ∧ ∃ k, v = .slice (some ⟨w.heap.size, 0, none⟩) k N) := by
        have := rtrim_at (oa := some ⟨w.heap.size, 0, none⟩) (l := s) (cap := N) (by have := HLA.out; omega) (w := wr) (by rw [hsl]; exact hrep)
        rw [hsl] at this
        exact this
      have K3 := Lib.hid k3; have K4 := Lib.hid k4; have K5 := Lib.hid k5
      clear Inv h9 k1 k2 k3 k4 k5 hrep hsl hiN
      go_wp2_with fail
      refine HT.out.mono ?_; rintro e' w2 ⟨v', rfl, hv', rfl, hk'⟩
      have HK' := Lib.hid hk'; clear hk'
      have HV' := Lib.hid hv'; clear hv'
      go_wp2_with fail
      go_ret
      exact ⟨_, rfl, ⟨_, HV'.out, canon_trim K3.out, by rw [val_trim, K4.out]⟩, K5.out, by obtain ⟨k, hk⟩ := HK'.out; exact ⟨k, _, hk⟩⟩
theorem rsub_any {va vb : Value} {n m : Nat} {w : World} (ha : RNum w va n) (hb : RNum w vb m) (hle : m ≤ n) (ln : RLen n ≤ 1000000) : Calls Try.prog 113 #[va, vb] w (RRet w (n - m)) :=
  (rsub_at ha hb hle ln).mono fun _ _ ⟨v, h1, h2, h3, _⟩ => ⟨v, h1, h2, h3⟩
end Go.Proofs.Ytlkdahgfnfdakaa
