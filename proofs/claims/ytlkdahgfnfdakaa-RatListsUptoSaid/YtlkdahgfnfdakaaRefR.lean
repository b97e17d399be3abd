/- The reference's lowest, Of, Fits, Out. -/
import Derived.Test.YtlkdahgfnfdakaaRefQ
import Derived.Test.YtlkdahgfnfdakaaIsV
namespace Go.Proofs.Ytlkdahgfnfdakaa
open Go Go.RowKit Go.Shelf WN LM

def RRetQ (w : World) (q : Q3) (e : Ending) (w' : World) : Prop := ∃ v, e = .returned v ∧ RFrac w' v q.1 q.2.1 q.2.2 ∧ Below w.heap.size w w'
def lowQ (s : Bool) (n d : Nat) : Q3 := (s && decide (n ≠ 0), n / Nat.gcd n d, d / Nat.gcd n d)
theorem low_spec {s : Bool} {n d : Nat} (h : 0 < d) : Can (lowQ s n d) ∧ toR (lowQ s n d) = mkRat (sgi s n) d := by
  have hg : 0 < Nat.gcd n d := Nat.gcd_pos_of_pos_right _ h
  have hn := Nat.div_mul_cancel (Nat.gcd_dvd_left n d)
  have hd := Nat.div_mul_cancel (Nat.gcd_dvd_right n d)
  have hd0 : 0 < d / Nat.gcd n d := Nat.div_pos (Nat.le_of_dvd h (Nat.gcd_dvd_right n d)) hg
  refine ⟨⟨hd0, Nat.coprime_div_gcd_div_gcd hg, ?_⟩, ?_⟩
  · intro hs
    show n / Nat.gcd n d ≠ 0
    have hn0 : n ≠ 0 := by
      have : (s && decide (n ≠ 0)) = true := hs
      simp at this; exact this.2
    intro h0
    rw [h0, Nat.zero_mul] at hn
    exact hn0 hn.symm
  · show mkRat (sgi (s && decide (n ≠ 0)) (n / Nat.gcd n d)) (d / Nat.gcd n d) = _
    have e : sgi (s && decide (n ≠ 0)) (n / Nat.gcd n d) = sgi s (n / Nat.gcd n d) := by
      by_cases h0 : n = 0
      · subst h0; simp [sgi]
      · simp [h0]
    rw [e]
    have e2 : sgi s n = sgi s (n / Nat.gcd n d) * (Nat.gcd n d : Nat) := by rw [← sgi_mul, hn]
    have h9 := Rat.mkRat_mul_right (n := sgi s (n / Nat.gcd n d)) (d := d / Nat.gcd n d) (a := Nat.gcd n d) (by omega)
    rw [hd, ← e2] at h9
    exact h9.symm

set_option maxHeartbeats 2000000 in
set_option maxRecDepth 100000 in
theorem lowest_any {w : World} {va vb : Value} {n d : Nat} (s : Bool) (ha : RNum w va n) (hb : RNum w vb d) (h0 : 0 < d) (ln : RLen n ≤ 100000) (ld : RLen d ≤ 100000) : Calls Try.prog 92 #[.bool s, va, vb] w (RRetQ w (lowQ s n d)) := by
  have N1 : Hid (∀ W, Calls Try.prog 58 #[.int .u64 1] W (RRet W 1)) := fun W => natOf_any 1 (by omega) W
  have GC : Hid (∀ W, Below w.heap.size w W → Calls Try.prog 93 #[va, vb] W (RRet W (Nat.gcd n d))) := fun W h => rgcd_any (ha.go h) (hb.go h) ln ld
  have hg0 : 0 < Nat.gcd n d := Nat.gcd_pos_of_pos_right _ h0
  have lg : RLen (Nat.gcd n d) ≤ 100000 := Nat.le_trans (rlen_mono (Nat.gcd_le_right _ h0)) ld
  have DN : Hid (∀ W u, Below w.heap.size w W → RNum W u (Nat.gcd n d) → Calls Try.prog 117 #[va, u] W (RRet2 W (n / Nat.gcd n d) (n % Nat.gcd n d))) := fun W u h1 h2 => rdiv_any (ha.go h1) h2 hg0 ln lg
  have DD : Hid (∀ W u, Below w.heap.size w W → RNum W u (Nat.gcd n d) → Calls Try.prog 117 #[vb, u] W (RRet2 W (d / Nat.gcd n d) (d % Nat.gcd n d))) := fun W u h1 h2 => rdiv_any (hb.go h1) h2 hg0 ld lg
  have bx := BoxQ.new w (.bool false) (.slice none 0 0) (.slice none 0 0)
  have b1 := below_alloc w (.cells #[.bool false, .slice none 0 0, .slice none 0 0] 60)
  have BX := Lib.hid bx; have HB1 := Lib.hid b1
  obtain ⟨oa, ca, rfl⟩ := ha.shape
  obtain ⟨ob, cb, rfl⟩ := hb.shape
  clear bx b1 ha hb lg hg0 ln ld
  by_cases hn : n = 0
  · subst hn
    have HQ : Hid (lowQ s 0 d = (false, 0, 1)) := by
      show _ = _
      unfold lowQ
      rw [Nat.gcd_zero_left, Nat.zero_div, Nat.div_self h0]; simp
    rw [rlen_zero]
    rw [rlen_zero] at GC DN
    clear h0
    go_enter Try.func92, Try.ntmps92
    go_wp2_with fail
    generalize w.alloc (.cells #[.bool false, .slice none 0 0, .slice none 0 0] 60) = w1 at *
    refine (N1.out _).mono ?_; rintro e w2 ⟨v2, rfl, hv2, hb2⟩
    have BX2 := Lib.hid (BX.out.go hb2); have HB2 := Lib.hid (bstep HB1.out hb2); have HV2 := Lib.hid hv2
    clear hb2 hv2
    obtain ⟨o2, c2, rfl⟩ := HV2.out.shape
    obtain ⟨x0, x1, x2, f0, f1, f2⟩ := BX2.out.facts
    go_wp2_with fail
    obtain ⟨e0, e1, e2, hn9, hd9, hb9⟩ := boxq_ret (t := false) BX2.out (RNum.nil w2) HV2.out HB2.out (Nat.le_refl _)
    refine bodyPost_ret (v := .agg #[.bool false, .slice none 0 0, .slice o2 (RLen 1) c2]) ?_ rfl ⟨_, rfl, by rw [HQ.out]; exact ⟨_, _, _, _, _, _, rfl, hn9, hd9⟩, hb9⟩
    simp [results, Try.f92, go_sem, e0, e1, e2]
  · have hl0 : ¬ RLen n = 0 := fun h => hn (rlen_eq_zero.1 h)
    have HQ : Hid (lowQ s n d = (s, n / Nat.gcd n d, d / Nat.gcd n d)) := by
      show _ = _
      unfold lowQ; simp [hn]
    obtain ⟨R, hR⟩ : ∃ R, RLen n = R := ⟨_, rfl⟩
    rw [hR] at hl0 GC DN ⊢
    have tl : ((R : Int) == 0) = false := by rw [beq_eq_false_iff_ne]; omega
    clear hR hl0 h0 hn
    go_enter Try.func92, Try.ntmps92
    go_wp2_with fail
    generalize w.alloc (.cells #[.bool false, .slice none 0 0, .slice none 0 0] 60) = w1 at *
    refine (GC.out _ HB1.out).mono ?_; rintro e w2 ⟨v2, rfl, hv2, hb2⟩
    have BX2 := Lib.hid (BX.out.go hb2); have HB2 := Lib.hid (bstep HB1.out hb2); have HV2 := Lib.hid hv2
    clear hb2 hv2
    go_wp2_with fail
    refine (DN.out _ _ HB2.out HV2.out).mono ?_; rintro e w3 ⟨v3, v4, rfl, hv3, -, hb3⟩
    have BX3 := Lib.hid (BX2.out.go hb3); have HB3 := Lib.hid (bstep HB2.out hb3); have HV3 := Lib.hid hv3; have HG3 := Lib.hid (HV2.out.go hb3)
    clear hb3 hv3
    go_wp2_with fail
    refine (DD.out _ _ HB3.out HG3.out).mono ?_; rintro e w4 ⟨v5, v6, rfl, hv5, -, hb4⟩
    have BX4 := Lib.hid (BX3.out.go hb4); have HB4 := Lib.hid (bstep HB3.out hb4); have HV4 := Lib.hid (HV3.out.go hb4); have HV5 := Lib.hid hv5
    clear hb4 hv5
    obtain ⟨o2, c2, rfl⟩ := HV4.out.shape
    obtain ⟨o3, c3, rfl⟩ := HV5.out.shape
    obtain ⟨x0, x1, x2, f0, f1, f2⟩ := BX4.out.facts
    go_wp2_with fail
    obtain ⟨e0, e1, e2, hn9, hd9, hb9⟩ := boxq_ret (t := s) BX4.out HV4.out HV5.out HB4.out (Nat.le_refl _)
    refine bodyPost_ret (v := .agg #[.bool s, .slice o2 (RLen (n / Nat.gcd n d)) c2, .slice o3 (RLen (d / Nat.gcd n d)) c3]) ?_ rfl ⟨_, rfl, by rw [HQ.out]; exact ⟨_, _, _, _, _, _, rfl, hn9, hd9⟩, hb9⟩
    simp [results, Try.f92, go_sem, e0, e1, e2]

set_option maxHeartbeats 2000000 in
set_option maxRecDepth 100000 in
theorem rfits_any {w : World} {v : Value} {s : Bool} {n d : Nat} (h : RFrac w v s n d) (ln : RLen n ≤ 100000) (ld : RLen d ≤ 100000) : Calls Try.prog 109 #[v] w fun e w' => e = .returned (.bool (fitQ n d)) ∧ Below w.heap.size w w' := by
  obtain ⟨o1, k1, c1, o2, k2, c2, rfl, h1, h2⟩ := h
  have bx := BoxQ.new w (.bool s) (.slice o1 k1 c1) (.slice o2 k2 c2)
  have b1 := below_alloc w (.cells #[.bool s, .slice o1 k1 c1, .slice o2 k2 c2] 60)
  have SN := Lib.hid (rsize_any (h1.go b1) ln); have SD := Lib.hid (rsize_any (h2.go b1) ld)
  have BX := Lib.hid bx; have HB1 := Lib.hid b1
  obtain ⟨A, hA⟩ : ∃ A, Dig n = A := ⟨_, rfl⟩
  obtain ⟨B, hB⟩ : ∃ B, Dig d = B := ⟨_, rfl⟩
  have HF : Hid (fitQ n d = decide (A ≤ 300 ∧ B ≤ 300)) := by show _ = _; unfold fitQ; rw [hA, hB]
  rw [hA] at SN
  rw [hB] at SD
  obtain ⟨x0, x1, x2, f0, f1, f2⟩ := bx.facts
  clear h1 h2 ln ld bx b1 hA hB
  go_enter Try.func109, Try.ntmps109
  go_wp2_with fail
  generalize w.alloc (.cells #[.bool s, .slice o1 k1 c1, .slice o2 k2 c2] 60) = w1 at *
  refine SN.out.mono ?_; rintro e w2 ⟨rfl, rfl⟩
  by_cases hA : A ≤ 300
  · have tA : decide ((A : Int) ≤ 300) = true := decide_eq_true (by omega)
    have HA := Lib.hid hA; clear hA
    go_wp2_with fail
    refine SD.out.mono ?_; rintro e w3 ⟨rfl, rfl⟩
    by_cases hB : B ≤ 300
    · have tB : decide ((B : Int) ≤ 300) = true := decide_eq_true (by omega)
      have HBB := Lib.hid hB; clear hB
      go_wp2_with fail
      go_ret
      exact ⟨by rw [HF.out, decide_eq_true ⟨HA.out, HBB.out⟩]; rfl, HB1.out⟩
    · have tB : decide ((B : Int) ≤ 300) = false := decide_eq_false (by omega)
      have HBB := Lib.hid hB; clear hB
      go_wp2_with fail
      go_ret
      exact ⟨by rw [HF.out, decide_eq_false (fun h => HBB.out h.2)]; rfl, HB1.out⟩
  · have tA : decide ((A : Int) ≤ 300) = false := decide_eq_false (by omega)
    have HA := Lib.hid hA; clear hA
    go_wp2_with fail
    go_ret
    exact ⟨by rw [HF.out, decide_eq_false (fun h => HA.out h.1)]; rfl, HB1.out⟩

set_option maxHeartbeats 2000000 in
set_option maxRecDepth 100000 in
theorem rout_any {w : World} {v : Value} {q : Q3} (h : RFrac w v q.1 q.2.1 q.2.2) (ln : RLen q.2.1 ≤ 100000) (ld : RLen q.2.2 ≤ 100000) : Calls Try.prog 68 #[v] w (OutS w (out3 q)) := by
  obtain ⟨s, n, d⟩ := q
  have hall : Hid (∀ W, Below w.heap.size w W → RFrac W v s n d) := fun W hb => h.go hb
  have FT : Hid (∀ W, Below w.heap.size w W → Calls Try.prog 109 #[v] W fun e w' => e = .returned (.bool (fitQ n d)) ∧ Below W.heap.size W w') := fun W hb => rfits_any (h.go hb) ln ld
  have WR : Hid (∀ W, Below w.heap.size w W → fitQ n d = true → Calls Try.prog 59 #[v] W fun e w' => e = .returned (.string ⟨(ratText s n d).toArray⟩) ∧ Below W.heap.size W w') := fun W hb hf => by
    have hf2 : Dig n ≤ 300 ∧ Dig d ≤ 300 := by unfold fitQ at hf; simpa using hf
    have l1 : RLen n ≤ 1000 := by
      have := (dig_len4 n).2
      rcases Nat.eq_zero_or_pos n with h0 | h0
      · rw [h0, rlen_zero]; omega
      · have := this h0; omega
    have l2 : RLen d ≤ 1000 := by
      have := (dig_len4 d).2
      rcases Nat.eq_zero_or_pos d with h0 | h0
      · rw [h0, rlen_zero]; omega
      · have := this h0; omega
    exact rwrite_any (h.go hb) l1 l2
  obtain ⟨o1, k1, c1, o2, k2, c2, rfl, h1, h2⟩ := h
  have bx := BoxQ.new w (.bool s) (.slice o1 k1 c1) (.slice o2 k2 c2)
  have b1 := below_alloc w (.cells #[.bool s, .slice o1 k1 c1, .slice o2 k2 c2] 60)
  have BX := Lib.hid bx; have HB1 := Lib.hid b1
  obtain ⟨x0, x1, x2, f0, f1, f2⟩ := bx.facts
  clear h1 h2 ln ld bx b1
  go_enter Try.func68, Try.ntmps68
  go_wp2_with fail
  generalize w.alloc (.cells #[.bool s, .slice o1 k1 c1, .slice o2 k2 c2] 60) = w1 at *
  refine (FT.out _ HB1.out).mono ?_; rintro e w2 ⟨rfl, hb2⟩
  have BX2 := Lib.hid (BX.out.go hb2); have HB2 := Lib.hid (bstep HB1.out hb2)
  clear hb2 x0 x1 x2 f0 f1 f2
  obtain ⟨x0, x1, x2, f0, f1, f2⟩ := BX2.out.facts
  cases hf : fitQ n d
  · have HO : Hid (out3 (s, n, d) = (⟨#[]⟩, 2)) := outQ_long hf
    clear hf
    go_wp2_with fail
    go_ret2
    exact ⟨by rw [HO.out]; rfl, HB2.out⟩
  · have HO : Hid (out3 (s, n, d) = (⟨(ratText s n d).toArray⟩, 0)) := outQ_fit hf
    have WR2 := Lib.hid (WR.out _ HB2.out hf)
    clear hf
    obtain ⟨t, ht⟩ : ∃ t, t = (⟨(ratText s n d).toArray⟩ : ByteArray) := ⟨_, rfl⟩
    rw [← ht] at WR2 HO
    clear ht
    go_wp2_with fail
    refine WR2.out.mono ?_; rintro e w3 ⟨rfl, hb3⟩
    have HB3 := Lib.hid (bstep HB2.out hb3)
    clear hb3
    go_wp2_with fail
    go_ret2
    exact ⟨by rw [HO.out]; rfl, HB3.out⟩
end Go.Proofs.Ytlkdahgfnfdakaa
