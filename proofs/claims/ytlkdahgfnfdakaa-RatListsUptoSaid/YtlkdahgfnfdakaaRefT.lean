/- The reference's Make. -/
import Derived.Test.YtlkdahgfnfdakaaRefS
namespace Go.Proofs.Ytlkdahgfnfdakaa
open Go Go.RowKit Go.Shelf WN LM

theorem sgi_mul2 (s t : Bool) (n m : Nat) : sgi s n * sgi t m = sgi (s != t) (n * m) := by
  unfold sgi
  cases s <;> cases t <;> simp [Int.neg_mul, Int.mul_neg]
theorem low_mul {p q : Q3} (hp : Can p) (hq : Can q) : lowQ (p.1 != q.1) (p.2.1 * q.2.1) (p.2.2 * q.2.2) = mulQ p q := by
  obtain ⟨h1, h2⟩ := low_spec (s := p.1 != q.1) (n := p.2.1 * q.2.1) (d := p.2.2 * q.2.2) (Nat.mul_pos hp.1 hq.1)
  obtain ⟨h3, h4⟩ := mulQ_spec hp hq
  refine toR_inj h1 h3 ?_
  rw [h2, h4]
  unfold toR
  rw [Rat.mkRat_mul_mkRat, sgi_mul2]
theorem low_div {p q : Q3} (hp : Can p) (hq : Can q) (h0 : q.2.1 ≠ 0) : lowQ (p.1 != q.1) (p.2.1 * q.2.2) (p.2.2 * q.2.1) = divQ p q := by
  obtain ⟨h5, h6⟩ := invQ_spec hq h0
  have := low_mul hp h5
  exact this
theorem intQ_can (n : Int) : Can (intQ n) := by
  refine ⟨Nat.one_pos, Nat.coprime_one_right _, ?_⟩
  intro h
  have : n < 0 := by simpa [intQ] using h
  show n.natAbs ≠ 0
  omega
theorem rlen_int {n : Int} (h1 : -9223372036854775808 ≤ n) (h2 : n ≤ 9223372036854775807) : RLen n.natAbs ≤ 5 := rlen_word (by omega)

set_option maxHeartbeats 4000000 in
set_option maxRecDepth 100000 in
theorem rmake_any (w : World) (n d : Int) (n1 : -9223372036854775808 ≤ n) (n2 : n ≤ 9223372036854775807) (d1 : -9223372036854775808 ≤ d) (d2 : d ≤ 9223372036854775807) : Calls Try.prog 22 #[.int .i64 n, .int .i64 d] w (OutS w (makT n d)) := by
  by_cases hz : d = 0
  · have HR : Hid (makT n d = (⟨#[]⟩, 12)) := by show _ = _; unfold makT; rw [if_pos hz]
    have hzd : (d == 0) = true := by rw [beq_iff_eq]; exact hz
    clear hz n1 n2 d1 d2
    go_enter Try.func22, Try.ntmps22
    go_wp2_with fail
    go_ret2
    exact ⟨by rw [HR.out]; rfl, Below.refl _ _⟩
  · have HR : Hid (makT n d = out3 (divQ (intQ n) (intQ d))) := by show _ = _; unfold makT; rw [if_neg hz]
    have hzd : (d == 0) = false := by rw [beq_eq_false_iff_ne]; exact hz
    have F1 := Lib.hid (fun w => rof_any w n n1 n2)
    have F2 := Lib.hid (fun w => rof_any w d d1 d2)
    have hd0 : d.natAbs ≠ 0 := by omega
    have l1 := rlen_int n1 n2
    have l2 := rlen_int d1 d2
    have OV : Hid (∀ W v u, RFrac W v (decide (n < 0)) n.natAbs 1 → RFrac W u (decide (d < 0)) d.natAbs 1 → Calls Try.prog 67 #[v, u] W (RRetQ W (divQ (intQ n) (intQ d)))) := fun W v u h k => by
      have := rover_any h k (by omega) (by rw [rlen_one]; omega) (by omega) (by rw [rlen_one]; omega) (by omega) (by omega)
      rw [← low_div (intQ_can n) (intQ_can d) hd0]
      exact this
    have OT : Hid (∀ W v, RFrac W v (divQ (intQ n) (intQ d)).1 (divQ (intQ n) (intQ d)).2.1 (divQ (intQ n) (intQ d)).2.2 → Calls Try.prog 68 #[v] W (OutS W (out3 (divQ (intQ n) (intQ d))))) := fun W v h => by
      have e : divQ (intQ n) (intQ d) = lowQ ((intQ n).1 != (intQ d).1) ((intQ n).2.1 * (intQ d).2.2) ((intQ n).2.2 * (intQ d).2.1) := (low_div (intQ_can n) (intQ_can d) hd0).symm
      have h3 : (divQ (intQ n) (intQ d)).2.1 ≤ n.natAbs := by
        rw [e]
        show n.natAbs * 1 / _ ≤ _
        rw [Nat.mul_one]; exact Nat.div_le_self _ _
      have h4 : (divQ (intQ n) (intQ d)).2.2 ≤ d.natAbs := by
        rw [e]
        show 1 * d.natAbs / _ ≤ _
        rw [Nat.one_mul]; exact Nat.div_le_self _ _
      exact rout_any h (Nat.le_trans (rlen_mono h3) (by omega)) (Nat.le_trans (rlen_mono h4) (by omega))
    clear hz n1 n2 d1 d2 hd0 l1 l2
    generalize divQ (intQ n) (intQ d) = q at *
    rw [HR.out]
    generalize out3 q = x at *
    clear HR
    go_enter Try.func22, Try.ntmps22
    go_wp2_with fail
    refine (F1.out _).mono ?_; rintro e w1 ⟨v1, rfl, hv1, hb1⟩
    have HV1 := Lib.hid hv1; have HB1 := Lib.hid hb1; clear hv1 hb1
    go_wp2_with fail
    refine (F2.out _).mono ?_; rintro e w2 ⟨v2, rfl, hv2, hb2⟩
    have HV2 := Lib.hid hv2; have HV12 := Lib.hid (HV1.out.go hb2); have HB2 := Lib.hid (bstep HB1.out hb2); clear hv2 hb2
    go_wp2_with fail
    refine (OV.out _ _ _ HV12.out HV2.out).mono ?_; rintro e w3 ⟨v3, rfl, hv3, hb3⟩
    have HV3 := Lib.hid hv3; have HB3 := Lib.hid (bstep HB2.out hb3); clear hv3 hb3
    go_wp2_with fail
    refine (OT.out _ _ HV3.out).mono ?_; rintro e w4 ⟨rfl, hb4⟩
    have HB4 := Lib.hid (bstep HB3.out hb4); clear hb4
    go_wp2_with fail
    go_ret2
    exact ⟨rfl, HB4.out⟩
end Go.Proofs.Ytlkdahgfnfdakaa
