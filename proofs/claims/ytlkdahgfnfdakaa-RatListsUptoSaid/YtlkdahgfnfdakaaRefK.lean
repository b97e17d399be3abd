/- The reference's gcdNat. -/
import Derived.Test.YtlkdahgfnfdakaaRefJ
namespace Go.Proofs.Ytlkdahgfnfdakaa
open Go Go.RowKit Go.Shelf WN LM

theorem RNum.unique {w : World} {v : Value} {n m : Nat} (h : RNum w v n) (k : RNum w v m) : n = m := by
  obtain ⟨l, ⟨oa, ca, rfl, hc, hcell⟩, hl, rfl⟩ := h
  obtain ⟨l', ⟨oa', ca', he, hc', hcell'⟩, hl', rfl⟩ := k
  have e : l = l' := by
    injection he with e1 e2 e3
    subst e1
    refine List.ext_getElem e2 fun i h1 h2 => ?_
    obtain ⟨b, off, e4, c1⟩ := hcell i h1
    obtain ⟨b', off', e5, c2⟩ := hcell' i h2
    rw [e4] at e5
    cases e5
    rw [c1] at c2
    injection c2 with c2
    injection c2 with _ c3
    exact Int.ofNat.inj c3
  rw [e]
noncomputable def rnumOf (w : World) (v : Value) : Nat := Classical.epsilon (fun y => RNum w v y)
theorem RNum.of {w : World} {v : Value} {n : Nat} (h : RNum w v n) : rnumOf w v = n := (Classical.epsilon_spec (p := fun y => RNum w v y) ⟨n, h⟩).unique h

set_option maxHeartbeats 2000000 in
set_option maxRecDepth 100000 in
theorem rgcd_any {va vb : Value} {n m : Nat} {w : World} (ha : RNum w va n) (hb : RNum w vb m) (ln : RLen n ≤ 100000) (lm : RLen m ≤ 100000) : Calls Try.prog 93 #[va, vb] w (RRet w (Nat.gcd n m)) := by
  have DIV : Hid (∀ W v u x y, RNum W v x → RNum W u y → 0 < y → RLen x ≤ 100000 → RLen y ≤ 100000 → Calls Try.prog 117 #[v, u] W (RRet2 W (x / y) (x % y))) := fun W v u x y h1 h2 h3 h4 h5 => rdiv_any h1 h2 h3 h4 h5
  have HA := Lib.hid ha; have HB := Lib.hid hb; have LN := Lib.hid ln; have LM := Lib.hid lm
  obtain ⟨oa, capa, rfl⟩ := ha.shape
  obtain ⟨ob, capb, rfl⟩ := hb.shape
  clear ha hb ln lm
  go_enter Try.func93, Try.ntmps93
  go_wp2_with fail
  go_loopw [0, 1] (fun v0 v1 wr => ∃ x y : Nat, Hid (RNum wr v0 x) ∧ Hid (RNum wr v1 y) ∧ Hid (Nat.gcd x y = Nat.gcd n m) ∧ Hid (RLen x ≤ 100000) ∧ Hid (RLen y ≤ 100000) ∧ Hid (Below w.heap.size w wr)) (fun _ v1 wr => rnumOf wr v1)
  case atStart => exact ⟨n, m, HA.out, HB.out, rfl, LN.out, LM.out, Below.refl _ _⟩
  case round =>
    obtain ⟨x, y, hx, hy, hg, lx, ly, hb⟩ := hrel
    rename World => wk
    obtain ⟨o1, c1, rfl⟩ := hy.out.shape
    rcases Nat.eq_zero_or_pos y with h0 | h0
    · subst h0
      rw [rlen_zero]
      have HG : Hid (x = Nat.gcd n m) := by have := hg.out; rw [Nat.gcd_zero_right] at this; exact this
      clear hg hy ly
      go_wp2_with fail
      go_ret
      exact ⟨_, rfl, by have := hx.out; rwa [HG.out] at this, hb.out⟩
    · have hlp := rlen_pos h0
      have H0 := Lib.hid h0
      obtain ⟨R, hR⟩ : ∃ R, RLen y = R := ⟨_, rfl⟩
      have HR := Lib.hid hR
      rw [hR] at hlp ⊢
      have HY : Hid (RNum wk (.slice o1 R c1) y) := by have := hy.out; rwa [hR] at this
      clear hR h0 hy
      go_wp2_with fail
      refine (DIV.out wk _ _ x y hx.out HY.out H0.out lx.out ly.out).mono ?_; rintro e w2 ⟨v1, v2, rfl, hv1, hv2, hb2⟩
      have HV2 := Lib.hid hv2; have HB2 := Lib.hid hb2
      clear hv1 hv2 hb2
      go_wp2_with fail
      go_roundw
      case rel => exact ⟨y, x % y, HY.out.go HB2.out, HV2.out, by have := hg.out; show _ = _; rw [← this, Nat.gcd_comm x y, Nat.gcd_rec y x, Nat.gcd_comm], ly.out, Nat.le_trans (rlen_mono (Nat.le_of_lt (Nat.mod_lt _ H0.out))) ly.out, bstep hb.out HB2.out⟩
      case measure => rw [HV2.out.of, HY.out.of]; exact Nat.mod_lt _ H0.out
end Go.Proofs.Ytlkdahgfnfdakaa
