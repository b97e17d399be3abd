/- The reference's Decimal: the walk. -/
import Derived.Test.YtegobakoflbnfaaGreatDoorRdm
import Derived.Test.YtegobakoflbnfaaGreatDoorGk
namespace Go.Proofs.YtegobakoflbnfaaGreatDoor.QA
open Go Go.RowKit

theorem QB.put2 {w W : World} {B : Nat} {q r : Q3} {o1 o2 : Option Addr} {k1 c1 k2 c2 : Nat} (h : QB W B q) (hn : RNum W (.slice o1 k1 c1) r.2.1) (hd : RNum W (.slice o2 k2 c2) r.2.2) (hb : Below w.heap.size w W) (hp : w.heap.size ≤ B) :
    BoxQ (((W.setCell ⟨B, 0, none⟩ (.bool r.1)).setCell ⟨B, 1, none⟩ (.slice o1 k1 c1)).setCell ⟨B, 2, none⟩ (.slice o2 k2 c2)) B (.bool r.1) (.slice o1 k1 c1) (.slice o2 k2 c2) ∧
    RNum (((W.setCell ⟨B, 0, none⟩ (.bool r.1)).setCell ⟨B, 1, none⟩ (.slice o1 k1 c1)).setCell ⟨B, 2, none⟩ (.slice o2 k2 c2)) (.slice o1 k1 c1) r.2.1 ∧
    RNum (((W.setCell ⟨B, 0, none⟩ (.bool r.1)).setCell ⟨B, 1, none⟩ (.slice o1 k1 c1)).setCell ⟨B, 2, none⟩ (.slice o2 k2 c2)) (.slice o2 k2 c2) r.2.2 ∧
    Below w.heap.size w (((W.setCell ⟨B, 0, none⟩ (.bool r.1)).setCell ⟨B, 1, none⟩ (.slice o1 k1 c1)).setCell ⟨B, 2, none⟩ (.slice o2 k2 c2)) := by
  obtain ⟨_, _, _, _, _, _, bx, -, -⟩ := h
  exact ⟨bx.set _ _ _, hn.set3 bx _ _ _, hd.set3 bx _ _ _, three_below _ _ _ hb hp⟩
theorem meas_one' {k : Nat} (h : k < 15) (hw : wrap64 ((k : Int) + 1) = ((k + 1 : Nat) : Int)) : 15 - (intOf (.int .i64 (wrap64 ((k : Int) + 1)))).toNat < 15 - (intOf (.int .i64 (k : Int))).toNat := by
  rw [hw]; clear hw; simp only [intOf]; omega
/-- how Decimal ends -/
def decEnd : Option (List UInt8) → Ending
  | some o => .returned (.tuple #[.string ⟨o.toArray⟩, .bool true])
  | none => .returned (.tuple #[.string ⟨#[]⟩, .bool false])
theorem text_back {O : ByteArray} {l : List UInt8} (h : O.data.toList = l) : (⟨l.toArray⟩ : ByteArray) = O := by
  subst h
  exact ByteArray.ext (by simp)
set_option maxHeartbeats 16000000 in
set_option maxRecDepth 100000 in
theorem refdec_any (w : World) (s : ByteArray) (hs : s.size ≤ 140737488355328) : Calls Tryz.prog 41 #[.string s] w fun e w' => Below w.heap.size w w' ∧ e = decEnd (refDec s.data.toList) := by
  have RD := Lib.hid (rread_any s w hs)
  obtain ⟨X, hX⟩ : ∃ X, X = refDec s.data.toList := ⟨_, rfl⟩
  rw [← hX]
  cases hq : readQ s.data.toList with
  | none =>
    rw [hq] at RD
    rw [dec_no hq] at hX
    subst hX
    go_enter Tryz.func41, Tryz.ntmps41
    go_wp2_with fail
    refine RD.out.mono ?_; rintro e w2 ⟨v, hb, rfl, rfl⟩
    have HB := Lib.hid (bstep hb (below_alloc w2 (.cells #[.bool false, .slice none 0 0, .slice none 0 0] 76))); clear hb
    go_wp2_with fail
    refine bodyPost_ret (v := .tuple #[.string ⟨#[]⟩, .bool false]) (by simp [results, Tryz.f41, go_sem]) rfl ⟨HB.out, rfl⟩
  | some q =>
    obtain ⟨sg, n, d⟩ := q
    rw [hq] at RD
    obtain ⟨hn100, hd100⟩ := read_small hq
    obtain ⟨-, -, hd0, -, hsg, -⟩ := readQ_spec hq
    simp only [] at hn100 hd100
    have SG : Hid (∀ W v, RFrac W v sg n d → Calls Tryz.prog 63 #[v] W fun e w' => e = .returned (.int .i64 (sgn sg n)) ∧ Below W.heap.size W w') := fun W v h => rsign_any h hsg
    cases sg
    · have s0 : decide (sgn false n < 0) = false := by unfold sgn; rw [if_neg (by decide)]; split <;> decide
      obtain ⟨sv, hsv⟩ : ∃ sv, sv = sgn false n := ⟨_, rfl⟩
      rw [← hsv] at s0 SG
      have FL : Hid (∀ W v, RFrac W v false n d → Calls Tryz.prog 64 #[v] W (RRetQ W (false, n / d, 1))) := fun W v h => by
        have := rdown_any h (by omega) (by omega) hd0
        rwa [floor_false] at this
      have hm100 : RLen (n / d) ≤ 100 := Nat.le_trans (rlen_mono (Nat.div_le_self _ _)) hn100
      have MI : Hid (∀ W v u, RFrac W v false n d → RFrac W u false (n / d) 1 → Calls Tryz.prog 65 #[v, u] W (RRetQ W (false, n % d / Nat.gcd (n % d) d, d / Nat.gcd (n % d) d))) := fun W v u h k => by
        have := rminus_any h k (by omega) (by omega) (by omega) (by rw [rlen_one]; omega) hd0 (by omega)
        rwa [sub_floor hd0] at this
      have HQ := Lib.hid hq; have HX := Lib.hid hX; have HD0 := Lib.hid hd0; have HD100 := Lib.hid hd100
      have hsz : (⟨(Lib.decDigits (n / d)).toArray⟩ : ByteArray).size = (Lib.decDigits (n / d)).length := by show (Lib.decDigits (n / d)).toArray.size = _; rw [List.size_toArray]
      have WR1 : Hid (∀ W v, RFrac W v false (n / d) 1 → Calls Tryz.prog 53 #[v] W fun e w' => e = .returned (.string ⟨(Lib.decDigits (n / d)).toArray⟩) ∧ Below W.heap.size W w') := fun W v h => by
        have := rwrite_any h (by omega) (by rw [rlen_one]; omega)
        rwa [one_text] at this
      obtain ⟨O, hO⟩ : ∃ O : ByteArray, O = ⟨(Lib.decDigits (n / d)).toArray⟩ := ⟨_, rfl⟩
      have HO : Hid (O.data.toList = Lib.decDigits (n / d)) := by show _ = _; rw [hO]
      rw [← hO] at hsz WR1
      obtain ⟨A0, hA0⟩ : ∃ A0, A0 = n % d / Nat.gcd (n % d) d := ⟨_, rfl⟩
      obtain ⟨B0, hB0⟩ : ∃ B0, B0 = d / Nat.gcd (n % d) d := ⟨_, rfl⟩
      rw [← hA0, ← hB0] at MI
      have HLW0 : Hid (Lw d (rk n d 0) A0 B0) := by
        show Lw _ _ _ _
        rw [rk_zero, hA0, hB0]
        exact Lw.of hd0 (g := 1) (by omega) (Nat.mul_one _) (Nat.mul_one _)
      clear hq hX hd0 hd100 hn100 hm100 hsg hO hA0 hB0 hsv
      go_enter Tryz.func41, Tryz.ntmps41
      go_wp2_with fail
      refine RD.out.mono ?_; rintro e w2 ⟨v, hb, rfl, hv⟩
      obtain ⟨o1, k1, c1, o2, k2, c2, rfl, h1, h2⟩ := hv
      have b1 := below_alloc w2 (.cells #[.bool false, .slice o1 k1 c1, .slice o2 k2 c2] 76)
      have BX := Lib.hid (BoxQ.new w2 (.bool false) (.slice o1 k1 c1) (.slice o2 k2 c2))
      have HB := Lib.hid (bstep hb b1)
      have HRF : Hid (RFrac (w2.alloc (.cells #[.bool false, .slice o1 k1 c1, .slice o2 k2 c2] 76)) (.agg #[.bool false, .slice o1 k1 c1, .slice o2 k2 c2]) false n d) := ⟨_, _, _, _, _, _, rfl, h1.go b1, h2.go b1⟩
      clear hb h1 h2 b1 RD
      go_wp2_with fail
      refine (SG.out _ _ HRF.out).mono ?_; rintro e w4 ⟨rfl, hb4⟩
      generalize w2.alloc (.cells #[.bool false, .slice o1 k1 c1, .slice o2 k2 c2] 76) = w3 at *
      generalize w2.heap.size = B4 at *
      have HB4 := Lib.hid (bstep HB.out hb4); have BX4 := Lib.hid (BX.out.go hb4); have HRF4 := Lib.hid (HRF.out.go hb4)
      clear hb4 HB BX HRF SG
      obtain ⟨x0, x1, x2, f0, f1, f2⟩ := BX4.out.facts
      go_wp2_with fail
      refine (FL.out _ _ HRF4.out).mono ?_; rintro e w5 ⟨v5, rfl, hv5, hb5⟩
      obtain ⟨o3, k3, c3, o4, k4, c4, rfl, h3, h4⟩ := hv5
      have b6 := below_alloc w5 (.cells #[.bool false, .slice o3 k3 c3, .slice o4 k4 c4] 76)
      have BX6 := Lib.hid (BoxQ.new w5 (.bool false) (.slice o3 k3 c3) (.slice o4 k4 c4))
      have HRG6 : Hid (RFrac (w5.alloc (.cells #[.bool false, .slice o3 k3 c3, .slice o4 k4 c4] 76)) (.agg #[.bool false, .slice o3 k3 c3, .slice o4 k4 c4]) false (n / d) 1) := ⟨_, _, _, _, _, _, rfl, h3.go b6, h4.go b6⟩
      have HRF6 := Lib.hid ((HRF4.out.go hb5).go b6); have BX5 := Lib.hid ((BX4.out.go hb5).go b6); have HB6 := Lib.hid (bstep (bstep HB4.out hb5) b6)
      clear hb5 b6 h3 h4 x0 x1 x2 f0 f1 f2 BX4 HRF4 HB4 FL s0
      obtain ⟨x0, x1, x2, f0, f1, f2⟩ := BX5.out.facts
      go_wp2_with fail
      clear x0 x1 x2 f0 f1 f2
      refine (MI.out _ _ _ HRF6.out HRG6.out).mono ?_; rintro e w7 ⟨v7, rfl, hv7, hb7⟩
      generalize w5.alloc (.cells #[.bool false, .slice o3 k3 c3, .slice o4 k4 c4] 76) = w6 at *
      generalize w5.heap.size = B6 at *
      obtain ⟨o5, k5, c5, o6, k6, c6, rfl, h5, h6⟩ := hv7
      obtain ⟨Q8, b8⟩ := QB.new (q := (false, A0, B0)) h5 h6
      have HQ8 := Lib.hid Q8; have HRG8 := Lib.hid ((HRG6.out.go hb7).go b8); have BX8 := Lib.hid ((BX6.out.go hb7).go b8); have HB8 := Lib.hid (bstep (bstep HB6.out hb7) b8)
      have HLE : Hid (w.heap.size ≤ w7.heap.size) := (bstep HB6.out hb7).size
      clear hb7 h5 h6 Q8 b8 HRG6 BX6 HB6 HRF6 BX5 MI
      obtain ⟨x0, x1, x2, f0, f1, f2⟩ := BX8.out.facts
      go_wp2_with fail
      clear x0 x1 x2 f0 f1 f2
      refine (WR1.out _ _ HRG8.out).mono ?_; rintro e w9 ⟨rfl, hb9⟩
      have HQ9 := Lib.hid (HQ8.out.go hb9); have HRG9 := Lib.hid (HRG8.out.go hb9); have BX9 := Lib.hid (BX8.out.go hb9); have HB9 := Lib.hid (bstep HB8.out hb9)
      clear hb9 HQ8 HRG8 BX8 HB8
      generalize w7.alloc (.cells #[.bool (false, A0, B0).1, .slice o5 k5 c5, .slice o6 k6 c6] 76) = w8 at *
      generalize w7.heap.size = B7 at *
      by_cases h15 : 15 < (Lib.decDigits (n / d)).length
      · have t1 : decide (15 < (O.size : Int)) = true := decide_eq_true (by omega)
        have HR : Hid (X = none) := by show _ = _; rw [HX.out]; exact dec_long HQ.out h15
        clear h15 hsz
        go_wp2_with fail
        refine bodyPost_ret (v := .tuple #[.string ⟨#[]⟩, .bool false]) (by simp [results, Tryz.f41, go_sem]) rfl ⟨HB9.out, by rw [HR.out]; rfl⟩
      · have t1 : decide (15 < (O.size : Int)) = false := decide_eq_false (by omega)
        have HL15 : Hid ((Lib.decDigits (n / d)).length ≤ 15) := by show _ ≤ _; omega
        clear h15 hsz
        obtain ⟨x0, x1, x2, f0, f1, f2⟩ := BX9.out.facts
        go_wp2_with fail
        clear x0 x1 x2 f0 f1 f2
        refine (WR1.out _ _ HRG9.out).mono ?_; rintro e w10 ⟨rfl, hb10⟩
        have HINV0 : Hid (QB w10 B7 (false, A0, B0) ∧ Below w.heap.size w w10) := ⟨HQ9.out.go hb10, bstep HB9.out hb10⟩
        clear hb10 HQ9 HRG9 BX9 HB9 WR1
        have HO0 : Hid (O.data.toList = outK n d 0) := by
          show _ = _
          rw [HO.out]; unfold outK; rw [if_pos rfl, List.append_nil]
        have OT : Hid (∀ W, Calls Tryz.prog 48 #[.int .i64 10] W (RRetQ W (false, 10, 1))) := fun W => rof_any W 10 (by omega) (by omega)
        go_wp2_with fail
        go_loopw [8, 9] (fun v8 v9 wr => ∃ (k : Nat) (O1 : ByteArray) (A B : Nat), v9 = .int .i64 (k : Int) ∧ v8 = .string O1 ∧ k ≤ 15 ∧ Hid (O1.data.toList = outK n d k) ∧ Hid (QB wr B7 (false, A, B) ∧ Below w.heap.size w wr) ∧ Hid (Lw d (rk n d k) A B) ∧ Hid (∀ j, j < k → rk n d j ≠ 0)) (fun _ v9 _ => 15 - (intOf v9).toNat)
        case atStart => exact ⟨0, O, A0, B0, rfl, rfl, Nat.zero_le _, HO0, HINV0, HLW0, fun j hj => absurd hj (Nat.not_lt_zero _)⟩
        case round =>
          clear HINV0 HLW0 HO0
          obtain ⟨k, O1, A, B, rfl, rfl, hk, HO1, Inv0, HLW, HALL⟩ := hrel
          rename World => wr
          have hAr := HLW.out.le
          have hrd : rk n d k < d := Nat.mod_lt _ HD0.out
          have hB0 := HLW.out.pos HD0.out
          obtain ⟨oa, ka, ca, ob, kb, cb, ⟨y0, y1, y2⟩, hf⟩ := Inv0.out.1.open
          have HF := Lib.hid hf
          have HDD := HD100.out
          have hB100 : RLen B ≤ 100 := Nat.le_trans (rlen_mono hAr.2) HDD
          have hA100 : RLen A ≤ 100 := Nat.le_trans (rlen_mono (by omega : A ≤ d)) HDD
          by_cases hz : rk n d k = 0
          · have ZE : Hid (∀ W v, RFrac W v false A B → Calls Tryz.prog 66 #[v] W fun e w' => e = .returned (.bool true) ∧ Below W.heap.size W w') := fun W v h => by
              have := rzero_any h
              rwa [decide_eq_true (HLW.out.zero.2 hz)] at this
            have HR : Hid (X = some (outK n d k)) := by show _ = _; rw [HX.out]; exact dec_end HQ.out HL15.out hk hz HALL.out
            clear hf hAr hrd hB0 HDD hB100 hA100 hz hk
            go_wp2_with fail
            refine (ZE.out _ _ HF.out).mono ?_; rintro e w11 ⟨rfl, hb11⟩
            have HB11 := Lib.hid (bstep Inv0.out.2 hb11); clear hb11
            go_wp2_with fail
            refine bodyPost_ret (v := .tuple #[.string O1, .bool true]) (by simp [results, Tryz.f41, go_sem]) rfl ⟨HB11.out, by rw [HR.out]; show _ = Ending.returned (.tuple #[.string ⟨(outK n d k).toArray⟩, .bool true]); rw [text_back HO1.out]⟩
          · have ZE : Hid (∀ W v, RFrac W v false A B → Calls Tryz.prog 66 #[v] W fun e w' => e = .returned (.bool false) ∧ Below W.heap.size W w') := fun W v h => by
              have := rzero_any h
              rwa [decide_eq_false (fun h0 => hz (HLW.out.zero.1 h0))] at this
            by_cases hk15 : k = 15
            · have n15 : ((k : Int) == 15) = true := by rw [beq_iff_eq]; omega
              have HR : Hid (X = none) := by
                show _ = _
                rw [HX.out]
                refine dec_far HQ.out fun j hj => ?_
                rcases Nat.lt_or_ge j k with h9 | h9
                · exact HALL.out j h9
                · rw [show j = k by omega]; exact hz
              clear hf hAr hrd hB0 HDD hB100 hA100 hz hk hk15
              go_wp2_with fail
              refine (ZE.out _ _ HF.out).mono ?_; rintro e w11 ⟨rfl, hb11⟩
              have HB11 := Lib.hid (bstep Inv0.out.2 hb11); clear hb11
              go_wp2_with fail
              refine bodyPost_ret (v := .tuple #[.string ⟨#[]⟩, .bool false]) (by simp [results, Tryz.f41, go_sem]) rfl ⟨HB11.out, by rw [HR.out]; rfl⟩
            · have n15 : ((k : Int) == 15) = false := by rw [beq_eq_false_iff_ne]; omega
              have HK : Hid (k < 15) := by show _ < _; omega
              have HW : Hid (wrap64 ((k : Int) + 1) = ((k + 1 : Nat) : Int)) := wadd (a := k) (b := 1) (by omega)
              have HALL2 : Hid (∀ j, j < k + 1 → rk n d j ≠ 0) := fun j hj => by
                rcases Nat.lt_or_ge j k with h9 | h9
                · exact HALL.out j h9
                · rw [show j = k by omega]; exact hz
              obtain ⟨A1, hA1⟩ : ∃ x, x = A * 10 / Nat.gcd (A * 10) (B * 1) := ⟨_, rfl⟩
              obtain ⟨B1, hB1⟩ : ∃ x, x = B * 1 / Nat.gcd (A * 10) (B * 1) := ⟨_, rfl⟩
              have LW1 : Lw d (10 * rk n d k) A1 B1 := by rw [hA1, hB1]; exact HLW.out.times HD0.out
              have TM : Hid (∀ W v u, RFrac W v false A B → RFrac W u false 10 1 → Calls Tryz.prog 49 #[v, u] W (RRetQ W (false, A1, B1))) := fun W v u h1 h2 => by
                have h4 := rtimes_any h1 h2 (by omega) (by omega) (Nat.le_trans (rlen_small (show 10 < 10000 by omega)) (by omega)) (by rw [rlen_one]; omega) hB0 (by omega)
                rw [hA1, hB1]
                exact h4
              have hB10 := LW1.pos HD0.out
              have hA1d : A1 ≤ 10 * d := Nat.le_trans LW1.le.1 (by omega)
              have h101 : RLen A1 ≤ 200 := Nat.le_trans (rlen_mono hA1d) (Nat.le_trans (rlen_mul 10 d) (by have := rlen_small (show 10 < 10000 by omega); omega))
              have hB1100 : RLen B1 ≤ 100 := Nat.le_trans (rlen_mono LW1.le.2) HDD
              obtain ⟨g, hg⟩ : ∃ g, g = A1 / B1 := ⟨_, rfl⟩
              have hgd : g = 10 * rk n d k / d := by rw [hg]; exact LW1.div
              have hg10 : g < 10 := by rw [hgd]; exact (Nat.div_lt_iff_lt_mul HD0.out).2 (by omega)
              have FL1 : Hid (∀ W v, RFrac W v false A1 B1 → Calls Tryz.prog 64 #[v] W (RRetQ W (false, g, 1))) := fun W v h => by
                have := rdown_any h (by omega) (by omega) hB10
                rwa [floor_false, ← hg] at this
              obtain ⟨A2, hA2⟩ : ∃ x, x = A1 % B1 / Nat.gcd (A1 % B1) B1 := ⟨_, rfl⟩
              obtain ⟨B2, hB2⟩ : ∃ x, x = B1 / Nat.gcd (A1 % B1) B1 := ⟨_, rfl⟩
              have MN : Hid (∀ W v u, RFrac W v false A1 B1 → RFrac W u false g 1 → Calls Tryz.prog 65 #[v, u] W (RRetQ W (false, A2, B2))) := fun W v u h1 h2 => by
                have := rminus_any h1 h2 (by omega) (by omega) (by have := rlen_small (show g < 10000 by omega); omega) (by rw [rlen_one]; omega) hB10 (by omega)
                rw [hg, sub_floor hB10, ← hA2, ← hB2] at this
                exact this
              have HLW2 : Hid (Lw d (rk n d (k + 1)) A2 B2) := by
                show Lw _ _ _ _
                rw [rk_succ, hA2, hB2]; exact LW1.rest HD0.out
              have WG : Hid (∀ W v, RFrac W v false g 1 → Calls Tryz.prog 53 #[v] W fun e w' => e = .returned (.string ⟨[UInt8.ofNat (48 + g)].toArray⟩) ∧ Below W.heap.size W w') := fun W v h => by
                have := rwrite_any h (by have := rlen_small (show g < 10000 by omega); omega) (by rw [rlen_one]; omega)
                rwa [one_text, Lib.decDigits_one hg10] at this
              obtain ⟨D, hDe⟩ : ∃ D : ByteArray, D = ⟨#[UInt8.ofNat (48 + g)]⟩ := ⟨_, rfl⟩
              have hD1 : D.size = 1 := by rw [hDe]; rfl
              have hDl : D.data.toList = [UInt8.ofNat (48 + g)] := by rw [hDe]
              rw [show (⟨[UInt8.ofNat (48 + g)].toArray⟩ : ByteArray) = D from hDe.symm] at WG
              have hlen := outK_len n d k HD0.out HL15.out (by omega)
              have hO1s : O1.size ≤ 40 := by
                have h9 := HO1.out
                have h8 : O1.data.toList.length = O1.size := Array.length_toList
                rw [h9] at h8; omega
              have hP1 : (⟨#[46]⟩ : ByteArray).size = 1 := rfl
              by_cases hk0 : k = 0
              · have n0 : ((k : Int) == 0) = true := by rw [beq_iff_eq]; omega
                have q1 : ¬ (O1.size + (⟨#[46]⟩ : ByteArray).size > 9223372036854775807) := by omega
                have q2 : ¬ ((O1 ++ ⟨#[46]⟩).size + D.size > 9223372036854775807) := by rw [ByteArray.size_append]; omega
                have HO3 : Hid ((O1 ++ ⟨#[46]⟩ ++ D).data.toList = outK n d (k + 1)) := by
                  show _ = _
                  rw [outK_succ HD0.out, if_pos hk0, ← HO1.out, ← hgd, ← hDl]
                  simp [ByteArray.data_append]
                have Q1 := Lib.hid q1; have Q2 := Lib.hid q2
                clear hf hAr hrd hB0 HDD hB100 hA100 hz hk hk15 hA1 hB1 LW1 hB10 hA1d h101 hB1100 hg hgd hg10 hA2 hB2 hlen hO1s hD1 hDl hDe hP1 hk0 HALL HLW HO1
                go_wp2_with fail
                refine (ZE.out _ _ HF.out).mono ?_; rintro e w11 ⟨rfl, hb11⟩
                have Inv : Hid (QB w11 B7 (false, A, B) ∧ Below w.heap.size w w11) := ⟨Inv0.out.1.go hb11, bstep Inv0.out.2 hb11⟩
                clear hb11 Inv0 ZE HF y0 y1 y2
                go_wp2_with fail
                refine region_inv 3 57 [(44, IsRF false A B), (45, IsRF false 10 1), (46, IsRF false A1 B1)] (by kernel_rfl) rfl (by kernel_rfl) ?_ ?_
                · refine steps_cons rfl (fun A_ W hb hr hg K hK => ?_) <| steps_cons rfl (fun A_ W hb hr hg K hK => ?_) <| steps_cons rfl (fun A_ W hb hr hg K hK => ?_) trivial
                  · have e0 : A_.tmps[7]?.getD undef = .pointer (some ⟨B7, 0, none⟩) := hb 7 (by kernel_rfl)
                    obtain ⟨o1, k1, c1, o2, k2, c2, ⟨x0, x1, x2⟩, hh⟩ := (Inv.out.1.go hg).open
                    have HH := Lib.hid hh
                    clear hb hr hh; go_simp; exact hK _ _ (Below.refl _ _) HH.out
                  · clear hb hr; go_simp
                    refine (OT.out W).mono ?_; rintro e w5 ⟨v5, rfl, hv5, hb5⟩
                    exact hK _ _ hb5 hv5
                  · have h1 : RFrac W (A_.tmps[44]?.getD undef) false A B := hr 44 (by kernel_rfl)
                    have H1 := Lib.hid h1
                    have h2 : RFrac W (A_.tmps[45]?.getD undef) false 10 1 := hr 45 (by kernel_rfl)
                    have H2 := Lib.hid h2
                    clear hb hr h1 h2; go_simp
                    refine (TM.out W _ _ H1.out H2.out).mono ?_; rintro e w5 ⟨v5, rfl, hv5, hb5⟩
                    exact hK _ _ hb5 hv5
                rintro g4 w14 hb14 ⟨-, -, h20, -⟩
                simp only [List.drop_succ_cons, List.drop_zero, List.take_succ_cons, List.take_zero, putHead, Option.getD_some, Act.put, List.setIfInBounds_toArray, List.set_cons_zero, List.set_cons_succ]
                replace h20 : RFrac w14 (g4 46) false A1 B1 := h20
                generalize g4 46 = v20 at *
                obtain ⟨o7, k7, c7, o8, k8, c8, rfl, hqn, hqd⟩ := h20
                have HB9 := Lib.hid (bstep Inv.out.2 hb14)
                have QP9 := Lib.hid (Inv.out.1.go hb14)
                obtain ⟨_, _, _, _, _, _, ⟨x0, x1, x2, f0, f1, f2⟩, -, -⟩ := QP9.out.all
                obtain ⟨qx, qn, qd, qb⟩ := QP9.out.put2 (r := (false, A1, B1)) hqn hqd HB9.out HLE.out
                have BX1 := Lib.hid qx; have RN1 := Lib.hid qn; have RD1 := Lib.hid qd; have PB1 := Lib.hid qb
                obtain ⟨z0, z1, z2, -, -, -⟩ := qx.facts
                clear hb14 hqn hqd qx qn qd qb HB9 QP9
                go_wp2_with fail
                clear x0 x1 x2 f0 f1 f2 z0 z1 z2
                generalize ((w14.setCell ⟨B7, 0, none⟩ (.bool false)).setCell ⟨B7, 1, none⟩ (.slice o7 k7 c7)).setCell ⟨B7, 2, none⟩ (.slice o8 k8 c8) = w6 at *
                refine (FL1.out _ _ ⟨_, _, _, _, _, _, rfl, RN1.out, RD1.out⟩).mono ?_; rintro e w7 ⟨v7, rfl, hv7, hb7⟩
                have HV7 := Lib.hid hv7
                have PB2 := Lib.hid (bstep PB1.out hb7)
                have BX2 := Lib.hid (BX1.out.go hb7); have RN2 := Lib.hid (RN1.out.go hb7); have RD2 := Lib.hid (RD1.out.go hb7)
                clear hv7 hb7 BX1 RN1 RD1 PB1
                obtain ⟨p1, p2, p3, p4, p5, p6, rfl, -, -⟩ := HV7.out
                go_wp2_with fail
                refine (WG.out _ _ HV7.out).mono ?_; rintro e w8 ⟨rfl, hb8⟩
                have PB3 := Lib.hid (bstep PB2.out hb8)
                have Inv2 : Hid (QB w8 B7 (false, A1, B1) ∧ Below w.heap.size w w8) := ⟨⟨_, _, _, _, _, _, BX2.out.go hb8, RN2.out.go hb8, RD2.out.go hb8⟩, PB3.out⟩
                clear hb8 BX2 RN2 RD2 PB2 PB3
                go_wp2_with fail
                refine region_inv 4 57 [(52, IsRF false A1 B1), (53, IsRF false A1 B1), (54, IsRF false g 1), (55, IsRF false A2 B2)] (by kernel_rfl) rfl (by kernel_rfl) ?_ ?_
                · refine steps_cons rfl (fun A_ W hb hr hg K hK => ?_) <| steps_cons rfl (fun A_ W hb hr hg K hK => ?_) <| steps_cons rfl (fun A_ W hb hr hg K hK => ?_) <| steps_cons rfl (fun A_ W hb hr hg K hK => ?_) trivial
                  · have e0 : A_.tmps[7]?.getD undef = .pointer (some ⟨B7, 0, none⟩) := hb 7 (by kernel_rfl)
                    obtain ⟨o1, k1, c1, o2, k2, c2, ⟨x0, x1, x2⟩, hh⟩ := (Inv2.out.1.go hg).open
                    have HH := Lib.hid hh
                    clear hb hr hh; go_simp; exact hK _ _ (Below.refl _ _) HH.out
                  · have e0 : A_.tmps[7]?.getD undef = .pointer (some ⟨B7, 0, none⟩) := hb 7 (by kernel_rfl)
                    obtain ⟨o1, k1, c1, o2, k2, c2, ⟨x0, x1, x2⟩, hh⟩ := (Inv2.out.1.go hg).open
                    have HH := Lib.hid hh
                    clear hb hr hh; go_simp; exact hK _ _ (Below.refl _ _) HH.out
                  · have h1 : RFrac W (A_.tmps[53]?.getD undef) false A1 B1 := hr 53 (by kernel_rfl)
                    have H1 := Lib.hid h1
                    clear hb hr h1; go_simp
                    refine (FL1.out W _ H1.out).mono ?_; rintro e w5 ⟨v5, rfl, hv5, hb5⟩
                    exact hK _ _ hb5 hv5
                  · have h1 : RFrac W (A_.tmps[52]?.getD undef) false A1 B1 := hr 52 (by kernel_rfl)
                    have H1 := Lib.hid h1
                    have h2 : RFrac W (A_.tmps[54]?.getD undef) false g 1 := hr 54 (by kernel_rfl)
                    have H2 := Lib.hid h2
                    clear hb hr h1 h2; go_simp
                    refine (MN.out W _ _ H1.out H2.out).mono ?_; rintro e w5 ⟨v5, rfl, hv5, hb5⟩
                    exact hK _ _ hb5 hv5
                rintro g4 w14 hb14 ⟨-, -, -, h20, -⟩
                simp only [List.drop_succ_cons, List.drop_zero, List.take_succ_cons, List.take_zero, putHead, Option.getD_some, Act.put, List.setIfInBounds_toArray, List.set_cons_zero, List.set_cons_succ]
                replace h20 : RFrac w14 (g4 55) false A2 B2 := h20
                generalize g4 55 = v20 at *
                obtain ⟨o7, k7, c7, o8, k8, c8, rfl, hqn, hqd⟩ := h20
                have HB9 := Lib.hid (bstep Inv2.out.2 hb14)
                have QP9 := Lib.hid (Inv2.out.1.go hb14)
                obtain ⟨_, _, _, _, _, _, ⟨x0, x1, x2, f0, f1, f2⟩, -, -⟩ := QP9.out.all
                obtain ⟨qx, qn, qd, qb⟩ := QP9.out.put2 (r := (false, A2, B2)) hqn hqd HB9.out HLE.out
                have BX4 := Lib.hid qx; have RN4 := Lib.hid qn; have RD4 := Lib.hid qd; have PB4 := Lib.hid qb
                obtain ⟨z0, z1, z2, -, -, -⟩ := qx.facts
                clear hb14 hqn hqd qx qn qd qb HB9 QP9
                go_wp2_with fail
                go_roundw
                case rel => exact ⟨k + 1, _, A2, B2, by rw [HW.out], rfl, HK.out, HO3, ⟨⟨_, _, _, _, _, _, BX4.out, RN4.out, RD4.out⟩, PB4.out⟩, HLW2, HALL2⟩
                case measure => exact meas_one' HK.out HW.out
              · have n0 : ((k : Int) == 0) = false := by rw [beq_eq_false_iff_ne]; omega
                have q2 : ¬ (O1.size + D.size > 9223372036854775807) := by omega
                have HO3 : Hid ((O1 ++ D).data.toList = outK n d (k + 1)) := by
                  show _ = _
                  rw [outK_succ HD0.out, if_neg hk0, ← HO1.out, ← hgd, ← hDl]
                  simp [ByteArray.data_append]
                have Q2 := Lib.hid q2
                clear hf hAr hrd hB0 HDD hB100 hA100 hz hk hk15 hA1 hB1 LW1 hB10 hA1d h101 hB1100 hg hgd hg10 hA2 hB2 hlen hO1s hD1 hDl hDe hP1 hk0 HALL HLW HO1
                go_wp2_with fail
                refine (ZE.out _ _ HF.out).mono ?_; rintro e w11 ⟨rfl, hb11⟩
                have Inv : Hid (QB w11 B7 (false, A, B) ∧ Below w.heap.size w w11) := ⟨Inv0.out.1.go hb11, bstep Inv0.out.2 hb11⟩
                clear hb11 Inv0 ZE HF y0 y1 y2
                go_wp2_with fail
                refine region_inv 3 57 [(44, IsRF false A B), (45, IsRF false 10 1), (46, IsRF false A1 B1)] (by kernel_rfl) rfl (by kernel_rfl) ?_ ?_
                · refine steps_cons rfl (fun A_ W hb hr hg K hK => ?_) <| steps_cons rfl (fun A_ W hb hr hg K hK => ?_) <| steps_cons rfl (fun A_ W hb hr hg K hK => ?_) trivial
                  · have e0 : A_.tmps[7]?.getD undef = .pointer (some ⟨B7, 0, none⟩) := hb 7 (by kernel_rfl)
                    obtain ⟨o1, k1, c1, o2, k2, c2, ⟨x0, x1, x2⟩, hh⟩ := (Inv.out.1.go hg).open
                    have HH := Lib.hid hh
                    clear hb hr hh; go_simp; exact hK _ _ (Below.refl _ _) HH.out
                  · clear hb hr; go_simp
                    refine (OT.out W).mono ?_; rintro e w5 ⟨v5, rfl, hv5, hb5⟩
                    exact hK _ _ hb5 hv5
                  · have h1 : RFrac W (A_.tmps[44]?.getD undef) false A B := hr 44 (by kernel_rfl)
                    have H1 := Lib.hid h1
                    have h2 : RFrac W (A_.tmps[45]?.getD undef) false 10 1 := hr 45 (by kernel_rfl)
                    have H2 := Lib.hid h2
                    clear hb hr h1 h2; go_simp
                    refine (TM.out W _ _ H1.out H2.out).mono ?_; rintro e w5 ⟨v5, rfl, hv5, hb5⟩
                    exact hK _ _ hb5 hv5
                rintro g4 w14 hb14 ⟨-, -, h20, -⟩
                simp only [List.drop_succ_cons, List.drop_zero, List.take_succ_cons, List.take_zero, putHead, Option.getD_some, Act.put, List.setIfInBounds_toArray, List.set_cons_zero, List.set_cons_succ]
                replace h20 : RFrac w14 (g4 46) false A1 B1 := h20
                generalize g4 46 = v20 at *
                obtain ⟨o7, k7, c7, o8, k8, c8, rfl, hqn, hqd⟩ := h20
                have HB9 := Lib.hid (bstep Inv.out.2 hb14)
                have QP9 := Lib.hid (Inv.out.1.go hb14)
                obtain ⟨_, _, _, _, _, _, ⟨x0, x1, x2, f0, f1, f2⟩, -, -⟩ := QP9.out.all
                obtain ⟨qx, qn, qd, qb⟩ := QP9.out.put2 (r := (false, A1, B1)) hqn hqd HB9.out HLE.out
                have BX1 := Lib.hid qx; have RN1 := Lib.hid qn; have RD1 := Lib.hid qd; have PB1 := Lib.hid qb
                obtain ⟨z0, z1, z2, -, -, -⟩ := qx.facts
                clear hb14 hqn hqd qx qn qd qb HB9 QP9
                go_wp2_with fail
                clear x0 x1 x2 f0 f1 f2 z0 z1 z2
                generalize ((w14.setCell ⟨B7, 0, none⟩ (.bool false)).setCell ⟨B7, 1, none⟩ (.slice o7 k7 c7)).setCell ⟨B7, 2, none⟩ (.slice o8 k8 c8) = w6 at *
                refine (FL1.out _ _ ⟨_, _, _, _, _, _, rfl, RN1.out, RD1.out⟩).mono ?_; rintro e w7 ⟨v7, rfl, hv7, hb7⟩
                have HV7 := Lib.hid hv7
                have PB2 := Lib.hid (bstep PB1.out hb7)
                have BX2 := Lib.hid (BX1.out.go hb7); have RN2 := Lib.hid (RN1.out.go hb7); have RD2 := Lib.hid (RD1.out.go hb7)
                clear hv7 hb7 BX1 RN1 RD1 PB1
                obtain ⟨p1, p2, p3, p4, p5, p6, rfl, -, -⟩ := HV7.out
                go_wp2_with fail
                refine (WG.out _ _ HV7.out).mono ?_; rintro e w8 ⟨rfl, hb8⟩
                have PB3 := Lib.hid (bstep PB2.out hb8)
                have Inv2 : Hid (QB w8 B7 (false, A1, B1) ∧ Below w.heap.size w w8) := ⟨⟨_, _, _, _, _, _, BX2.out.go hb8, RN2.out.go hb8, RD2.out.go hb8⟩, PB3.out⟩
                clear hb8 BX2 RN2 RD2 PB2 PB3
                go_wp2_with fail
                refine region_inv 4 57 [(52, IsRF false A1 B1), (53, IsRF false A1 B1), (54, IsRF false g 1), (55, IsRF false A2 B2)] (by kernel_rfl) rfl (by kernel_rfl) ?_ ?_
                · refine steps_cons rfl (fun A_ W hb hr hg K hK => ?_) <| steps_cons rfl (fun A_ W hb hr hg K hK => ?_) <| steps_cons rfl (fun A_ W hb hr hg K hK => ?_) <| steps_cons rfl (fun A_ W hb hr hg K hK => ?_) trivial
                  · have e0 : A_.tmps[7]?.getD undef = .pointer (some ⟨B7, 0, none⟩) := hb 7 (by kernel_rfl)
                    obtain ⟨o1, k1, c1, o2, k2, c2, ⟨x0, x1, x2⟩, hh⟩ := (Inv2.out.1.go hg).open
                    have HH := Lib.hid hh
                    clear hb hr hh; go_simp; exact hK _ _ (Below.refl _ _) HH.out
                  · have e0 : A_.tmps[7]?.getD undef = .pointer (some ⟨B7, 0, none⟩) := hb 7 (by kernel_rfl)
                    obtain ⟨o1, k1, c1, o2, k2, c2, ⟨x0, x1, x2⟩, hh⟩ := (Inv2.out.1.go hg).open
                    have HH := Lib.hid hh
                    clear hb hr hh; go_simp; exact hK _ _ (Below.refl _ _) HH.out
                  · have h1 : RFrac W (A_.tmps[53]?.getD undef) false A1 B1 := hr 53 (by kernel_rfl)
                    have H1 := Lib.hid h1
                    clear hb hr h1; go_simp
                    refine (FL1.out W _ H1.out).mono ?_; rintro e w5 ⟨v5, rfl, hv5, hb5⟩
                    exact hK _ _ hb5 hv5
                  · have h1 : RFrac W (A_.tmps[52]?.getD undef) false A1 B1 := hr 52 (by kernel_rfl)
                    have H1 := Lib.hid h1
                    have h2 : RFrac W (A_.tmps[54]?.getD undef) false g 1 := hr 54 (by kernel_rfl)
                    have H2 := Lib.hid h2
                    clear hb hr h1 h2; go_simp
                    refine (MN.out W _ _ H1.out H2.out).mono ?_; rintro e w5 ⟨v5, rfl, hv5, hb5⟩
                    exact hK _ _ hb5 hv5
                rintro g4 w14 hb14 ⟨-, -, -, h20, -⟩
                simp only [List.drop_succ_cons, List.drop_zero, List.take_succ_cons, List.take_zero, putHead, Option.getD_some, Act.put, List.setIfInBounds_toArray, List.set_cons_zero, List.set_cons_succ]
                replace h20 : RFrac w14 (g4 55) false A2 B2 := h20
                generalize g4 55 = v20 at *
                obtain ⟨o7, k7, c7, o8, k8, c8, rfl, hqn, hqd⟩ := h20
                have HB9 := Lib.hid (bstep Inv2.out.2 hb14)
                have QP9 := Lib.hid (Inv2.out.1.go hb14)
                obtain ⟨_, _, _, _, _, _, ⟨x0, x1, x2, f0, f1, f2⟩, -, -⟩ := QP9.out.all
                obtain ⟨qx, qn, qd, qb⟩ := QP9.out.put2 (r := (false, A2, B2)) hqn hqd HB9.out HLE.out
                have BX4 := Lib.hid qx; have RN4 := Lib.hid qn; have RD4 := Lib.hid qd; have PB4 := Lib.hid qb
                obtain ⟨z0, z1, z2, -, -, -⟩ := qx.facts
                clear hb14 hqn hqd qx qn qd qb HB9 QP9
                go_wp2_with fail
                go_roundw
                case rel => exact ⟨k + 1, _, A2, B2, by rw [HW.out], rfl, HK.out, HO3, ⟨⟨_, _, _, _, _, _, BX4.out, RN4.out, RD4.out⟩, PB4.out⟩, HLW2, HALL2⟩
                case measure => exact meas_one' HK.out HW.out
    · have s0 : decide (sgn true n < 0) = true := rfl
      have HR : Hid (X = none) := by show _ = _; rw [hX]; exact dec_neg hq
      obtain ⟨sv, hsv⟩ : ∃ sv, sv = sgn true n := ⟨_, rfl⟩
      rw [← hsv] at s0 SG
      clear hq hX hd0 hd100 hn100 hsg hsv
      go_enter Tryz.func41, Tryz.ntmps41
      go_wp2_with fail
      refine RD.out.mono ?_; rintro e w2 ⟨v, hb, rfl, hv⟩
      obtain ⟨o1, k1, c1, o2, k2, c2, rfl, h1, h2⟩ := hv
      have b1 := below_alloc w2 (.cells #[.bool true, .slice o1 k1 c1, .slice o2 k2 c2] 76)
      have HB := Lib.hid (bstep hb b1)
      have HRF : Hid (RFrac (w2.alloc (.cells #[.bool true, .slice o1 k1 c1, .slice o2 k2 c2] 76)) (.agg #[.bool true, .slice o1 k1 c1, .slice o2 k2 c2]) true n d) := ⟨_, _, _, _, _, _, rfl, h1.go b1, h2.go b1⟩
      clear hb h1 h2 b1 RD
      go_wp2_with fail
      refine (SG.out _ _ HRF.out).mono ?_; rintro e w4 ⟨rfl, hb4⟩
      have HB4 := Lib.hid (bstep HB.out hb4)
      clear hb4 HB HRF
      go_wp2_with fail
      refine bodyPost_ret (v := .tuple #[.string ⟨#[]⟩, .bool false]) (by simp [results, Tryz.f41, go_sem]) rfl ⟨HB4.out, by rw [HR.out]; rfl⟩
end Go.Proofs.YtegobakoflbnfaaGreatDoor.QA
