/- SameTokens, the lists lying anywhere. -/
import Derived.Test.YtegobakoflbnfaaDoorTx
import Derived.Deep.QuietTactic
import Derived.BigQuiet
namespace Go.Proofs.YtegobakoflbnfaaDoor
open Go Go.RowKit

set_option maxHeartbeats 6400000 in
set_option maxRecDepth 100000 in
theorem same_anyO (w : World) (v1 v2 : Value) (L M : List Tk) (h1 : TokO w v1 L) (h2 : TokO w v2 M) (hL : L.length ≤ 2000) (hM : M.length ≤ 2000) : Calls Tryd.prog 16 #[v1, v2, .bool false] w fun e w' => e = .returned (.bool (sameB false L M)) ∧ Below w.heap.size w w' := by
  have H1 := Lib.hid h1; have H2 := Lib.hid h2
  obtain ⟨o1, c1, rfl, hc1⟩ := h1
  obtain ⟨o2, c2, rfl, hc2⟩ := h2
  have HC1 := Lib.hid hc1; have HC2 := Lib.hid hc2
  clear hc1 hc2
  by_cases hlen : L.length = M.length
  · have n0 : ((L.length : Int) != (M.length : Int)) = false := by rw [hlen]; simp
    obtain ⟨n, hn⟩ : ∃ n, n = L.length := ⟨_, rfl⟩
    have HN := Lib.hid hn; have HNM : Hid (n = M.length) := hn.trans hlen
    rw [← hlen] at n0 ⊢
    rw [← hn] at n0 hL ⊢
    clear hlen hn hM
    go_enter Tryd.func16, Tryd.ntmps16
    go_wp2_with fail
    go_loopw [7] (fun v7 wr => ∃ i : Nat, v7 = .int .i64 (i : Int) ∧ i ≤ n ∧ Hid (sameB false L M = sameB false (L.drop i) (M.drop i)) ∧ Hid (Below w.heap.size w wr)) (fun v7 _ => n - (intOf v7).toNat)
    case atStart => exact ⟨0, rfl, Nat.zero_le _, rfl, Below.refl _ _⟩
    case round =>
      obtain ⟨i, rfl, hi, HS, HB⟩ := hrel
      by_cases hlt : i < n
      · have HLT := Lib.hid hlt
        obtain ⟨g1, f1, rfl, hd1⟩ := HC1.out (by have := HN.out; omega)
        obtain ⟨g2, f2, rfl, hd2⟩ := HC2.out (by have := HNM.out; omega)
        obtain ⟨x0, x1, z1, x2⟩ := hd1 i (by have := HN.out; omega)
        obtain ⟨y0, y1, z2, y2⟩ := hd2 i (by have := HNM.out; omega)
        have gl1 := World.block_lt_of_cell? w _ x0
        have gl2 := World.block_lt_of_cell? w _ y0
        replace x0 := (HB.out.cell (p := ⟨g1, f1 + i * 3, none⟩) gl1).trans x0
        replace x1 := (HB.out.cell (p := ⟨g1, f1 + i * 3 + 1, none⟩) gl1).trans x1
        replace x2 := (HB.out.cell (p := ⟨g1, f1 + i * 3 + 2, none⟩) gl1).trans x2
        replace y0 := (HB.out.cell (p := ⟨g2, f2 + i * 3, none⟩) gl2).trans y0
        replace y1 := (HB.out.cell (p := ⟨g2, f2 + i * 3 + 1, none⟩) gl2).trans y1
        replace y2 := (HB.out.cell (p := ⟨g2, f2 + i * 3 + 2, none⟩) gl2).trans y2
        generalize hta : L[i]'(by have := HN.out; omega) = ta at x0 x1
        generalize htb : M[i]'(by have := HNM.out; omega) = tb at y0 y1
        obtain ⟨ka, sa, pa⟩ := ta
        obtain ⟨kb, sb, pb⟩ := tb
        simp only [] at x0 x1 y0 y1
        have HST : Hid (sameB false (L.drop i) (M.drop i) = ((ka == kb) && (sa.toList == sb.toList) && (!false || pa == pb) && sameB false (L.drop (i + 1)) (M.drop (i + 1)))) := by
          show _ = _
          rw [List.drop_eq_getElem_cons (by have := HN.out; omega), List.drop_eq_getElem_cons (l := M) (by have := HNM.out; omega), hta, htb]
          rfl
        clear hd1 hd2 hta htb
        have hii : (i : Int) < (n : Int) := by omega
        by_cases hk : ka = kb
        · subst hk
          have k1 : (ka == ka) = true := beq_self_eq_true ka
          cases s0 : (sa.toList == sb.toList)
          · have HF : Hid (sameB false L M = false) := by show _ = _; rw [HS.out, HST.out, k1, s0]; rfl
            clear k1
            clear HST HS
            go_wp2_with fail
            go_quiet (fail)
            go_wp2_with fail
            go_ret
            exact ⟨by rw [HF.out]; rfl, HB.out.trans (below_drewN _ _ _)⟩
          · · clear k1
              have HS2 : Hid (sameB false L M = sameB false (L.drop (i + 1)) (M.drop (i + 1))) := by show _ = _; rw [HS.out, HST.out, s0]; simp
              clear HST HS
              have HW := Lib.hid (wadd (a := i) (b := 1) (by have := HLT.out; omega))
              go_wp2_with fail
              go_quiet (fail)
              go_wp2_with fail
              go_roundw
              case rel => exact ⟨i + 1, by first | exact congrArg (Value.int .i64) HW.out | go_num, HLT.out, HS2, HB.out.trans (below_drewN _ _ _)⟩
              case measure => have := HLT.out; first | (rw [HW.out]; simp [intOf]; omega) | (simp [intOf]; omega)
        · have k0 : (ka != kb) = true := by rw [bne_iff_ne]; exact hk
          have k1 : (ka == kb) = false := by rw [beq_eq_false_iff_ne]; exact hk
          have HF : Hid (sameB false L M = false) := by show _ = _; rw [HS.out, HST.out, k1]; rfl
          clear hk
          clear HST HS
          go_wp2_with fail
          go_quiet (fail)
          go_wp2_with fail
          go_ret
          exact ⟨by rw [HF.out]; rfl, HB.out.trans (below_drewN _ _ _)⟩
      · have hin : i = n := by omega
        subst hin
        have HR : Hid (sameB false L M = true) := by
          show _ = _
          rw [HS.out, List.drop_eq_nil_of_le (by rw [← HN.out]; exact Nat.le_refl _), List.drop_eq_nil_of_le (by rw [← HNM.out]; exact Nat.le_refl _)]; rfl
        go_wp2_with fail
        go_ret
        exact ⟨by rw [HR.out]; rfl, HB.out⟩
  · have n0 : ((L.length : Int) != (M.length : Int)) = true := by rw [bne_iff_ne]; omega
    have HR : Hid (sameB false L M = false) := by
      show _ = _
      cases hs : sameB false L M
      · rfl
      · exact absurd (sameB_len hs) hlen
    go_enter Tryd.func16, Tryd.ntmps16
    go_wp2_with fail
    go_ret
    exact ⟨by rw [HR.out]; rfl, Below.refl _ _⟩
end Go.Proofs.YtegobakoflbnfaaDoor
