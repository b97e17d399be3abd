/- The reference's Plus. -/
import Derived.Test.YtlkdahgfnfdakaaRefU
namespace Go.Proofs.Ytlkdahgfnfdakaa
open Go Go.RowKit Go.Shelf WN LM

set_option maxHeartbeats 8000000 in
set_option maxRecDepth 100000 in
theorem rplus_any {w : World} {v u : Value} {s t : Bool} {n d m c : Nat} (h : RFrac w v s n d) (k : RFrac w u t m c) (ln : RLen n ≤ 40000) (ld : RLen d ≤ 40000) (lm : RLen m ≤ 40000) (lc : RLen c ≤ 40000) (d0 : 0 < d) (p0 : 0 < c) :
    Calls Try.prog 71 #[v, u] w (RRetQ w (lowQ (addS s (n * c) t (m * d)) (addN s (n * c) t (m * d)) (d * c))) := by
  obtain ⟨o1, k1, c1, o2, k2, c2, rfl, hn, hd⟩ := h
  obtain ⟨o3, k3, c3, o4, k4, c4, rfl, hm, hc⟩ := k
  obtain ⟨B1, bA, bB, bR⟩ := boxesQ3 w (.bool s) (.slice o1 k1 c1) (.slice o2 k2 c2) (.bool t) (.slice o3 k3 c3) (.slice o4 k4 c4) (.bool false) (.slice none 0 0) (.slice none 0 0)
  have HN := Lib.hid (hn.go B1); have HD := Lib.hid (hd.go B1); have HM := Lib.hid (hm.go B1); have HC := Lib.hid (hc.go B1)
  have BA := Lib.hid bA; have BB := Lib.hid bB; have BR := Lib.hid bR; have HB1 := Lib.hid B1
  have LN : Hid (RLen n ≤ 1000000) := Nat.le_trans ln (by omega)
  have LD : Hid (RLen d ≤ 1000000) := Nat.le_trans ld (by omega)
  have LM : Hid (RLen m ≤ 1000000) := Nat.le_trans lm (by omega)
  have LC : Hid (RLen c ≤ 1000000) := Nat.le_trans lc (by omega)
  have LX : Hid (RLen (n * c) ≤ 1000000) := Nat.le_trans (rlen_mul _ _) (by omega)
  have LY : Hid (RLen (m * d) ≤ 1000000) := Nat.le_trans (rlen_mul _ _) (by omega)
  have LX8 : Hid (RLen (n * c) ≤ 80000) := Nat.le_trans (rlen_mul _ _) (by omega)
  have LY8 : Hid (RLen (m * d) ≤ 80000) := Nat.le_trans (rlen_mul _ _) (by omega)
  have LZ : Hid (RLen (d * c) ≤ 100000) := Nat.le_trans (rlen_mul _ _) (by omega)
  have DP : Hid (0 < d * c) := Nat.mul_pos d0 p0
  clear hn hd hm hc bA bB bR B1 ln ld lm lc d0 p0
  go_enter Try.func71, Try.ntmps71
  go_wp2_with fail
  generalize ((w.alloc (.cells #[.bool s, .slice o1 k1 c1, .slice o2 k2 c2] 60)).alloc (.cells #[.bool t, .slice o3 k3 c3, .slice o4 k4 c4] 60)).alloc (.cells #[.bool false, .slice none 0 0, .slice none 0 0] 60) = w1 at *
  refine region_inv 15 53 [(8, Is (.pointer (some ⟨w.heap.size, 1, none⟩))), (9, Is (.slice o1 k1 c1)), (10, Is (.pointer (some ⟨w.heap.size + 1, 2, none⟩))), (11, Is (.slice o4 k4 c4)), (12, IsR (n * c)), (13, Is (.pointer (some ⟨w.heap.size + 1, 1, none⟩))), (14, Is (.slice o3 k3 c3)), (15, Is (.pointer (some ⟨w.heap.size, 2, none⟩))), (16, Is (.slice o2 k2 c2)), (17, IsR (m * d)), (18, Is (.pointer (some ⟨w.heap.size, 2, none⟩))), (19, Is (.slice o2 k2 c2)), (20, Is (.pointer (some ⟨w.heap.size + 1, 2, none⟩))), (21, Is (.slice o4 k4 c4)), (22, IsR (d * c))] (by kernel_rfl) rfl (by kernel_rfl) ?_ ?_
  · refine steps_cons rfl (fun A_ W hb hr hg K hK => ?_) <| steps_cons rfl (fun A_ W hb hr hg K hK => ?_) <| steps_cons rfl (fun A_ W hb hr hg K hK => ?_) <| steps_cons rfl (fun A_ W hb hr hg K hK => ?_) <| steps_cons rfl (fun A_ W hb hr hg K hK => ?_) <| steps_cons rfl (fun A_ W hb hr hg K hK => ?_) <| steps_cons rfl (fun A_ W hb hr hg K hK => ?_) <| steps_cons rfl (fun A_ W hb hr hg K hK => ?_) <| steps_cons rfl (fun A_ W hb hr hg K hK => ?_) <| steps_cons rfl (fun A_ W hb hr hg K hK => ?_) <| steps_cons rfl (fun A_ W hb hr hg K hK => ?_) <| steps_cons rfl (fun A_ W hb hr hg K hK => ?_) <| steps_cons rfl (fun A_ W hb hr hg K hK => ?_) <| steps_cons rfl (fun A_ W hb hr hg K hK => ?_) <| steps_cons rfl (fun A_ W hb hr hg K hK => ?_) trivial
    · have e0 : A_.tmps[2]?.getD undef = .pointer (some ⟨w.heap.size, 0, none⟩) := hb 2 (by kernel_rfl)
      clear hb hr; go_simp; exact hK _ _ (Below.refl _ _) rfl
    · have e0 : A_.tmps[8]?.getD undef = .pointer (some ⟨w.heap.size, 1, none⟩) := hr 8 (by kernel_rfl)
      have c0 := (BA.out.go hg).facts.2.1
      clear hb hr; go_simp; exact hK _ _ (Below.refl _ _) rfl
    · have e0 : A_.tmps[3]?.getD undef = .pointer (some ⟨w.heap.size + 1, 0, none⟩) := hb 3 (by kernel_rfl)
      clear hb hr; go_simp; exact hK _ _ (Below.refl _ _) rfl
    · have e0 : A_.tmps[10]?.getD undef = .pointer (some ⟨w.heap.size + 1, 2, none⟩) := hr 10 (by kernel_rfl)
      have c0 := (BB.out.go hg).facts.2.2.1
      clear hb hr; go_simp; exact hK _ _ (Below.refl _ _) rfl
    · have e0 : A_.tmps[9]?.getD undef = .slice o1 k1 c1 := hr 9 (by kernel_rfl)
      have e1 : A_.tmps[11]?.getD undef = .slice o4 k4 c4 := hr 11 (by kernel_rfl)
      clear hb hr; go_simp
      refine (rmul_any (HN.out.go hg) (HC.out.go hg) LN.out LC.out).mono ?_; rintro e w5 ⟨v5, rfl, hv5, hb5⟩
      exact hK _ _ hb5 hv5
    · have e0 : A_.tmps[3]?.getD undef = .pointer (some ⟨w.heap.size + 1, 0, none⟩) := hb 3 (by kernel_rfl)
      clear hb hr; go_simp; exact hK _ _ (Below.refl _ _) rfl
    · have e0 : A_.tmps[13]?.getD undef = .pointer (some ⟨w.heap.size + 1, 1, none⟩) := hr 13 (by kernel_rfl)
      have c0 := (BB.out.go hg).facts.2.1
      clear hb hr; go_simp; exact hK _ _ (Below.refl _ _) rfl
    · have e0 : A_.tmps[2]?.getD undef = .pointer (some ⟨w.heap.size, 0, none⟩) := hb 2 (by kernel_rfl)
      clear hb hr; go_simp; exact hK _ _ (Below.refl _ _) rfl
    · have e0 : A_.tmps[15]?.getD undef = .pointer (some ⟨w.heap.size, 2, none⟩) := hr 15 (by kernel_rfl)
      have c0 := (BA.out.go hg).facts.2.2.1
      clear hb hr; go_simp; exact hK _ _ (Below.refl _ _) rfl
    · have e0 : A_.tmps[14]?.getD undef = .slice o3 k3 c3 := hr 14 (by kernel_rfl)
      have e1 : A_.tmps[16]?.getD undef = .slice o2 k2 c2 := hr 16 (by kernel_rfl)
      clear hb hr; go_simp
      refine (rmul_any (HM.out.go hg) (HD.out.go hg) LM.out LD.out).mono ?_; rintro e w5 ⟨v5, rfl, hv5, hb5⟩
      exact hK _ _ hb5 hv5
    · have e0 : A_.tmps[2]?.getD undef = .pointer (some ⟨w.heap.size, 0, none⟩) := hb 2 (by kernel_rfl)
      clear hb hr; go_simp; exact hK _ _ (Below.refl _ _) rfl
    · have e0 : A_.tmps[18]?.getD undef = .pointer (some ⟨w.heap.size, 2, none⟩) := hr 18 (by kernel_rfl)
      have c0 := (BA.out.go hg).facts.2.2.1
      clear hb hr; go_simp; exact hK _ _ (Below.refl _ _) rfl
    · have e0 : A_.tmps[3]?.getD undef = .pointer (some ⟨w.heap.size + 1, 0, none⟩) := hb 3 (by kernel_rfl)
      clear hb hr; go_simp; exact hK _ _ (Below.refl _ _) rfl
    · have e0 : A_.tmps[20]?.getD undef = .pointer (some ⟨w.heap.size + 1, 2, none⟩) := hr 20 (by kernel_rfl)
      have c0 := (BB.out.go hg).facts.2.2.1
      clear hb hr; go_simp; exact hK _ _ (Below.refl _ _) rfl
    · have e0 : A_.tmps[19]?.getD undef = .slice o2 k2 c2 := hr 19 (by kernel_rfl)
      have e1 : A_.tmps[21]?.getD undef = .slice o4 k4 c4 := hr 21 (by kernel_rfl)
      clear hb hr; go_simp
      refine (rmul_any (HD.out.go hg) (HC.out.go hg) LD.out LC.out).mono ?_; rintro e w5 ⟨v5, rfl, hv5, hb5⟩
      exact hK _ _ hb5 hv5
  rintro g4 w14 hb14 ⟨-, -, -, -, h12, -, -, -, -, h17, -, -, -, -, h22, -⟩
  simp only [List.drop_succ_cons, List.drop_zero, List.take_succ_cons, List.take_zero, putHead, Option.getD_some, Act.put, List.setIfInBounds_toArray, List.set_cons_zero, List.set_cons_succ]
  replace h12 : RNum w14 (g4 12) (n * c) := h12
  replace h17 : RNum w14 (g4 17) (m * d) := h17
  replace h22 : RNum w14 (g4 22) (d * c) := h22
  generalize g4 12 = v12 at *
  generalize g4 17 = v17 at *
  generalize g4 22 = v22 at *
  have NX := Lib.hid h12; have NY := Lib.hid h17; have DEN := Lib.hid h22
  have HB3 := Lib.hid (bstep HB1.out hb14); have BA3 := Lib.hid (BA.out.go hb14); have BB3 := Lib.hid (BB.out.go hb14); have BR3 := Lib.hid (BR.out.go hb14)
  clear h12 h17 h22 hb14 BA BB BR HN HD HM HC LN LD LM LC
  have BA := BA3; have BB := BB3; have BR := BR3; have HB4 := HB3
  clear BA3 BB3 BR3
  obtain ⟨x0, -, -, f0, -, -⟩ := BA.out.facts
  obtain ⟨y0, -, -, g0, -, -⟩ := BB.out.facts
  by_cases hst : s = t
  · have tst : (s == t) = true := by rw [beq_iff_eq]; exact hst
    have HST := Lib.hid hst
    clear hst
    go_wp2_with fail
    clear x0 y0 f0 g0 tst
    have OPR : Hid (∀ W, RNum W v12 (n * c) → RNum W v17 (m * d) → Calls Try.prog 112 #[v12, v17] W (RRet W (n * c + m * d))) := fun W h1 h2 => radd_any h1 h2 LX.out LY.out
    have LWR0 : ∀ W v, RNum W v (n * c + m * d) → RNum W v22 (d * c) → Calls Try.prog 92 #[.bool s, v, v22] W (RRetQ W (lowQ s (n * c + m * d) (d * c))) := fun W v h1 h2 => lowest_any s h1 h2 DP.out (Nat.le_trans (rlen_add _ _) (by have := LX8.out; have := LY8.out; omega)) LZ.out
    have QE : Hid (∀ e w', RRetQ w (lowQ s (n * c + m * d) (d * c)) e w' → RRetQ w (lowQ (addS s (n * c) t (m * d)) (addN s (n * c) t (m * d)) (d * c)) e w') := fun e w' h => by
      have e9 : lowQ (addS s (n * c) t (m * d)) (addN s (n * c) t (m * d)) (d * c) = lowQ s (n * c + m * d) (d * c) := by unfold addS addN; rw [if_pos HST.out, if_pos HST.out]
      rw [e9]; exact h
    obtain ⟨q, hq⟩ : ∃ q, q = lowQ s (n * c + m * d) (d * c) := ⟨_, rfl⟩
    rw [← hq] at LWR0 QE
    have LWR := Lib.hid LWR0
    clear LWR0 hq
    refine region_inv 7 53 [(28, Is (.pointer (some ⟨w.heap.size, 0, none⟩))), (29, Is (.bool s)), (30, Is (v12)), (31, Is (v17)), (32, IsR (n * c + m * d)), (33, Is (v22)), (34, IsRF q.1 q.2.1 q.2.2)] (by kernel_rfl) rfl (by kernel_rfl) ?_ ?_
    · refine steps_cons rfl (fun A_ W hb hr hg K hK => ?_) <| steps_cons rfl (fun A_ W hb hr hg K hK => ?_) <| steps_cons rfl (fun A_ W hb hr hg K hK => ?_) <| steps_cons rfl (fun A_ W hb hr hg K hK => ?_) <| steps_cons rfl (fun A_ W hb hr hg K hK => ?_) <| steps_cons rfl (fun A_ W hb hr hg K hK => ?_) <| steps_cons rfl (fun A_ W hb hr hg K hK => ?_) trivial
      · have e0 : A_.tmps[2]?.getD undef = .pointer (some ⟨w.heap.size, 0, none⟩) := hb 2 (by kernel_rfl)
        clear hb hr; go_simp; exact hK _ _ (Below.refl _ _) rfl
      · have e0 : A_.tmps[28]?.getD undef = .pointer (some ⟨w.heap.size, 0, none⟩) := hr 28 (by kernel_rfl)
        have c0 := (BA.out.go hg).facts.1
        clear hb hr; go_simp; exact hK _ _ (Below.refl _ _) rfl
      · have e0 : A_.tmps[5]?.getD undef = v12 := hb 5 (by kernel_rfl)
        clear hb hr; go_simp; exact hK _ _ (Below.refl _ _) rfl
      · have e0 : A_.tmps[6]?.getD undef = v17 := hb 6 (by kernel_rfl)
        clear hb hr; go_simp; exact hK _ _ (Below.refl _ _) rfl
      · have e0 : A_.tmps[30]?.getD undef = v12 := hr 30 (by kernel_rfl)
        have e1 : A_.tmps[31]?.getD undef = v17 := hr 31 (by kernel_rfl)
        clear hb hr; go_simp
        refine (OPR.out _ (NX.out.go hg) (NY.out.go hg)).mono ?_; rintro e w5 ⟨v5, rfl, hv5, hb5⟩
        exact hK _ _ hb5 hv5
      · have e0 : A_.tmps[7]?.getD undef = v22 := hb 7 (by kernel_rfl)
        clear hb hr; go_simp; exact hK _ _ (Below.refl _ _) rfl
      · have e0 : A_.tmps[29]?.getD undef = .bool s := hr 29 (by kernel_rfl)
        have h5 : RNum W (A_.tmps[32]?.getD undef) (n * c + m * d) := hr 32 (by kernel_rfl)
        have e2 : A_.tmps[33]?.getD undef = v22 := hr 33 (by kernel_rfl)
        have H5 := Lib.hid h5
        clear hb hr h5; go_simp
        refine (LWR.out _ _ H5.out (DEN.out.go hg)).mono ?_; rintro e w5 ⟨v5, rfl, hv5, hb5⟩
        exact hK _ _ hb5 hv5
    rintro g4 w14 hb14 ⟨-, -, -, -, -, -, h20, -⟩
    simp only [List.drop_succ_cons, List.drop_zero, List.take_succ_cons, List.take_zero, putHead, Option.getD_some, Act.put, List.setIfInBounds_toArray, List.set_cons_zero, List.set_cons_succ]
    replace h20 : RFrac w14 (g4 34) q.1 q.2.1 q.2.2 := h20
    generalize g4 34 = v20 at *
    obtain ⟨o7, k7, c7, o8, k8, c8, rfl, hqn, hqd⟩ := h20
    have HB9 := Lib.hid (bstep HB4.out hb14); have BR9 := Lib.hid (BR.out.go hb14); have QN := Lib.hid hqn; have QD := Lib.hid hqd
    clear hb14 hqn hqd
    obtain ⟨x0, x1, x2, f0, f1, f2⟩ := BR9.out.facts
    go_wp2_with fail
    obtain ⟨e0, e1, e2, hn9, hd9, hb9⟩ := boxq_ret (t := q.1) BR9.out QN.out QD.out HB9.out (by omega)
    refine bodyPost_ret (v := .agg #[.bool q.1, .slice o7 k7 c7, .slice o8 k8 c8]) ?_ rfl (QE.out _ _ ⟨_, rfl, ⟨_, _, _, _, _, _, rfl, hn9, hd9⟩, hb9⟩)
    simp [results, Try.f71, go_sem, e0, e1, e2]
  · have tst : (s == t) = false := by rw [beq_eq_false_iff_ne]; exact hst
    have HST := Lib.hid hst
    clear hst
    go_wp2_with fail
    refine (rcmp_any NX.out NY.out (by have := LX8.out; omega) (by have := LY8.out; omega)).mono ?_; rintro e w15 ⟨rfl, hb15⟩
    have NX3 := Lib.hid (NX.out.go hb15); have NY3 := Lib.hid (NY.out.go hb15); have DEN3 := Lib.hid (DEN.out.go hb15)
    have BA3 := Lib.hid (BA.out.go hb15); have BB3 := Lib.hid (BB.out.go hb15); have BR3 := Lib.hid (BR.out.go hb15); have HB5 := Lib.hid (bstep HB4.out hb15)
    clear hb15 NX NY DEN BA BB BR HB4 x0 y0 f0 g0 tst
    have NX := NX3; have NY := NY3; have DEN := DEN3; have BA := BA3; have BB := BB3; have BR := BR3; have HB4 := HB5
    clear NX3 NY3 DEN3 BA3 BB3 BR3 HB5
    by_cases hlt : n * c < m * d
    · have hcm : cmpN (n * c) (m * d) = -1 := by unfold cmpN; rw [if_pos hlt]
      rw [hcm]
      have HLE : Hid (n * c ≤ m * d) := by show _ ≤ _; omega
      have HLT := Lib.hid hlt
      have LX9 := LY
      clear hlt hcm
      go_wp2_with fail
      have OPR : Hid (∀ W, RNum W v17 (m * d) → RNum W v12 (n * c) → Calls Try.prog 113 #[v17, v12] W (RRet W (m * d - n * c))) := fun W h1 h2 => rsub_any h1 h2 (by have := HLE.out; omega) LX9.out
      have LWR0 : ∀ W v, RNum W v (m * d - n * c) → RNum W v22 (d * c) → Calls Try.prog 92 #[.bool t, v, v22] W (RRetQ W (lowQ t (m * d - n * c) (d * c))) := fun W v h1 h2 => lowest_any t h1 h2 DP.out (Nat.le_trans (rlen_mono (Nat.sub_le _ _)) (by have := LY8.out; omega)) LZ.out
      have QE : Hid (∀ e w', RRetQ w (lowQ t (m * d - n * c) (d * c)) e w' → RRetQ w (lowQ (addS s (n * c) t (m * d)) (addN s (n * c) t (m * d)) (d * c)) e w') := fun e w' h => by
        have e9 : lowQ (addS s (n * c) t (m * d)) (addN s (n * c) t (m * d)) (d * c) = lowQ t (m * d - n * c) (d * c) := by unfold addS addN; rw [if_neg HST.out, if_neg HST.out, if_pos HLT.out, if_pos HLT.out]
        rw [e9]; exact h
      obtain ⟨q, hq⟩ : ∃ q, q = lowQ t (m * d - n * c) (d * c) := ⟨_, rfl⟩
      rw [← hq] at LWR0 QE
      have LWR := Lib.hid LWR0
      clear LWR0 hq
      refine region_inv 7 53 [(46, Is (.pointer (some ⟨w.heap.size + 1, 0, none⟩))), (47, Is (.bool t)), (48, Is (v17)), (49, Is (v12)), (50, IsR (m * d - n * c)), (51, Is (v22)), (52, IsRF q.1 q.2.1 q.2.2)] (by kernel_rfl) rfl (by kernel_rfl) ?_ ?_
      · refine steps_cons rfl (fun A_ W hb hr hg K hK => ?_) <| steps_cons rfl (fun A_ W hb hr hg K hK => ?_) <| steps_cons rfl (fun A_ W hb hr hg K hK => ?_) <| steps_cons rfl (fun A_ W hb hr hg K hK => ?_) <| steps_cons rfl (fun A_ W hb hr hg K hK => ?_) <| steps_cons rfl (fun A_ W hb hr hg K hK => ?_) <| steps_cons rfl (fun A_ W hb hr hg K hK => ?_) trivial
        · have e0 : A_.tmps[3]?.getD undef = .pointer (some ⟨w.heap.size + 1, 0, none⟩) := hb 3 (by kernel_rfl)
          clear hb hr; go_simp; exact hK _ _ (Below.refl _ _) rfl
        · have e0 : A_.tmps[46]?.getD undef = .pointer (some ⟨w.heap.size + 1, 0, none⟩) := hr 46 (by kernel_rfl)
          have c0 := (BB.out.go hg).facts.1
          clear hb hr; go_simp; exact hK _ _ (Below.refl _ _) rfl
        · have e0 : A_.tmps[6]?.getD undef = v17 := hb 6 (by kernel_rfl)
          clear hb hr; go_simp; exact hK _ _ (Below.refl _ _) rfl
        · have e0 : A_.tmps[5]?.getD undef = v12 := hb 5 (by kernel_rfl)
          clear hb hr; go_simp; exact hK _ _ (Below.refl _ _) rfl
        · have e0 : A_.tmps[48]?.getD undef = v17 := hr 48 (by kernel_rfl)
          have e1 : A_.tmps[49]?.getD undef = v12 := hr 49 (by kernel_rfl)
          clear hb hr; go_simp
          refine (OPR.out _ (NY.out.go hg) (NX.out.go hg)).mono ?_; rintro e w5 ⟨v5, rfl, hv5, hb5⟩
          exact hK _ _ hb5 hv5
        · have e0 : A_.tmps[7]?.getD undef = v22 := hb 7 (by kernel_rfl)
          clear hb hr; go_simp; exact hK _ _ (Below.refl _ _) rfl
        · have e0 : A_.tmps[47]?.getD undef = .bool t := hr 47 (by kernel_rfl)
          have h5 : RNum W (A_.tmps[50]?.getD undef) (m * d - n * c) := hr 50 (by kernel_rfl)
          have e2 : A_.tmps[51]?.getD undef = v22 := hr 51 (by kernel_rfl)
          have H5 := Lib.hid h5
          clear hb hr h5; go_simp
          refine (LWR.out _ _ H5.out (DEN.out.go hg)).mono ?_; rintro e w5 ⟨v5, rfl, hv5, hb5⟩
          exact hK _ _ hb5 hv5
      rintro g4 w14 hb14 ⟨-, -, -, -, -, -, h20, -⟩
      simp only [List.drop_succ_cons, List.drop_zero, List.take_succ_cons, List.take_zero, putHead, Option.getD_some, Act.put, List.setIfInBounds_toArray, List.set_cons_zero, List.set_cons_succ]
      replace h20 : RFrac w14 (g4 52) q.1 q.2.1 q.2.2 := h20
      generalize g4 52 = v20 at *
      obtain ⟨o7, k7, c7, o8, k8, c8, rfl, hqn, hqd⟩ := h20
      have HB9 := Lib.hid (bstep HB4.out hb14); have BR9 := Lib.hid (BR.out.go hb14); have QN := Lib.hid hqn; have QD := Lib.hid hqd
      clear hb14 hqn hqd
      obtain ⟨x0, x1, x2, f0, f1, f2⟩ := BR9.out.facts
      go_wp2_with fail
      obtain ⟨e0, e1, e2, hn9, hd9, hb9⟩ := boxq_ret (t := q.1) BR9.out QN.out QD.out HB9.out (by omega)
      refine bodyPost_ret (v := .agg #[.bool q.1, .slice o7 k7 c7, .slice o8 k8 c8]) ?_ rfl (QE.out _ _ ⟨_, rfl, ⟨_, _, _, _, _, _, rfl, hn9, hd9⟩, hb9⟩)
      simp [results, Try.f71, go_sem, e0, e1, e2]
    · have hcx : ∃ c9 : Int, cmpN (n * c) (m * d) = c9 ∧ 0 ≤ c9 ∧ c9 ≤ 1 := by
        unfold cmpN
        rw [if_neg hlt]
        split
        · exact ⟨_, rfl, by omega, by omega⟩
        · exact ⟨_, rfl, by omega, by omega⟩
      obtain ⟨c9, hc9, hc90, hc91⟩ := hcx
      rw [hc9]
      have HLE : Hid (m * d ≤ n * c) := by show _ ≤ _; omega
      have HLT := Lib.hid hlt
      have LX9 := LX
      clear hlt hc9
      go_wp2_with fail
      have OPR : Hid (∀ W, RNum W v12 (n * c) → RNum W v17 (m * d) → Calls Try.prog 113 #[v12, v17] W (RRet W (n * c - m * d))) := fun W h1 h2 => rsub_any h1 h2 (by have := HLE.out; omega) LX9.out
      have LWR0 : ∀ W v, RNum W v (n * c - m * d) → RNum W v22 (d * c) → Calls Try.prog 92 #[.bool s, v, v22] W (RRetQ W (lowQ s (n * c - m * d) (d * c))) := fun W v h1 h2 => lowest_any s h1 h2 DP.out (Nat.le_trans (rlen_mono (Nat.sub_le _ _)) (by have := LX8.out; omega)) LZ.out
      have QE : Hid (∀ e w', RRetQ w (lowQ s (n * c - m * d) (d * c)) e w' → RRetQ w (lowQ (addS s (n * c) t (m * d)) (addN s (n * c) t (m * d)) (d * c)) e w') := fun e w' h => by
        have e9 : lowQ (addS s (n * c) t (m * d)) (addN s (n * c) t (m * d)) (d * c) = lowQ s (n * c - m * d) (d * c) := by unfold addS addN; rw [if_neg HST.out, if_neg HST.out, if_neg HLT.out, if_neg HLT.out]
        rw [e9]; exact h
      obtain ⟨q, hq⟩ : ∃ q, q = lowQ s (n * c - m * d) (d * c) := ⟨_, rfl⟩
      rw [← hq] at LWR0 QE
      have LWR := Lib.hid LWR0
      clear LWR0 hq
      refine region_inv 7 53 [(39, Is (.pointer (some ⟨w.heap.size, 0, none⟩))), (40, Is (.bool s)), (41, Is (v12)), (42, Is (v17)), (43, IsR (n * c - m * d)), (44, Is (v22)), (45, IsRF q.1 q.2.1 q.2.2)] (by kernel_rfl) rfl (by kernel_rfl) ?_ ?_
      · refine steps_cons rfl (fun A_ W hb hr hg K hK => ?_) <| steps_cons rfl (fun A_ W hb hr hg K hK => ?_) <| steps_cons rfl (fun A_ W hb hr hg K hK => ?_) <| steps_cons rfl (fun A_ W hb hr hg K hK => ?_) <| steps_cons rfl (fun A_ W hb hr hg K hK => ?_) <| steps_cons rfl (fun A_ W hb hr hg K hK => ?_) <| steps_cons rfl (fun A_ W hb hr hg K hK => ?_) trivial
        · have e0 : A_.tmps[2]?.getD undef = .pointer (some ⟨w.heap.size, 0, none⟩) := hb 2 (by kernel_rfl)
          clear hb hr; go_simp; exact hK _ _ (Below.refl _ _) rfl
        · have e0 : A_.tmps[39]?.getD undef = .pointer (some ⟨w.heap.size, 0, none⟩) := hr 39 (by kernel_rfl)
          have c0 := (BA.out.go hg).facts.1
          clear hb hr; go_simp; exact hK _ _ (Below.refl _ _) rfl
        · have e0 : A_.tmps[5]?.getD undef = v12 := hb 5 (by kernel_rfl)
          clear hb hr; go_simp; exact hK _ _ (Below.refl _ _) rfl
        · have e0 : A_.tmps[6]?.getD undef = v17 := hb 6 (by kernel_rfl)
          clear hb hr; go_simp; exact hK _ _ (Below.refl _ _) rfl
        · have e0 : A_.tmps[41]?.getD undef = v12 := hr 41 (by kernel_rfl)
          have e1 : A_.tmps[42]?.getD undef = v17 := hr 42 (by kernel_rfl)
          clear hb hr; go_simp
          refine (OPR.out _ (NX.out.go hg) (NY.out.go hg)).mono ?_; rintro e w5 ⟨v5, rfl, hv5, hb5⟩
          exact hK _ _ hb5 hv5
        · have e0 : A_.tmps[7]?.getD undef = v22 := hb 7 (by kernel_rfl)
          clear hb hr; go_simp; exact hK _ _ (Below.refl _ _) rfl
        · have e0 : A_.tmps[40]?.getD undef = .bool s := hr 40 (by kernel_rfl)
          have h5 : RNum W (A_.tmps[43]?.getD undef) (n * c - m * d) := hr 43 (by kernel_rfl)
          have e2 : A_.tmps[44]?.getD undef = v22 := hr 44 (by kernel_rfl)
          have H5 := Lib.hid h5
          clear hb hr h5; go_simp
          refine (LWR.out _ _ H5.out (DEN.out.go hg)).mono ?_; rintro e w5 ⟨v5, rfl, hv5, hb5⟩
          exact hK _ _ hb5 hv5
      rintro g4 w14 hb14 ⟨-, -, -, -, -, -, h20, -⟩
      simp only [List.drop_succ_cons, List.drop_zero, List.take_succ_cons, List.take_zero, putHead, Option.getD_some, Act.put, List.setIfInBounds_toArray, List.set_cons_zero, List.set_cons_succ]
      replace h20 : RFrac w14 (g4 45) q.1 q.2.1 q.2.2 := h20
      generalize g4 45 = v20 at *
      obtain ⟨o7, k7, c7, o8, k8, c8, rfl, hqn, hqd⟩ := h20
      have HB9 := Lib.hid (bstep HB4.out hb14); have BR9 := Lib.hid (BR.out.go hb14); have QN := Lib.hid hqn; have QD := Lib.hid hqd
      clear hb14 hqn hqd
      obtain ⟨x0, x1, x2, f0, f1, f2⟩ := BR9.out.facts
      go_wp2_with fail
      obtain ⟨e0, e1, e2, hn9, hd9, hb9⟩ := boxq_ret (t := q.1) BR9.out QN.out QD.out HB9.out (by omega)
      refine bodyPost_ret (v := .agg #[.bool q.1, .slice o7 k7 c7, .slice o8 k8 c8]) ?_ rfl (QE.out _ _ ⟨_, rfl, ⟨_, _, _, _, _, _, rfl, hn9, hd9⟩, hb9⟩)
      simp [results, Try.f71, go_sem, e0, e1, e2]

end Go.Proofs.Ytlkdahgfnfdakaa
