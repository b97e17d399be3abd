/- The reference's Down, Floor, Sign of texts. -/
import Derived.Test.YtlkdahgfnfdakaaRefX
namespace Go.Proofs.Ytlkdahgfnfdakaa
open Go Go.RowKit Go.Shelf WN LM

theorem low_int {s : Bool} {N : Nat} : lowQ s N 1 = (s && decide (N ≠ 0), N, 1) := by
  unfold lowQ; rw [Nat.gcd_one_right, Nat.div_one]

set_option maxHeartbeats 4000000 in
set_option maxRecDepth 100000 in
theorem rdown_any {w : World} {v : Value} {s : Bool} {n d : Nat} (h : RFrac w v s n d) (ln : RLen n ≤ 40000) (ld : RLen d ≤ 40000) (d0 : 0 < d) : Calls Try.prog 81 #[v] w (RRetQ w (floorQ (s, n, d))) := by
  have N1 : Hid (∀ W, Calls Try.prog 58 #[.int .u64 1] W (RRet W 1)) := fun W => natOf_any 1 (by omega) W
  obtain ⟨o1, k1, c1, o2, k2, c2, rfl, hn, hd⟩ := h
  obtain ⟨B1, bA, bR⟩ := boxesQ2 w (.bool s) (.slice o1 k1 c1) (.slice o2 k2 c2) (.bool false) (.slice none 0 0) (.slice none 0 0)
  have DV := Lib.hid (rdiv_any (hn.go B1) (hd.go B1) d0 (by omega) (by omega))
  have BA := Lib.hid bA; have BR := Lib.hid bR; have HB1 := Lib.hid B1
  have lq : RLen (n / d) ≤ 40000 := Nat.le_trans (rlen_mono (Nat.div_le_self _ _)) ln
  have ADD : Hid (∀ W v u, RNum W v (n / d) → RNum W u 1 → Calls Try.prog 112 #[v, u] W (RRet W (n / d + 1))) := fun W v u h1 h2 => radd_any h1 h2 (by omega) (by rw [rlen_one]; omega)
  have lq1 : RLen (n / d + 1) ≤ 40001 := Nat.le_trans (rlen_add _ _) (by rw [rlen_one]; omega)
  obtain ⟨x0, x1, x2, -, -, -⟩ := bA.facts
  have FQ : Hid (∀ N, floorN s n d = N → floorQ (s, n, d) = lowQ s N 1) := fun N h => by rw [low_int, ← h]; rfl
  have LW : Hid (∀ N, RLen N ≤ 40001 → ∀ W v u, RNum W v N → RNum W u 1 → Calls Try.prog 92 #[.bool s, v, u] W (RRetQ W (lowQ s N 1))) := fun N hN W v u h1 h2 => lowest_any s h1 h2 (by omega) (by omega) (by rw [rlen_one]; omega)
  have LQ : Hid (RLen (n / d) ≤ 40001) := Nat.le_trans lq (by omega)
  have LQ1 := Lib.hid lq1
  have FN : Hid ((s = false ∨ n % d = 0) → floorN s n d = n / d) := fun h => by
    unfold floorN
    rcases h with h | h
    · rw [h]; rfl
    · rw [h]; simp
  have FN1 : Hid (s = true → n % d ≠ 0 → floorN s n d = n / d + 1) := fun h1 h2 => by
    unfold floorN
    rw [h1, decide_eq_true h2]; rfl
  clear hn hd bA bR B1 ln ld d0 lq lq1
  go_enter Try.func81, Try.ntmps81
  go_wp2_with fail
  generalize ((w.alloc (.cells #[.bool s, .slice o1 k1 c1, .slice o2 k2 c2] 60)).alloc (.cells #[.bool false, .slice none 0 0, .slice none 0 0] 60)) = w1 at *
  refine DV.out.mono ?_; rintro e w2 ⟨v1, v2, rfl, hv1, hv2, hb2⟩
  have BA2 := Lib.hid (BA.out.go hb2); have BR2 := Lib.hid (BR.out.go hb2); have HBL0 := Lib.hid (bstep HB1.out hb2); have NQ := Lib.hid hv1
  obtain ⟨o9, c9, rfl⟩ := hv2.shape
  clear hb2 hv1 hv2 x0 x1 x2 BA BR DV
  obtain ⟨x0, x1, x2, -, -, -⟩ := BA2.out.facts
  obtain ⟨R, hR⟩ : ∃ R, RLen (n % d) = R := ⟨_, rfl⟩
  have HRz : Hid (R = 0 ↔ n % d = 0) := by rw [← hR]; exact rlen_eq_zero
  rw [hR]
  clear hR
  by_cases hup : s = true ∧ 0 < R
  · obtain ⟨hs, hr⟩ := hup
    obtain ⟨q, hq⟩ : ∃ q, q = floorQ (s, n, d) := ⟨_, rfl⟩
    have LWR : Hid (∀ W v u, RNum W v (n / d + 1) → RNum W u 1 → Calls Try.prog 92 #[.bool s, v, u] W (RRetQ W q)) := by
      have h9 := FN1.out hs (fun h => by have := HRz.out.2 h; omega)
      rw [hq, FQ.out _ h9]; exact LW.out _ LQ1.out
    have QE : Hid (∀ e w', RRetQ w q e w' → RRetQ w (floorQ (s, n, d)) e w') := fun e w' h => by rw [← hq]; exact h
    clear hq FN FN1 FQ LW LQ LQ1 HRz
    subst hs
    go_wp2_with fail
    refine (N1.out _).mono ?_; rintro e w3 ⟨v3, rfl, hv3, hb3⟩
    have BA3 := Lib.hid (BA2.out.go hb3); have BR3 := Lib.hid (BR2.out.go hb3); have HBL1 := Lib.hid (bstep HBL0.out hb3); have NQ3 := Lib.hid (NQ.out.go hb3); have HV3 := Lib.hid hv3
    clear hb3 hv3
    go_wp2_with fail
    refine (ADD.out _ _ _ NQ3.out HV3.out).mono ?_; rintro e w4 ⟨v4, rfl, hv4, hb4⟩
    have BA := Lib.hid (BA3.out.go hb4); have BR := Lib.hid (BR3.out.go hb4); have HBL := Lib.hid (bstep HBL1.out hb4); have NQ4 := Lib.hid hv4
    clear hb4 hv4 x0 x1 x2
    go_wp2_with fail
    refine region_inv 5 28 [(23, Is (.pointer (some ⟨w.heap.size, 0, none⟩))), (24, Is (.bool true)), (25, Is (v4)), (26, IsR 1), (27, IsRF q.1 q.2.1 q.2.2)] (by kernel_rfl) rfl (by kernel_rfl) ?_ ?_
    · refine steps_cons rfl (fun A_ W hb hr hg K hK => ?_) <| steps_cons rfl (fun A_ W hb hr hg K hK => ?_) <| steps_cons rfl (fun A_ W hb hr hg K hK => ?_) <| steps_cons rfl (fun A_ W hb hr hg K hK => ?_) <| steps_cons rfl (fun A_ W hb hr hg K hK => ?_) trivial
      · have e0 : A_.tmps[1]?.getD undef = .pointer (some ⟨w.heap.size, 0, none⟩) := hb 1 (by kernel_rfl)
        clear hb hr; go_simp; exact hK _ _ (Below.refl _ _) rfl
      · have e0 : A_.tmps[23]?.getD undef = .pointer (some ⟨w.heap.size, 0, none⟩) := hr 23 (by kernel_rfl)
        have c0 := (BA.out.go hg).facts.1
        clear hb hr; go_simp; exact hK _ _ (Below.refl _ _) rfl
      · have e0 : A_.tmps[3]?.getD undef = v4 := hb 3 (by kernel_rfl)
        clear hb hr; go_simp; exact hK _ _ (Below.refl _ _) rfl
      · clear hb hr; go_simp
        refine (N1.out W).mono ?_; rintro e w5 ⟨v5, rfl, hv5, hb5⟩
        exact hK _ _ hb5 hv5
      · have e0 : A_.tmps[24]?.getD undef = .bool true := hr 24 (by kernel_rfl)
        have e1 : A_.tmps[25]?.getD undef = v4 := hr 25 (by kernel_rfl)
        have h5 : RNum W (A_.tmps[26]?.getD undef) 1 := hr 26 (by kernel_rfl)
        have H5 := Lib.hid h5
        clear hb hr h5; go_simp
        refine (LWR.out _ _ _ (NQ4.out.go hg) H5.out).mono ?_; rintro e w5 ⟨v5, rfl, hv5, hb5⟩
        exact hK _ _ hb5 hv5
    rintro g4 w14 hb14 ⟨-, -, -, -, h20, -⟩
    simp only [List.drop_succ_cons, List.drop_zero, List.take_succ_cons, List.take_zero, putHead, Option.getD_some, Act.put, List.setIfInBounds_toArray, List.set_cons_zero, List.set_cons_succ]
    replace h20 : RFrac w14 (g4 27) q.1 q.2.1 q.2.2 := h20
    generalize g4 27 = v20 at *
    obtain ⟨o7, k7, c7, o8, k8, c8, rfl, hqn, hqd⟩ := h20
    have HB9 := Lib.hid (bstep HBL.out hb14); have BR9 := Lib.hid (BR.out.go hb14); have QN := Lib.hid hqn; have QD := Lib.hid hqd
    clear hb14 hqn hqd
    obtain ⟨x0, x1, x2, f0, f1, f2⟩ := BR9.out.facts
    go_wp2_with fail
    obtain ⟨e0, e1, e2, hn9, hd9, hb9⟩ := boxq_ret (t := q.1) BR9.out QN.out QD.out HB9.out (by omega)
    refine bodyPost_ret (v := .agg #[.bool q.1, .slice o7 k7 c7, .slice o8 k8 c8]) ?_ rfl (QE.out _ _ ⟨_, rfl, ⟨_, _, _, _, _, _, rfl, hn9, hd9⟩, hb9⟩)
    simp [results, Try.f81, go_sem, e0, e1, e2]
  · obtain ⟨q, hq⟩ : ∃ q, q = floorQ (s, n, d) := ⟨_, rfl⟩
    have LWR : Hid (∀ W v u, RNum W v (n / d) → RNum W u 1 → Calls Try.prog 92 #[.bool s, v, u] W (RRetQ W q)) := by
      have h9 := FN.out (by
        cases s
        · exact Or.inl rfl
        · right; exact HRz.out.1 (by by_cases h : 0 < R; exact absurd ⟨rfl, h⟩ hup; omega))
      rw [hq, FQ.out _ h9]; exact LW.out _ LQ.out
    have QE : Hid (∀ e w', RRetQ w q e w' → RRetQ w (floorQ (s, n, d)) e w') := fun e w' h => by rw [← hq]; exact h
    clear hq FN FN1 FQ LW LQ LQ1 HRz
    have BA := BA2; have BR := BR2; have HBL := HBL0
    clear BA2 BR2 HBL0
    cases s
    · go_wp2_with fail
      clear x0 x1 x2 hup
      refine region_inv 5 28 [(23, Is (.pointer (some ⟨w.heap.size, 0, none⟩))), (24, Is (.bool false)), (25, Is (v1)), (26, IsR 1), (27, IsRF q.1 q.2.1 q.2.2)] (by kernel_rfl) rfl (by kernel_rfl) ?_ ?_
      · refine steps_cons rfl (fun A_ W hb hr hg K hK => ?_) <| steps_cons rfl (fun A_ W hb hr hg K hK => ?_) <| steps_cons rfl (fun A_ W hb hr hg K hK => ?_) <| steps_cons rfl (fun A_ W hb hr hg K hK => ?_) <| steps_cons rfl (fun A_ W hb hr hg K hK => ?_) trivial
        · have e0 : A_.tmps[1]?.getD undef = .pointer (some ⟨w.heap.size, 0, none⟩) := hb 1 (by kernel_rfl)
          clear hb hr; go_simp; exact hK _ _ (Below.refl _ _) rfl
        · have e0 : A_.tmps[23]?.getD undef = .pointer (some ⟨w.heap.size, 0, none⟩) := hr 23 (by kernel_rfl)
          have c0 := (BA.out.go hg).facts.1
          clear hb hr; go_simp; exact hK _ _ (Below.refl _ _) rfl
        · have e0 : A_.tmps[3]?.getD undef = v1 := hb 3 (by kernel_rfl)
          clear hb hr; go_simp; exact hK _ _ (Below.refl _ _) rfl
        · clear hb hr; go_simp
          refine (N1.out W).mono ?_; rintro e w5 ⟨v5, rfl, hv5, hb5⟩
          exact hK _ _ hb5 hv5
        · have e0 : A_.tmps[24]?.getD undef = .bool false := hr 24 (by kernel_rfl)
          have e1 : A_.tmps[25]?.getD undef = v1 := hr 25 (by kernel_rfl)
          have h5 : RNum W (A_.tmps[26]?.getD undef) 1 := hr 26 (by kernel_rfl)
          have H5 := Lib.hid h5
          clear hb hr h5; go_simp
          refine (LWR.out _ _ _ (NQ.out.go hg) H5.out).mono ?_; rintro e w5 ⟨v5, rfl, hv5, hb5⟩
          exact hK _ _ hb5 hv5
      rintro g4 w14 hb14 ⟨-, -, -, -, h20, -⟩
      simp only [List.drop_succ_cons, List.drop_zero, List.take_succ_cons, List.take_zero, putHead, Option.getD_some, Act.put, List.setIfInBounds_toArray, List.set_cons_zero, List.set_cons_succ]
      replace h20 : RFrac w14 (g4 27) q.1 q.2.1 q.2.2 := h20
      generalize g4 27 = v20 at *
      obtain ⟨o7, k7, c7, o8, k8, c8, rfl, hqn, hqd⟩ := h20
      have HB9 := Lib.hid (bstep HBL.out hb14); have BR9 := Lib.hid (BR.out.go hb14); have QN := Lib.hid hqn; have QD := Lib.hid hqd
      clear hb14 hqn hqd
      obtain ⟨x0, x1, x2, f0, f1, f2⟩ := BR9.out.facts
      go_wp2_with fail
      obtain ⟨e0, e1, e2, hn9, hd9, hb9⟩ := boxq_ret (t := q.1) BR9.out QN.out QD.out HB9.out (by omega)
      refine bodyPost_ret (v := .agg #[.bool q.1, .slice o7 k7 c7, .slice o8 k8 c8]) ?_ rfl (QE.out _ _ ⟨_, rfl, ⟨_, _, _, _, _, _, rfl, hn9, hd9⟩, hb9⟩)
      simp [results, Try.f81, go_sem, e0, e1, e2]
    · have hR0 : R = 0 := by by_cases h : 0 < R; exact absurd ⟨rfl, h⟩ hup; omega
      subst hR0
      clear hup
      go_wp2_with fail
      clear x0 x1 x2
      refine region_inv 5 28 [(23, Is (.pointer (some ⟨w.heap.size, 0, none⟩))), (24, Is (.bool true)), (25, Is (v1)), (26, IsR 1), (27, IsRF q.1 q.2.1 q.2.2)] (by kernel_rfl) rfl (by kernel_rfl) ?_ ?_
      · refine steps_cons rfl (fun A_ W hb hr hg K hK => ?_) <| steps_cons rfl (fun A_ W hb hr hg K hK => ?_) <| steps_cons rfl (fun A_ W hb hr hg K hK => ?_) <| steps_cons rfl (fun A_ W hb hr hg K hK => ?_) <| steps_cons rfl (fun A_ W hb hr hg K hK => ?_) trivial
        · have e0 : A_.tmps[1]?.getD undef = .pointer (some ⟨w.heap.size, 0, none⟩) := hb 1 (by kernel_rfl)
          clear hb hr; go_simp; exact hK _ _ (Below.refl _ _) rfl
        · have e0 : A_.tmps[23]?.getD undef = .pointer (some ⟨w.heap.size, 0, none⟩) := hr 23 (by kernel_rfl)
          have c0 := (BA.out.go hg).facts.1
          clear hb hr; go_simp; exact hK _ _ (Below.refl _ _) rfl
        · have e0 : A_.tmps[3]?.getD undef = v1 := hb 3 (by kernel_rfl)
          clear hb hr; go_simp; exact hK _ _ (Below.refl _ _) rfl
        · clear hb hr; go_simp
          refine (N1.out W).mono ?_; rintro e w5 ⟨v5, rfl, hv5, hb5⟩
          exact hK _ _ hb5 hv5
        · have e0 : A_.tmps[24]?.getD undef = .bool true := hr 24 (by kernel_rfl)
          have e1 : A_.tmps[25]?.getD undef = v1 := hr 25 (by kernel_rfl)
          have h5 : RNum W (A_.tmps[26]?.getD undef) 1 := hr 26 (by kernel_rfl)
          have H5 := Lib.hid h5
          clear hb hr h5; go_simp
          refine (LWR.out _ _ _ (NQ.out.go hg) H5.out).mono ?_; rintro e w5 ⟨v5, rfl, hv5, hb5⟩
          exact hK _ _ hb5 hv5
      rintro g4 w14 hb14 ⟨-, -, -, -, h20, -⟩
      simp only [List.drop_succ_cons, List.drop_zero, List.take_succ_cons, List.take_zero, putHead, Option.getD_some, Act.put, List.setIfInBounds_toArray, List.set_cons_zero, List.set_cons_succ]
      replace h20 : RFrac w14 (g4 27) q.1 q.2.1 q.2.2 := h20
      generalize g4 27 = v20 at *
      obtain ⟨o7, k7, c7, o8, k8, c8, rfl, hqn, hqd⟩ := h20
      have HB9 := Lib.hid (bstep HBL.out hb14); have BR9 := Lib.hid (BR.out.go hb14); have QN := Lib.hid hqn; have QD := Lib.hid hqd
      clear hb14 hqn hqd
      obtain ⟨x0, x1, x2, f0, f1, f2⟩ := BR9.out.facts
      go_wp2_with fail
      obtain ⟨e0, e1, e2, hn9, hd9, hb9⟩ := boxq_ret (t := q.1) BR9.out QN.out QD.out HB9.out (by omega)
      refine bodyPost_ret (v := .agg #[.bool q.1, .slice o7 k7 c7, .slice o8 k8 c8]) ?_ rfl (QE.out _ _ ⟨_, rfl, ⟨_, _, _, _, _, _, rfl, hn9, hd9⟩, hb9⟩)
      simp [results, Try.f81, go_sem, e0, e1, e2]

set_option maxHeartbeats 4000000 in
set_option maxRecDepth 100000 in
theorem rFloor_any (w : World) (a : ByteArray) (ha : a.size ≤ 140737488355328) : Calls Try.prog 34 #[.string a] w (OutS w (floorT a)) := by
  have RA := Lib.hid (rread_any a w ha)
  clear ha
  go_enter Try.func34, Try.ntmps34
  go_wp2_with fail
  refine RA.out.mono ?_; rintro e w1 ⟨v1, hb1, h⟩
  have HB1 := Lib.hid hb1; clear hb1
  cases hp : readQ a.data.toList with
  | none =>
    rw [hp] at h
    have HR : Hid (floorT a = ((⟨#[]⟩ : ByteArray), (1 : Int))) := by show _ = _; unfold floorT oneT; rw [hp]
    obtain ⟨rfl, rfl⟩ := h
    clear hp
    have HB2 := Lib.hid (bstep HB1.out (below_alloc w1 (.cells #[.bool false, .slice none 0 0, .slice none 0 0] 60)))
    go_wp2_with fail
    go_ret2
    exact ⟨by rw [HR.out]; rfl, HB2.out⟩
  | some p =>
    rw [hp] at h
    obtain ⟨rfl, o1, k1, c1, o2, k2, c2, rfl, hn, hd⟩ := h
    have b1 := below_alloc w1 (.cells #[.bool p.1, .slice o1 k1 c1, .slice o2 k2 c2] 60)
    have HB2 := Lib.hid (bstep HB1.out b1)
    have FP : Hid (RFrac (w1.alloc (.cells #[.bool p.1, .slice o1 k1 c1, .slice o2 k2 c2] 60)) (.agg #[.bool p.1, .slice o1 k1 c1, .slice o2 k2 c2]) p.1 p.2.1 p.2.2) := ⟨_, _, _, _, _, _, rfl, hn.go b1, hd.go b1⟩
    obtain ⟨x0, x1, x2, -, -, -⟩ := (BoxQ.new w1 (.bool p.1) (.slice o1 k1 c1) (.slice o2 k2 c2)).facts
    have cp := readQ_can hp
    obtain ⟨s1, s2⟩ := read_small hp
    clear hn hd b1
    have HR : Hid (floorT a = out3 (floorQ p)) := by show _ = _; unfold floorT oneT; rw [hp]
    have OP : Hid (∀ W v, RFrac W v p.1 p.2.1 p.2.2 → Calls Try.prog 81 #[v] W (RRetQ W (floorQ p))) := fun W v h => rdown_any h (Nat.le_trans s1 (by omega)) (Nat.le_trans s2 (by omega)) cp.1
    have SM : RLen (floorQ p).2.1 ≤ 1000 ∧ RLen (floorQ p).2.2 ≤ 1000 := by
      have h1 : floorN p.1 p.2.1 p.2.2 ≤ p.2.1 + 1 := by
        have := Nat.div_le_self p.2.1 p.2.2
        unfold floorN; split <;> omega
      have h2 := rlen_add p.2.1 1
      refine ⟨Nat.le_trans (rlen_mono h1) ?_, ?_⟩
      · rw [rlen_one] at h2; omega
      · show RLen 1 ≤ 1000
        rw [rlen_one]; omega
    have OT : Hid (∀ W v, RFrac W v (floorQ p).1 (floorQ p).2.1 (floorQ p).2.2 → Calls Try.prog 68 #[v] W (OutS W (out3 (floorQ p)))) := fun W v h => rout_any h (by omega) (by omega)
    clear hp cp s1 s2 SM
    generalize floorQ p = r at *
    generalize out3 r = x at *
    go_wp2_with fail
    refine (OP.out _ _ FP.out).mono ?_; rintro e w3 ⟨v3, rfl, hv3, hb3⟩
    have HV3 := Lib.hid hv3; have HB5 := Lib.hid (bstep HB2.out hb3); clear hv3 hb3
    go_wp2_with fail
    refine (OT.out _ _ HV3.out).mono ?_; rintro e w4 ⟨rfl, hb4⟩
    have HB6 := Lib.hid (bstep HB5.out hb4); clear hb4
    go_wp2_with fail
    go_ret2
    exact ⟨by rw [HR.out]; rfl, HB6.out⟩

set_option maxHeartbeats 4000000 in
set_option maxRecDepth 100000 in
theorem rSign_any (w : World) (a : ByteArray) (ha : a.size ≤ 140737488355328) : Calls Try.prog 40 #[.string a] w (OutI w (signT a)) := by
  have RA := Lib.hid (rread_any a w ha)
  clear ha
  go_enter Try.func40, Try.ntmps40
  go_wp2_with fail
  refine RA.out.mono ?_; rintro e w1 ⟨v1, hb1, h⟩
  have HB1 := Lib.hid hb1; clear hb1
  cases hp : readQ a.data.toList with
  | none =>
    rw [hp] at h
    have HR : Hid (signT a = ((0 : Int), (1 : Int))) := by show _ = _; unfold signT oneG; rw [hp]
    obtain ⟨rfl, rfl⟩ := h
    clear hp
    have HB2 := Lib.hid (bstep HB1.out (below_alloc w1 (.cells #[.bool false, .slice none 0 0, .slice none 0 0] 60)))
    go_wp2_with fail
    go_ret2
    exact ⟨by rw [HR.out]; rfl, HB2.out⟩
  | some p =>
    rw [hp] at h
    obtain ⟨rfl, o1, k1, c1, o2, k2, c2, rfl, hn, hd⟩ := h
    have b1 := below_alloc w1 (.cells #[.bool p.1, .slice o1 k1 c1, .slice o2 k2 c2] 60)
    have HB2 := Lib.hid (bstep HB1.out b1)
    have FP : Hid (RFrac (w1.alloc (.cells #[.bool p.1, .slice o1 k1 c1, .slice o2 k2 c2] 60)) (.agg #[.bool p.1, .slice o1 k1 c1, .slice o2 k2 c2]) p.1 p.2.1 p.2.2) := ⟨_, _, _, _, _, _, rfl, hn.go b1, hd.go b1⟩
    obtain ⟨x0, x1, x2, -, -, -⟩ := (BoxQ.new w1 (.bool p.1) (.slice o1 k1 c1) (.slice o2 k2 c2)).facts
    have cp := readQ_can hp
    obtain ⟨s1, s2⟩ := read_small hp
    clear hn hd b1
    have HR : Hid (signT a = (signQ p, 0)) := by show _ = _; unfold signT oneG; rw [hp]
    have OP : Hid (∀ W v, RFrac W v p.1 p.2.1 p.2.2 → Calls Try.prog 86 #[v] W fun e w' => e = .returned (.int .i64 (signQ p)) ∧ Below W.heap.size W w') := fun W v h => rsign_any h cp.2.2
    clear hp cp s1 s2
    generalize signQ p = r at *
    go_wp2_with fail
    refine (OP.out _ _ FP.out).mono ?_; rintro e w3 ⟨rfl, hb3⟩
    have HB5 := Lib.hid (bstep HB2.out hb3); clear hb3
    go_wp2_with fail
    go_ret2
    exact ⟨by rw [HR.out]; rfl, HB5.out⟩
end Go.Proofs.Ytlkdahgfnfdakaa
