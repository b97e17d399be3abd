/- The reference's Times, Over, Of, Make. -/
import Derived.Test.YtlkdahgfnfdakaaRefR
namespace Go.Proofs.Ytlkdahgfnfdakaa
open Go Go.RowKit Go.Shelf WN LM

theorem boxesQ3 (w : World) (a0 a1 a2 b0 b1 b2 r0 r1 r2 : Value) :
    Below w.heap.size w (((w.alloc (.cells #[a0, a1, a2] 60)).alloc (.cells #[b0, b1, b2] 60)).alloc (.cells #[r0, r1, r2] 60)) ∧
    BoxQ (((w.alloc (.cells #[a0, a1, a2] 60)).alloc (.cells #[b0, b1, b2] 60)).alloc (.cells #[r0, r1, r2] 60)) w.heap.size a0 a1 a2 ∧
    BoxQ (((w.alloc (.cells #[a0, a1, a2] 60)).alloc (.cells #[b0, b1, b2] 60)).alloc (.cells #[r0, r1, r2] 60)) (w.heap.size + 1) b0 b1 b2 ∧
    BoxQ (((w.alloc (.cells #[a0, a1, a2] 60)).alloc (.cells #[b0, b1, b2] 60)).alloc (.cells #[r0, r1, r2] 60)) (w.heap.size + 2) r0 r1 r2 := by
  have s1 : (w.alloc (.cells #[a0, a1, a2] 60)).heap.size = w.heap.size + 1 := by simp
  have s2 : ((w.alloc (.cells #[a0, a1, a2] 60)).alloc (.cells #[b0, b1, b2] 60)).heap.size = w.heap.size + 2 := by simp
  refine ⟨(((Below.refl _ w).alloc (Nat.le_refl _) _).alloc (by omega) _).alloc (by omega) _, ?_, ?_, ?_⟩
  · exact (alloc_lt _ _ _ (by omega)).trans ((alloc_lt _ _ _ (by omega)).trans (BoxQ.new w a0 a1 a2))
  · exact (alloc_lt _ _ _ (by omega)).trans (by have := BoxQ.new (w.alloc (.cells #[a0, a1, a2] 60)) b0 b1 b2; rwa [s1] at this)
  · have := BoxQ.new ((w.alloc (.cells #[a0, a1, a2] 60)).alloc (.cells #[b0, b1, b2] 60)) r0 r1 r2; rwa [s2] at this

set_option maxHeartbeats 4000000 in
set_option maxRecDepth 100000 in
theorem rtimes_any {w : World} {v u : Value} {s t : Bool} {n d m c : Nat} (h : RFrac w v s n d) (k : RFrac w u t m c) (ln : RLen n ≤ 40000) (ld : RLen d ≤ 40000) (lm : RLen m ≤ 40000) (lc : RLen c ≤ 40000) (d0 : 0 < d) (p0 : 0 < c) :
    Calls Try.prog 74 #[v, u] w (RRetQ w (lowQ (s != t) (n * m) (d * c))) := by
  obtain ⟨o1, k1, c1, o2, k2, c2, rfl, hn, hd⟩ := h
  obtain ⟨o3, k3, c3, o4, k4, c4, rfl, hm, hc⟩ := k
  obtain ⟨B1, bA, bB, bR⟩ := boxesQ3 w (.bool s) (.slice o1 k1 c1) (.slice o2 k2 c2) (.bool t) (.slice o3 k3 c3) (.slice o4 k4 c4) (.bool false) (.slice none 0 0) (.slice none 0 0)
  have HN := Lib.hid (hn.go B1); have HD := Lib.hid (hd.go B1); have HM := Lib.hid (hm.go B1); have HC := Lib.hid (hc.go B1)
  have BA := Lib.hid bA; have BB := Lib.hid bB; have BR := Lib.hid bR; have HB1 := Lib.hid B1
  have LN : Hid (RLen n ≤ 1000000) := Nat.le_trans ln (by omega)
  have LD : Hid (RLen d ≤ 1000000) := Nat.le_trans ld (by omega)
  have LM : Hid (RLen m ≤ 1000000) := Nat.le_trans lm (by omega)
  have LC : Hid (RLen c ≤ 1000000) := Nat.le_trans lc (by omega)
  have LW : Hid (∀ W v u, RNum W v (n * m) → RNum W u (d * c) → Calls Try.prog 92 #[.bool (s != t), v, u] W (RRetQ W (lowQ (s != t) (n * m) (d * c)))) := fun W v u h1 h2 => lowest_any (s != t) h1 h2 (Nat.mul_pos d0 p0) (Nat.le_trans (rlen_mul _ _) (by omega)) (Nat.le_trans (rlen_mul _ _) (by omega))
  clear hn hd hm hc bA bB bR B1 ln ld lm lc d0 p0
  go_enter Try.func74, Try.ntmps74
  go_wp2_with fail
  generalize ((w.alloc (.cells #[.bool s, .slice o1 k1 c1, .slice o2 k2 c2] 60)).alloc (.cells #[.bool t, .slice o3 k3 c3, .slice o4 k4 c4] 60)).alloc (.cells #[.bool false, .slice none 0 0, .slice none 0 0] 60) = w1 at *
  refine region_inv 16 21 [(5, Is (.pointer (some ⟨w.heap.size, 0, none⟩))), (6, Is (.bool s)), (7, Is (.pointer (some ⟨w.heap.size + 1, 0, none⟩))), (8, Is (.bool t)), (9, Is (.bool (s != t))), (10, Is (.pointer (some ⟨w.heap.size, 1, none⟩))), (11, Is (.slice o1 k1 c1)), (12, Is (.pointer (some ⟨w.heap.size + 1, 1, none⟩))), (13, Is (.slice o3 k3 c3)), (14, IsR (n * m)), (15, Is (.pointer (some ⟨w.heap.size, 2, none⟩))), (16, Is (.slice o2 k2 c2)), (17, Is (.pointer (some ⟨w.heap.size + 1, 2, none⟩))), (18, Is (.slice o4 k4 c4)), (19, IsR (d * c)), (20, IsRF (lowQ (s != t) (n * m) (d * c)).1 (lowQ (s != t) (n * m) (d * c)).2.1 (lowQ (s != t) (n * m) (d * c)).2.2)] (by kernel_rfl) rfl (by kernel_rfl) ?_ ?_
  · refine steps_cons rfl (fun A_ W hb hr hg K hK => ?_) <| steps_cons rfl (fun A_ W hb hr hg K hK => ?_) <| steps_cons rfl (fun A_ W hb hr hg K hK => ?_) <| steps_cons rfl (fun A_ W hb hr hg K hK => ?_) <| steps_cons rfl (fun A_ W hb hr hg K hK => ?_) <| steps_cons rfl (fun A_ W hb hr hg K hK => ?_) <| steps_cons rfl (fun A_ W hb hr hg K hK => ?_) <| steps_cons rfl (fun A_ W hb hr hg K hK => ?_) <| steps_cons rfl (fun A_ W hb hr hg K hK => ?_) <| steps_cons rfl (fun A_ W hb hr hg K hK => ?_) <| steps_cons rfl (fun A_ W hb hr hg K hK => ?_) <| steps_cons rfl (fun A_ W hb hr hg K hK => ?_) <| steps_cons rfl (fun A_ W hb hr hg K hK => ?_) <| steps_cons rfl (fun A_ W hb hr hg K hK => ?_) <| steps_cons rfl (fun A_ W hb hr hg K hK => ?_) <| steps_cons rfl (fun A_ W hb hr hg K hK => ?_) trivial
    · have e0 : A_.tmps[2]?.getD undef = .pointer (some ⟨w.heap.size, 0, none⟩) := hb 2 (by kernel_rfl)
      clear hb hr; go_simp; exact hK _ _ (Below.refl _ _) rfl
    · have e0 : A_.tmps[5]?.getD undef = .pointer (some ⟨w.heap.size, 0, none⟩) := hr 5 (by kernel_rfl)
      have c0 := (BA.out.go hg).facts.1
      clear hb hr; go_simp; exact hK _ _ (Below.refl _ _) rfl
    · have e0 : A_.tmps[3]?.getD undef = .pointer (some ⟨w.heap.size + 1, 0, none⟩) := hb 3 (by kernel_rfl)
      clear hb hr; go_simp; exact hK _ _ (Below.refl _ _) rfl
    · have e0 : A_.tmps[7]?.getD undef = .pointer (some ⟨w.heap.size + 1, 0, none⟩) := hr 7 (by kernel_rfl)
      have c0 := (BB.out.go hg).facts.1
      clear hb hr; go_simp; exact hK _ _ (Below.refl _ _) rfl
    · have e0 : A_.tmps[6]?.getD undef = .bool s := hr 6 (by kernel_rfl)
      have e1 : A_.tmps[8]?.getD undef = .bool t := hr 8 (by kernel_rfl)
      clear hb hr; go_simp; exact hK _ _ (Below.refl _ _) rfl
    · have e0 : A_.tmps[2]?.getD undef = .pointer (some ⟨w.heap.size, 0, none⟩) := hb 2 (by kernel_rfl)
      clear hb hr; go_simp; exact hK _ _ (Below.refl _ _) rfl
    · have e0 : A_.tmps[10]?.getD undef = .pointer (some ⟨w.heap.size, 1, none⟩) := hr 10 (by kernel_rfl)
      have c0 := (BA.out.go hg).facts.2.1
      clear hb hr; go_simp; exact hK _ _ (Below.refl _ _) rfl
    · have e0 : A_.tmps[3]?.getD undef = .pointer (some ⟨w.heap.size + 1, 0, none⟩) := hb 3 (by kernel_rfl)
      clear hb hr; go_simp; exact hK _ _ (Below.refl _ _) rfl
    · have e0 : A_.tmps[12]?.getD undef = .pointer (some ⟨w.heap.size + 1, 1, none⟩) := hr 12 (by kernel_rfl)
      have c0 := (BB.out.go hg).facts.2.1
      clear hb hr; go_simp; exact hK _ _ (Below.refl _ _) rfl
    · have e0 : A_.tmps[11]?.getD undef = .slice o1 k1 c1 := hr 11 (by kernel_rfl)
      have e1 : A_.tmps[13]?.getD undef = .slice o3 k3 c3 := hr 13 (by kernel_rfl)
      clear hb hr; go_simp
      refine (rmul_any (HN.out.go hg) (HM.out.go hg) LN.out LM.out).mono ?_; rintro e w5 ⟨v5, rfl, hv5, hb5⟩
      exact hK _ _ hb5 hv5
    · have e0 : A_.tmps[2]?.getD undef = .pointer (some ⟨w.heap.size, 0, none⟩) := hb 2 (by kernel_rfl)
      clear hb hr; go_simp; exact hK _ _ (Below.refl _ _) rfl
    · have e0 : A_.tmps[15]?.getD undef = .pointer (some ⟨w.heap.size, 2, none⟩) := hr 15 (by kernel_rfl)
      have c0 := (BA.out.go hg).facts.2.2.1
      clear hb hr; go_simp; exact hK _ _ (Below.refl _ _) rfl
    · have e0 : A_.tmps[3]?.getD undef = .pointer (some ⟨w.heap.size + 1, 0, none⟩) := hb 3 (by kernel_rfl)
      clear hb hr; go_simp; exact hK _ _ (Below.refl _ _) rfl
    · have e0 : A_.tmps[17]?.getD undef = .pointer (some ⟨w.heap.size + 1, 2, none⟩) := hr 17 (by kernel_rfl)
      have c0 := (BB.out.go hg).facts.2.2.1
      clear hb hr; go_simp; exact hK _ _ (Below.refl _ _) rfl
    · have e0 : A_.tmps[16]?.getD undef = .slice o2 k2 c2 := hr 16 (by kernel_rfl)
      have e1 : A_.tmps[18]?.getD undef = .slice o4 k4 c4 := hr 18 (by kernel_rfl)
      clear hb hr; go_simp
      refine (rmul_any (HD.out.go hg) (HC.out.go hg) LD.out LC.out).mono ?_; rintro e w5 ⟨v5, rfl, hv5, hb5⟩
      exact hK _ _ hb5 hv5
    · have e0 : A_.tmps[9]?.getD undef = .bool (s != t) := hr 9 (by kernel_rfl)
      have h5 : RNum W (A_.tmps[14]?.getD undef) (n * m) := hr 14 (by kernel_rfl)
      have h6 : RNum W (A_.tmps[19]?.getD undef) (d * c) := hr 19 (by kernel_rfl)
      have H5 := Lib.hid h5; have H6 := Lib.hid h6
      clear hb hr h5 h6; go_simp
      refine (LW.out _ _ _ H5.out H6.out).mono ?_; rintro e w5 ⟨v5, rfl, hv5, hb5⟩
      exact hK _ _ hb5 hv5
  rintro g4 w14 hb14 ⟨-, -, -, -, -, -, -, -, -, -, -, -, -, -, -, h20, -⟩
  simp only [List.drop_succ_cons, List.drop_zero, List.take_succ_cons, List.take_zero, putHead, Option.getD_some, Act.put, List.setIfInBounds_toArray, List.set_cons_zero, List.set_cons_succ]
  replace h20 : RFrac w14 (g4 20) (lowQ (s != t) (n * m) (d * c)).1 (lowQ (s != t) (n * m) (d * c)).2.1 (lowQ (s != t) (n * m) (d * c)).2.2 := h20
  generalize g4 20 = v20 at *
  have HQ : Hid (∀ e w', RRetQ w (lowQ (s != t) (n * m) (d * c)) e w' → RRetQ w (lowQ (s != t) (n * m) (d * c)) e w') := fun _ _ h => h
  generalize lowQ (s != t) (n * m) (d * c) = q at *
  obtain ⟨o7, k7, c7, o8, k8, c8, rfl, hqn, hqd⟩ := h20
  have HB9 := Lib.hid (bstep HB1.out hb14); have BR9 := Lib.hid (BR.out.go hb14); have QN := Lib.hid hqn; have QD := Lib.hid hqd
  clear hb14 hqn hqd LW
  obtain ⟨x0, x1, x2, f0, f1, f2⟩ := BR9.out.facts
  go_wp2_with fail
  obtain ⟨e0, e1, e2, hn9, hd9, hb9⟩ := boxq_ret (t := q.1) BR9.out QN.out QD.out HB9.out (by omega)
  refine bodyPost_ret (v := .agg #[.bool q.1, .slice o7 k7 c7, .slice o8 k8 c8]) ?_ rfl ⟨_, rfl, ⟨_, _, _, _, _, _, rfl, hn9, hd9⟩, hb9⟩
  simp [results, Try.f74, go_sem, e0, e1, e2]

set_option maxHeartbeats 4000000 in
set_option maxRecDepth 100000 in
theorem rover_any {w : World} {v u : Value} {s t : Bool} {n d m c : Nat} (h : RFrac w v s n d) (k : RFrac w u t m c) (ln : RLen n ≤ 40000) (ld : RLen d ≤ 40000) (lm : RLen m ≤ 40000) (lc : RLen c ≤ 40000) (d0 : 0 < d) (p0 : 0 < m) :
    Calls Try.prog 67 #[v, u] w (RRetQ w (lowQ (s != t) (n * c) (d * m))) := by
  obtain ⟨o1, k1, c1, o2, k2, c2, rfl, hn, hd⟩ := h
  obtain ⟨o3, k3, c3, o4, k4, c4, rfl, hm, hc⟩ := k
  obtain ⟨B1, bA, bB, bR⟩ := boxesQ3 w (.bool s) (.slice o1 k1 c1) (.slice o2 k2 c2) (.bool t) (.slice o3 k3 c3) (.slice o4 k4 c4) (.bool false) (.slice none 0 0) (.slice none 0 0)
  have HN := Lib.hid (hn.go B1); have HD := Lib.hid (hd.go B1); have HM := Lib.hid (hm.go B1); have HC := Lib.hid (hc.go B1)
  have BA := Lib.hid bA; have BB := Lib.hid bB; have BR := Lib.hid bR; have HB1 := Lib.hid B1
  have LN : Hid (RLen n ≤ 1000000) := Nat.le_trans ln (by omega)
  have LD : Hid (RLen d ≤ 1000000) := Nat.le_trans ld (by omega)
  have LM : Hid (RLen m ≤ 1000000) := Nat.le_trans lm (by omega)
  have LC : Hid (RLen c ≤ 1000000) := Nat.le_trans lc (by omega)
  have LW : Hid (∀ W v u, RNum W v (n * c) → RNum W u (d * m) → Calls Try.prog 92 #[.bool (s != t), v, u] W (RRetQ W (lowQ (s != t) (n * c) (d * m)))) := fun W v u h1 h2 => lowest_any (s != t) h1 h2 (Nat.mul_pos d0 p0) (Nat.le_trans (rlen_mul _ _) (by omega)) (Nat.le_trans (rlen_mul _ _) (by omega))
  clear hn hd hm hc bA bB bR B1 ln ld lm lc d0 p0
  go_enter Try.func67, Try.ntmps67
  go_wp2_with fail
  generalize ((w.alloc (.cells #[.bool s, .slice o1 k1 c1, .slice o2 k2 c2] 60)).alloc (.cells #[.bool t, .slice o3 k3 c3, .slice o4 k4 c4] 60)).alloc (.cells #[.bool false, .slice none 0 0, .slice none 0 0] 60) = w1 at *
  refine region_inv 16 21 [(5, Is (.pointer (some ⟨w.heap.size, 0, none⟩))), (6, Is (.bool s)), (7, Is (.pointer (some ⟨w.heap.size + 1, 0, none⟩))), (8, Is (.bool t)), (9, Is (.bool (s != t))), (10, Is (.pointer (some ⟨w.heap.size, 1, none⟩))), (11, Is (.slice o1 k1 c1)), (12, Is (.pointer (some ⟨w.heap.size + 1, 2, none⟩))), (13, Is (.slice o4 k4 c4)), (14, IsR (n * c)), (15, Is (.pointer (some ⟨w.heap.size, 2, none⟩))), (16, Is (.slice o2 k2 c2)), (17, Is (.pointer (some ⟨w.heap.size + 1, 1, none⟩))), (18, Is (.slice o3 k3 c3)), (19, IsR (d * m)), (20, IsRF (lowQ (s != t) (n * c) (d * m)).1 (lowQ (s != t) (n * c) (d * m)).2.1 (lowQ (s != t) (n * c) (d * m)).2.2)] (by kernel_rfl) rfl (by kernel_rfl) ?_ ?_
  · refine steps_cons rfl (fun A_ W hb hr hg K hK => ?_) <| steps_cons rfl (fun A_ W hb hr hg K hK => ?_) <| steps_cons rfl (fun A_ W hb hr hg K hK => ?_) <| steps_cons rfl (fun A_ W hb hr hg K hK => ?_) <| steps_cons rfl (fun A_ W hb hr hg K hK => ?_) <| steps_cons rfl (fun A_ W hb hr hg K hK => ?_) <| steps_cons rfl (fun A_ W hb hr hg K hK => ?_) <| steps_cons rfl (fun A_ W hb hr hg K hK => ?_) <| steps_cons rfl (fun A_ W hb hr hg K hK => ?_) <| steps_cons rfl (fun A_ W hb hr hg K hK => ?_) <| steps_cons rfl (fun A_ W hb hr hg K hK => ?_) <| steps_cons rfl (fun A_ W hb hr hg K hK => ?_) <| steps_cons rfl (fun A_ W hb hr hg K hK => ?_) <| steps_cons rfl (fun A_ W hb hr hg K hK => ?_) <| steps_cons rfl (fun A_ W hb hr hg K hK => ?_) <| steps_cons rfl (fun A_ W hb hr hg K hK => ?_) trivial
    · have e0 : A_.tmps[2]?.getD undef = .pointer (some ⟨w.heap.size, 0, none⟩) := hb 2 (by kernel_rfl)
      clear hb hr; go_simp; exact hK _ _ (Below.refl _ _) rfl
    · have e0 : A_.tmps[5]?.getD undef = .pointer (some ⟨w.heap.size, 0, none⟩) := hr 5 (by kernel_rfl)
      have c0 := (BA.out.go hg).facts.1
      clear hb hr; go_simp; exact hK _ _ (Below.refl _ _) rfl
    · have e0 : A_.tmps[3]?.getD undef = .pointer (some ⟨w.heap.size + 1, 0, none⟩) := hb 3 (by kernel_rfl)
      clear hb hr; go_simp; exact hK _ _ (Below.refl _ _) rfl
    · have e0 : A_.tmps[7]?.getD undef = .pointer (some ⟨w.heap.size + 1, 0, none⟩) := hr 7 (by kernel_rfl)
      have c0 := (BB.out.go hg).facts.1
      clear hb hr; go_simp; exact hK _ _ (Below.refl _ _) rfl
    · have e0 : A_.tmps[6]?.getD undef = .bool s := hr 6 (by kernel_rfl)
      have e1 : A_.tmps[8]?.getD undef = .bool t := hr 8 (by kernel_rfl)
      clear hb hr; go_simp; exact hK _ _ (Below.refl _ _) rfl
    · have e0 : A_.tmps[2]?.getD undef = .pointer (some ⟨w.heap.size, 0, none⟩) := hb 2 (by kernel_rfl)
      clear hb hr; go_simp; exact hK _ _ (Below.refl _ _) rfl
    · have e0 : A_.tmps[10]?.getD undef = .pointer (some ⟨w.heap.size, 1, none⟩) := hr 10 (by kernel_rfl)
      have c0 := (BA.out.go hg).facts.2.1
      clear hb hr; go_simp; exact hK _ _ (Below.refl _ _) rfl
    · have e0 : A_.tmps[3]?.getD undef = .pointer (some ⟨w.heap.size + 1, 0, none⟩) := hb 3 (by kernel_rfl)
      clear hb hr; go_simp; exact hK _ _ (Below.refl _ _) rfl
    · have e0 : A_.tmps[12]?.getD undef = .pointer (some ⟨w.heap.size + 1, 2, none⟩) := hr 12 (by kernel_rfl)
      have c0 := (BB.out.go hg).facts.2.2.1
      clear hb hr; go_simp; exact hK _ _ (Below.refl _ _) rfl
    · have e0 : A_.tmps[11]?.getD undef = .slice o1 k1 c1 := hr 11 (by kernel_rfl)
      have e1 : A_.tmps[13]?.getD undef = .slice o4 k4 c4 := hr 13 (by kernel_rfl)
      clear hb hr; go_simp
      refine (rmul_any (HN.out.go hg) (HC.out.go hg) LN.out LC.out).mono ?_; rintro e w5 ⟨v5, rfl, hv5, hb5⟩
      exact hK _ _ hb5 hv5
    · have e0 : A_.tmps[2]?.getD undef = .pointer (some ⟨w.heap.size, 0, none⟩) := hb 2 (by kernel_rfl)
      clear hb hr; go_simp; exact hK _ _ (Below.refl _ _) rfl
    · have e0 : A_.tmps[15]?.getD undef = .pointer (some ⟨w.heap.size, 2, none⟩) := hr 15 (by kernel_rfl)
      have c0 := (BA.out.go hg).facts.2.2.1
      clear hb hr; go_simp; exact hK _ _ (Below.refl _ _) rfl
    · have e0 : A_.tmps[3]?.getD undef = .pointer (some ⟨w.heap.size + 1, 0, none⟩) := hb 3 (by kernel_rfl)
      clear hb hr; go_simp; exact hK _ _ (Below.refl _ _) rfl
    · have e0 : A_.tmps[17]?.getD undef = .pointer (some ⟨w.heap.size + 1, 1, none⟩) := hr 17 (by kernel_rfl)
      have c0 := (BB.out.go hg).facts.2.1
      clear hb hr; go_simp; exact hK _ _ (Below.refl _ _) rfl
    · have e0 : A_.tmps[16]?.getD undef = .slice o2 k2 c2 := hr 16 (by kernel_rfl)
      have e1 : A_.tmps[18]?.getD undef = .slice o3 k3 c3 := hr 18 (by kernel_rfl)
      clear hb hr; go_simp
      refine (rmul_any (HD.out.go hg) (HM.out.go hg) LD.out LM.out).mono ?_; rintro e w5 ⟨v5, rfl, hv5, hb5⟩
      exact hK _ _ hb5 hv5
    · have e0 : A_.tmps[9]?.getD undef = .bool (s != t) := hr 9 (by kernel_rfl)
      have h5 : RNum W (A_.tmps[14]?.getD undef) (n * c) := hr 14 (by kernel_rfl)
      have h6 : RNum W (A_.tmps[19]?.getD undef) (d * m) := hr 19 (by kernel_rfl)
      have H5 := Lib.hid h5; have H6 := Lib.hid h6
      clear hb hr h5 h6; go_simp
      refine (LW.out _ _ _ H5.out H6.out).mono ?_; rintro e w5 ⟨v5, rfl, hv5, hb5⟩
      exact hK _ _ hb5 hv5
  rintro g4 w14 hb14 ⟨-, -, -, -, -, -, -, -, -, -, -, -, -, -, -, h20, -⟩
  simp only [List.drop_succ_cons, List.drop_zero, List.take_succ_cons, List.take_zero, putHead, Option.getD_some, Act.put, List.setIfInBounds_toArray, List.set_cons_zero, List.set_cons_succ]
  replace h20 : RFrac w14 (g4 20) (lowQ (s != t) (n * c) (d * m)).1 (lowQ (s != t) (n * c) (d * m)).2.1 (lowQ (s != t) (n * c) (d * m)).2.2 := h20
  generalize g4 20 = v20 at *
  have HQ : Hid (∀ e w', RRetQ w (lowQ (s != t) (n * c) (d * m)) e w' → RRetQ w (lowQ (s != t) (n * c) (d * m)) e w') := fun _ _ h => h
  generalize lowQ (s != t) (n * c) (d * m) = q at *
  obtain ⟨o7, k7, c7, o8, k8, c8, rfl, hqn, hqd⟩ := h20
  have HB9 := Lib.hid (bstep HB1.out hb14); have BR9 := Lib.hid (BR.out.go hb14); have QN := Lib.hid hqn; have QD := Lib.hid hqd
  clear hb14 hqn hqd LW
  obtain ⟨x0, x1, x2, f0, f1, f2⟩ := BR9.out.facts
  go_wp2_with fail
  obtain ⟨e0, e1, e2, hn9, hd9, hb9⟩ := boxq_ret (t := q.1) BR9.out QN.out QD.out HB9.out (by omega)
  refine bodyPost_ret (v := .agg #[.bool q.1, .slice o7 k7 c7, .slice o8 k8 c8]) ?_ rfl ⟨_, rfl, ⟨_, _, _, _, _, _, rfl, hn9, hd9⟩, hb9⟩
  simp [results, Try.f67, go_sem, e0, e1, e2]

set_option maxHeartbeats 4000000 in
set_option maxRecDepth 100000 in
theorem rof_any (w : World) (n : Int) (n1 : -9223372036854775808 ≤ n) (n2 : n ≤ 9223372036854775807) : Calls Try.prog 66 #[.int .i64 n] w (RRetQ w (decide (n < 0), n.natAbs, 1)) := by
  have N1 : Hid (∀ W, Calls Try.prog 58 #[.int .u64 1] W (RRet W 1)) := fun W => natOf_any 1 (by omega) W
  have bx := BoxQ.new w (.bool false) (.slice none 0 0) (.slice none 0 0)
  have b1 := below_alloc w (.cells #[.bool false, .slice none 0 0, .slice none 0 0] 60)
  have BX := Lib.hid bx; have HB1 := Lib.hid b1
  clear bx b1
  have LW : Hid (∀ W v u (s : Bool) (x : Nat), (s = true → x ≠ 0) → RLen x ≤ 100 → RNum W v x → RNum W u 1 → Calls Try.prog 92 #[.bool s, v, u] W (RRetQ W (s, x, 1))) := fun W v u s x h0 h1 h2 h3 => by
    have := lowest_any s h2 h3 (by omega) (by omega) (by rw [rlen_one]; omega)
    have e : lowQ s x 1 = (s, x, 1) := by
      unfold lowQ
      rw [Nat.gcd_one_right, Nat.div_one]
      cases s
      · rfl
      · simp [h0 rfl]
    rwa [e] at this
  by_cases h0 : n < 0
  · obtain ⟨m, hm⟩ : ∃ m : Nat, n = -(m : Int) - 1 := ⟨(-n - 1).toNat, by omega⟩
    have hmb : m < 9223372036854775808 := by omega
    have HQ : Hid ((decide (n < 0), n.natAbs, 1) = ((true, m + 1, 1) : Q3)) := by
      show _ = _
      rw [decide_eq_true h0, show n.natAbs = m + 1 from by omega]
    obtain ⟨m1, hm1⟩ : ∃ m1, m1 = m + 1 := ⟨_, rfl⟩
    have NO : Hid (∀ W, Calls Try.prog 58 #[.int .u64 (m1 : Nat)] W (RRet W m1)) := fun W => natOf_any m1 (by omega) W
    have hn1 : n + 1 = -(m : Int) := by omega
    have hm1i : (m : Int) + 1 = (m1 : Int) := by omega
    have hm0 : -9223372036854775808 ≤ -(m : Int) ∧ -(m : Int) ≤ 9223372036854775807 := ⟨by omega, by omega⟩
    have hm2 : -9223372036854775808 ≤ (m : Int) ∧ (m : Int) ≤ 9223372036854775807 := ⟨by omega, by omega⟩
    have hm3 : 0 ≤ (m : Int) ∧ (m : Int) ≤ 18446744073709551615 := ⟨by omega, by omega⟩
    have hm4 : 0 ≤ (m1 : Int) ∧ (m1 : Int) ≤ 18446744073709551615 := ⟨by omega, by omega⟩
    have tn : decide (n < 0) = true := decide_eq_true h0
    have L1 : Hid (RLen m1 ≤ 100) := Nat.le_trans (rlen_word (by omega)) (by omega)
    have H1 : Hid (m1 ≠ 0) := by show _ ≠ _; omega
    rw [HQ.out, ← hm1]
    have EE : Hid (IntKind.u64.wrap (IntKind.u64.wrap (wrap64 (-wrap64 (n + 1))) + 1) = (m1 : Int)) := by
      show _ = _
      rw [hn1, IntWalk.wrap64_in _ hm0, Int.neg_neg, IntWalk.wrap64_in _ hm2, IntWalk.u64_in _ hm3, hm1i, IntWalk.u64_in _ hm4]
    clear h0 hm hmb hm1 HQ n1 n2 hn1 hm1i hm0 hm2 hm3 hm4
    go_enter Try.func66, Try.ntmps66
    go_wp2_with fail
    generalize w.alloc (.cells #[.bool false, .slice none 0 0, .slice none 0 0] 60) = w1 at *
    first
      | (rw [EE.out]; refine (NO.out _).mono ?_)
      | refine (NO.out _).mono ?_
    rintro e w2 ⟨v2, rfl, hv2, hb2⟩
    have BX2 := Lib.hid (BX.out.go hb2); have HB2 := Lib.hid (bstep HB1.out hb2); have HV2 := Lib.hid hv2
    clear hb2 hv2
    go_wp2_with fail
    refine (N1.out _).mono ?_; rintro e w3 ⟨v3, rfl, hv3, hb3⟩
    have BX3 := Lib.hid (BX2.out.go hb3); have HB3 := Lib.hid (bstep HB2.out hb3); have HV3 := Lib.hid (HV2.out.go hb3); have HU3 := Lib.hid hv3
    clear hb3 hv3
    go_wp2_with fail
    refine (LW.out _ _ _ true m1 (fun _ => H1.out) L1.out HV3.out HU3.out).mono ?_; rintro e w4 ⟨v4, rfl, hv4, hb4⟩
    obtain ⟨o7, k7, c7, o8, k8, c8, rfl, hqn, hqd⟩ := hv4
    have BX4 := Lib.hid (BX3.out.go hb4); have HB4 := Lib.hid (bstep HB3.out hb4); have QN := Lib.hid hqn; have QD := Lib.hid hqd
    clear hb4 hqn hqd
    obtain ⟨x0, x1, x2, f0, f1, f2⟩ := BX4.out.facts
    go_wp2_with fail
    obtain ⟨e0, e1, e2, hn9, hd9, hb9⟩ := boxq_ret (t := true) BX4.out QN.out QD.out HB4.out (Nat.le_refl _)
    refine bodyPost_ret (v := .agg #[.bool true, .slice o7 k7 c7, .slice o8 k8 c8]) ?_ rfl ⟨_, rfl, ⟨_, _, _, _, _, _, rfl, hn9, hd9⟩, hb9⟩
    simp [results, Try.f66, go_sem, e0, e1, e2]
  · obtain ⟨m, rfl⟩ := Int.eq_ofNat_of_zero_le (show 0 ≤ n by omega)
    have HQ : Hid ((decide (((m : Nat) : Int) < 0), ((m : Nat) : Int).natAbs, 1) = ((false, m, 1) : Q3)) := by
      show _ = _
      rw [decide_eq_false h0]; rfl
    have NO : Hid (∀ W, Calls Try.prog 58 #[.int .u64 (m : Nat)] W (RRet W m)) := fun W => natOf_any m (by omega) W
    have hm3 : 0 ≤ (m : Int) ∧ (m : Int) ≤ 18446744073709551615 := ⟨by omega, by omega⟩
    have tn : decide ((m : Int) < 0) = false := decide_eq_false h0
    have L1 : Hid (RLen m ≤ 100) := Nat.le_trans (rlen_word (by omega)) (by omega)
    rw [HQ.out]
    have E3 := Lib.hid (IntWalk.u64_in _ hm3)
    clear h0 HQ n1 n2 hm3
    go_enter Try.func66, Try.ntmps66
    go_wp2_with fail
    generalize w.alloc (.cells #[.bool false, .slice none 0 0, .slice none 0 0] 60) = w1 at *
    first
      | (rw [E3.out]; refine (NO.out _).mono ?_)
      | refine (NO.out _).mono ?_
    rintro e w2 ⟨v2, rfl, hv2, hb2⟩
    have BX2 := Lib.hid (BX.out.go hb2); have HB2 := Lib.hid (bstep HB1.out hb2); have HV2 := Lib.hid hv2
    clear hb2 hv2
    go_wp2_with fail
    refine (N1.out _).mono ?_; rintro e w3 ⟨v3, rfl, hv3, hb3⟩
    have BX3 := Lib.hid (BX2.out.go hb3); have HB3 := Lib.hid (bstep HB2.out hb3); have HV3 := Lib.hid (HV2.out.go hb3); have HU3 := Lib.hid hv3
    clear hb3 hv3
    go_wp2_with fail
    refine (LW.out _ _ _ false m (fun h => by cases h) L1.out HV3.out HU3.out).mono ?_; rintro e w4 ⟨v4, rfl, hv4, hb4⟩
    obtain ⟨o7, k7, c7, o8, k8, c8, rfl, hqn, hqd⟩ := hv4
    have BX4 := Lib.hid (BX3.out.go hb4); have HB4 := Lib.hid (bstep HB3.out hb4); have QN := Lib.hid hqn; have QD := Lib.hid hqd
    clear hb4 hqn hqd
    obtain ⟨x0, x1, x2, f0, f1, f2⟩ := BX4.out.facts
    go_wp2_with fail
    obtain ⟨e0, e1, e2, hn9, hd9, hb9⟩ := boxq_ret (t := false) BX4.out QN.out QD.out HB4.out (Nat.le_refl _)
    refine bodyPost_ret (v := .agg #[.bool false, .slice o7 k7 c7, .slice o8 k8 c8]) ?_ rfl ⟨_, rfl, ⟨_, _, _, _, _, _, rfl, hn9, hd9⟩, hb9⟩
    simp [results, Try.f66, go_sem, e0, e1, e2]
end Go.Proofs.Ytlkdahgfnfdakaa
