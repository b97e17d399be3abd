/- The reference's Round of texts. -/
import Derived.Test.YtlkdahgfnfdakaaRefZ1
namespace Go.Proofs.Ytlkdahgfnfdakaa
open Go Go.RowKit Go.Shelf WN LM

set_option maxHeartbeats 8000000 in
set_option maxRecDepth 100000 in
theorem rRound_any (w : World) (a : ByteArray) (ha : a.size ≤ 140737488355328) : Calls Try.prog 36 #[.string a] w (OutS w (roundT a)) := by
  have RA := Lib.hid (rread_any a w ha)
  clear ha
  go_enter Try.func36, Try.ntmps36
  go_wp2_with fail
  refine RA.out.mono ?_; rintro e w1 ⟨v1, hb1, h⟩
  have HB1 := Lib.hid hb1; clear hb1
  cases hp : readQ a.data.toList with
  | none =>
    rw [hp] at h
    have HR : Hid (roundT a = ((⟨#[]⟩ : ByteArray), (1 : Int))) := by show _ = _; unfold roundT oneT; rw [hp]
    obtain ⟨rfl, rfl⟩ := h
    clear hp
    have HB2 := Lib.hid (bstep HB1.out (below_alloc w1 (.cells #[.bool false, .slice none 0 0, .slice none 0 0] 60)))
    go_wp2_with fail
    go_ret2
    exact ⟨by rw [HR.out]; rfl, HB2.out⟩
  | some p =>
    rw [hp] at h
    obtain ⟨rfl, o1, k1, c1, o2, k2, c2, rfl, hn, hd⟩ := h
    obtain ⟨qb, b1⟩ := QB.new (W := w1) (q := p) hn hd
    have HB2 := Lib.hid (bstep HB1.out b1); have QP0 := Lib.hid qb
    have FP : Hid (RFrac (w1.alloc (.cells #[.bool p.1, .slice o1 k1 c1, .slice o2 k2 c2] 60)) (.agg #[.bool p.1, .slice o1 k1 c1, .slice o2 k2 c2]) p.1 p.2.1 p.2.2) := ⟨_, _, _, _, _, _, rfl, hn.go b1, hd.go b1⟩
    obtain ⟨x0, x1, x2, -, -, -⟩ := (BoxQ.new w1 (.bool p.1) (.slice o1 k1 c1) (.slice o2 k2 c2)).facts
    have cp := readQ_can hp
    clear hn hd b1 qb
    obtain ⟨low, hlow⟩ : ∃ q, q = floorQ p := ⟨_, rfl⟩
    obtain ⟨up, hup⟩ : ∃ q, q = addQ low oneQ := ⟨_, rfl⟩
    obtain ⟨rest, hrest⟩ : ∃ q, q = subQ p low := ⟨_, rfl⟩
    obtain ⟨half, hhalf⟩ : ∃ q, q = divQ oneQ (false, 2, 1) := ⟨_, rfl⟩
    obtain ⟨hv, hhv⟩ : ∃ q, q = divQ low (false, 2, 1) := ⟨_, rfl⟩
    obtain ⟨two, htwo⟩ : ∃ q : Q3, q = (false, 2, 1) := ⟨_, rfl⟩
    obtain ⟨c, hc⟩ : ∃ c, c = cmpQ rest half := ⟨_, rfl⟩
    obtain ⟨ev, hev⟩ : ∃ b, b = decide (hv.2.2 = 1) := ⟨_, rfl⟩
    have kp : Ok 100 p := ok_read hp
    have kl : Ok 101 low := by rw [hlow]; exact ok_floor kp
    have kr : Ok 202 rest := by rw [hrest]; exact ok_add kp (ok_neg kl)
    have kh : Ok 2 half := by rw [hhalf]; exact ok_div ok_oneQ ok_two (by decide)
    have khv : Ok 102 hv := by rw [hhv]; exact ok_div kl ok_two (by decide)
    have ku : Ok 103 up := by rw [hup]; exact ok_add kl ok_oneQ
    obtain ⟨xl, hxl⟩ : ∃ x, x = out3 low := ⟨_, rfl⟩
    obtain ⟨xu, hxu⟩ : ∃ x, x = out3 up := ⟨_, rfl⟩
    have HR0 : Hid (∀ x, (if 0 < c ∨ (c = 0 ∧ ev = false) then xu else xl) = x → roundT a = x) := fun x hx => by
      unfold roundT oneT; rw [hp]
      show out3 (roundQ p) = _
      rw [round_ref cp, ← hx]
      unfold upQ oddQ restQ
      rw [plus_eq cp (negQ_spec (can_floorQ p)).1]
      have e1 : halfQ = half := by rw [hhalf]; rfl
      have e2 : addQ p (negQ (floorQ p)) = rest := by rw [hrest, hlow]; rfl
      rw [e1, e2, ← hc, ← hlow, ← hhv, ← hev, ← hup]
      rw [hxl, hxu]
      by_cases h1 : 0 < c
      · simp [h1]
      · by_cases h2 : c = 0
        · cases ev <;> simp [h2]
        · simp [h1, h2]
    have c3 : c = -1 ∨ c = 0 ∨ c = 1 := by rw [hc]; exact cmpQ_three _ _
    have DN : Hid (∀ W v, RFrac W v p.1 p.2.1 p.2.2 → Calls Try.prog 81 #[v] W (RRetQ W low)) := fun W v h => by rw [hlow]; exact cDown (kp.up (by omega)) h
    have OF1 : Hid (∀ W, Calls Try.prog 66 #[.int .i64 1] W (RRetQ W oneQ)) := cOf1
    have OF2 : Hid (∀ W, Calls Try.prog 66 #[.int .i64 2] W (RRetQ W two)) := fun W => by rw [htwo]; exact cOf2 W
    have OV : Hid (∀ W v u, RFrac W v oneQ.1 oneQ.2.1 oneQ.2.2 → RFrac W u two.1 two.2.1 two.2.2 → Calls Try.prog 67 #[v, u] W (RRetQ W half)) := fun W v u h k => by rw [hhalf]; rw [htwo] at k; exact cOver (ok_oneQ.up (by omega)) (ok_two.up (by omega)) (by decide) h k
    have OL : Hid (∀ W v u, RFrac W v low.1 low.2.1 low.2.2 → RFrac W u two.1 two.2.1 two.2.2 → Calls Try.prog 67 #[v, u] W (RRetQ W hv)) := fun W v u h k => by rw [hhv]; rw [htwo] at k; exact cOver (kl.up (by omega)) (ok_two.up (by omega)) (by decide) h k
    have MI : Hid (∀ W v u, RFrac W v p.1 p.2.1 p.2.2 → RFrac W u low.1 low.2.1 low.2.2 → Calls Try.prog 73 #[v, u] W (RRetQ W rest)) := fun W v u h k => by rw [hrest]; exact cMinus (kp.up (by omega)) (kl.up (by omega)) h k
    have AG : Hid (∀ W v u, RFrac W v rest.1 rest.2.1 rest.2.2 → RFrac W u half.1 half.2.1 half.2.2 → Calls Try.prog 78 #[v, u] W (RetI W c)) := fun W v u h k => by rw [hc]; exact cAgainst (kr.up (by omega)) (kh.up (by omega)) h k
    have WH : Hid (∀ W v, RFrac W v hv.1 hv.2.1 hv.2.2 → Calls Try.prog 83 #[v] W (RetB W ev)) := fun W v h => by rw [hev]; exact cWhole (khv.up (by omega)) h
    have PL : Hid (∀ W v u, RFrac W v low.1 low.2.1 low.2.2 → RFrac W u oneQ.1 oneQ.2.1 oneQ.2.2 → Calls Try.prog 71 #[v, u] W (RRetQ W up)) := fun W v u h k => by rw [hup]; exact cPlus (kl.up (by omega)) (ok_oneQ.up (by omega)) h k
    have OTL : Hid (∀ W v, RFrac W v low.1 low.2.1 low.2.2 → Calls Try.prog 68 #[v] W (OutS W xl)) := fun W v h => by rw [hxl]; exact cOut (kl.up (by omega)) h
    have OTU : Hid (∀ W v, RFrac W v up.1 up.2.1 up.2.2 → Calls Try.prog 68 #[v] W (OutS W xu)) := fun W v h => by rw [hxu]; exact cOut (ku.up (by omega)) h
    clear hxl hxu hp cp hlow hup hrest hhalf hhv htwo hc hev kp kl kr kh khv ku
    go_wp2_with fail
    refine (DN.out _ _ FP.out).mono ?_; rintro e w3 ⟨v3, rfl, hv3, hb3⟩
    obtain ⟨o3, k3, c3', o4, k4, c4, rfl, hn3, hd3⟩ := hv3
    obtain ⟨qb, bb⟩ := QB.new (W := w3) (q := low) hn3 hd3
    have QP := Lib.hid ((QP0.out.go hb3).go bb); have QL0 := Lib.hid qb; have HB3 := Lib.hid (bstep (bstep HB2.out hb3) bb)
    have LE6 : Hid (w.heap.size ≤ w3.heap.size) := (bstep HB2.out hb3).size
    clear hn3 hd3 qb bb hb3 x0 x1 x2
    go_wp2_with fail
    generalize w3.alloc (.cells #[.bool low.1, .slice o3 k3 c3', .slice o4 k4 c4] 60) = w4 at *
    generalize w3.heap.size = B6 at *
    generalize w1.heap.size = B4 at *
    refine (OF1.out _).mono ?_; rintro e w5 ⟨v5, rfl, hv5, hb5⟩
    have HV5 := Lib.hid hv5; have HB5 := Lib.hid (bstep HB3.out hb5); have QP5 := Lib.hid (QP.out.go hb5); have QL5 := Lib.hid (QL0.out.go hb5)
    clear hb5 hv5
    go_wp2_with fail
    refine (OF2.out _).mono ?_; rintro e w6 ⟨v6, rfl, hv6, hb6⟩
    have HV6 := Lib.hid hv6; have HV56 := Lib.hid (HV5.out.go hb6); have HB6 := Lib.hid (bstep HB5.out hb6); have QP6 := Lib.hid (QP5.out.go hb6); have QL6 := Lib.hid (QL5.out.go hb6)
    clear hb6 hv6
    go_wp2_with fail
    refine (OV.out _ _ _ HV56.out HV6.out).mono ?_; rintro e w7 ⟨v7, rfl, hv7, hb7⟩
    obtain ⟨o5, k5, c5, o6, k6, c6, rfl, hn7, hd7⟩ := hv7
    obtain ⟨qb, bb⟩ := QB.new (W := w7) (q := half) hn7 hd7
    have QH := Lib.hid qb; have QP7 := Lib.hid ((QP6.out.go hb7).go bb); have QL7 := Lib.hid ((QL6.out.go hb7).go bb); have HB7 := Lib.hid (bstep (bstep HB6.out hb7) bb)
    clear hn7 hd7 qb bb hb7
    clear QP QL0 QP5 QL5 QP6 QL6 HB3 HB5 HB6 HV5 HV6 HV56 QP0 FP HB2 HB1
    go_wp2_with fail
    generalize w7.alloc (.cells #[.bool half.1, .slice o5 k5 c5, .slice o6 k6 c6] 60) = w8 at *
    generalize w7.heap.size = B7 at *
    refine region_inv 5 48 [(22, IsRF p.1 p.2.1 p.2.2), (23, IsRF low.1 low.2.1 low.2.2), (24, IsRF rest.1 rest.2.1 rest.2.2), (25, IsRF half.1 half.2.1 half.2.2), (26, Is (.int .i64 c))] (by kernel_rfl) rfl (by kernel_rfl) ?_ ?_
    · refine steps_cons rfl (fun A_ W hb hr hg K hK => ?_) <| steps_cons rfl (fun A_ W hb hr hg K hK => ?_) <| steps_cons rfl (fun A_ W hb hr hg K hK => ?_) <| steps_cons rfl (fun A_ W hb hr hg K hK => ?_) <| steps_cons rfl (fun A_ W hb hr hg K hK => ?_) trivial
      · have e0 : A_.tmps[4]?.getD undef = .pointer (some ⟨B4, 0, none⟩) := hb 4 (by kernel_rfl)
        obtain ⟨o1, k1, c1, o2, k2, c2, ⟨x0, x1, x2⟩, hh⟩ := (QP7.out.go hg).open
        have HH := Lib.hid hh
        clear hb hr hh; go_simp; exact hK _ _ (Below.refl _ _) HH.out
      · have e0 : A_.tmps[6]?.getD undef = .pointer (some ⟨B6, 0, none⟩) := hb 6 (by kernel_rfl)
        obtain ⟨o1, k1, c1, o2, k2, c2, ⟨x0, x1, x2⟩, hh⟩ := (QL7.out.go hg).open
        have HH := Lib.hid hh
        clear hb hr hh; go_simp; exact hK _ _ (Below.refl _ _) HH.out
      · have h1 : RFrac W (A_.tmps[22]?.getD undef) p.1 p.2.1 p.2.2 := hr 22 (by kernel_rfl)
        have H1 := Lib.hid h1
        have h2 : RFrac W (A_.tmps[23]?.getD undef) low.1 low.2.1 low.2.2 := hr 23 (by kernel_rfl)
        have H2 := Lib.hid h2
        clear hb hr h1 h2; go_simp
        refine (MI.out W _ _ H1.out H2.out).mono ?_; rintro e w5 ⟨v5, rfl, hv5, hb5⟩
        exact hK _ _ hb5 hv5
      · have e0 : A_.tmps[7]?.getD undef = .pointer (some ⟨B7, 0, none⟩) := hb 7 (by kernel_rfl)
        obtain ⟨o1, k1, c1, o2, k2, c2, ⟨x0, x1, x2⟩, hh⟩ := (QH.out.go hg).open
        have HH := Lib.hid hh
        clear hb hr hh; go_simp; exact hK _ _ (Below.refl _ _) HH.out
      · have h1 : RFrac W (A_.tmps[24]?.getD undef) rest.1 rest.2.1 rest.2.2 := hr 24 (by kernel_rfl)
        have H1 := Lib.hid h1
        have h2 : RFrac W (A_.tmps[25]?.getD undef) half.1 half.2.1 half.2.2 := hr 25 (by kernel_rfl)
        have H2 := Lib.hid h2
        clear hb hr h1 h2; go_simp
        refine (AG.out W _ _ H1.out H2.out).mono ?_; rintro e w5 ⟨rfl, hb5⟩
        exact hK _ _ hb5 rfl
    rintro g4 w9 hb9 ⟨-, -, -, -, h20, -⟩
    simp only [List.drop_succ_cons, List.drop_zero, List.take_succ_cons, List.take_zero, putHead, Option.getD_some, Act.put, List.setIfInBounds_toArray, List.set_cons_zero, List.set_cons_succ]
    replace h20 : g4 26 = .int .i64 c := h20
    generalize g4 26 = v26 at *
    subst h20
    have QL8 := Lib.hid (QL7.out.go hb9); have HB8 := Lib.hid (bstep HB7.out hb9)
    clear hb9
    go_wp2_with fail
    refine region_inv 5 48 [(27, IsRF low.1 low.2.1 low.2.2), (28, IsRF two.1 two.2.1 two.2.2), (29, IsRF hv.1 hv.2.1 hv.2.2), (30, Is (.bool ev)), (31, Is (.bool (!ev)))] (by kernel_rfl) rfl (by kernel_rfl) ?_ ?_
    · refine steps_cons rfl (fun A_ W hb hr hg K hK => ?_) <| steps_cons rfl (fun A_ W hb hr hg K hK => ?_) <| steps_cons rfl (fun A_ W hb hr hg K hK => ?_) <| steps_cons rfl (fun A_ W hb hr hg K hK => ?_) <| steps_cons rfl (fun A_ W hb hr hg K hK => ?_) trivial
      · have e0 : A_.tmps[6]?.getD undef = .pointer (some ⟨B6, 0, none⟩) := hb 6 (by kernel_rfl)
        obtain ⟨o1, k1, c1, o2, k2, c2, ⟨x0, x1, x2⟩, hh⟩ := (QL8.out.go hg).open
        have HH := Lib.hid hh
        clear hb hr hh; go_simp; exact hK _ _ (Below.refl _ _) HH.out
      · clear hb hr; go_simp
        refine (OF2.out W).mono ?_; rintro e w5 ⟨v5, rfl, hv5, hb5⟩
        exact hK _ _ hb5 hv5
      · have h1 : RFrac W (A_.tmps[27]?.getD undef) low.1 low.2.1 low.2.2 := hr 27 (by kernel_rfl)
        have H1 := Lib.hid h1
        have h2 : RFrac W (A_.tmps[28]?.getD undef) two.1 two.2.1 two.2.2 := hr 28 (by kernel_rfl)
        have H2 := Lib.hid h2
        clear hb hr h1 h2; go_simp
        refine (OL.out W _ _ H1.out H2.out).mono ?_; rintro e w5 ⟨v5, rfl, hv5, hb5⟩
        exact hK _ _ hb5 hv5
      · have h1 : RFrac W (A_.tmps[29]?.getD undef) hv.1 hv.2.1 hv.2.2 := hr 29 (by kernel_rfl)
        have H1 := Lib.hid h1
        clear hb hr h1; go_simp
        refine (WH.out W _ H1.out).mono ?_; rintro e w5 ⟨rfl, hb5⟩
        exact hK _ _ hb5 rfl
      · have e0 : A_.tmps[30]?.getD undef = .bool ev := hr 30 (by kernel_rfl)
        clear hb hr; go_simp; exact hK _ _ (Below.refl _ _) rfl
    rintro g4 w11 hb11 ⟨-, -, -, -, h20, -⟩
    simp only [List.drop_succ_cons, List.drop_zero, List.take_succ_cons, List.take_zero, putHead, Option.getD_some, Act.put, List.setIfInBounds_toArray, List.set_cons_zero, List.set_cons_succ]
    replace h20 : g4 31 = .bool (!ev) := h20
    generalize g4 31 = v31 at *
    subst h20
    have QL := Lib.hid (QL8.out.go hb11); have HB := Lib.hid (bstep HB8.out hb11)
    clear hb11 QL8 QL7 QP7 QH HB7 HB8 DN OF2 OV OL MI AG WH
    rcases c3 with rfl | rfl | rfl
    · have HR := Lib.hid (HR0.out xl (if_neg (by omega)))
      clear HR0
      obtain ⟨o7, k7, c7, o8, k8, c8, ⟨x0, x1, x2⟩, hl⟩ := QL.out.open
      have HL := Lib.hid hl; clear hl
      go_wp2_with fail
      refine (OTL.out _ _ HL.out).mono ?_; rintro e w20 ⟨rfl, hb20⟩
      have HB20 := Lib.hid (bstep HB.out hb20); clear hb20
      go_wp2_with fail
      go_ret2
      exact ⟨by rw [HR.out]; rfl, HB20.out⟩
    · cases ev
      · have HR := Lib.hid (HR0.out xu (if_pos (Or.inr ⟨rfl, rfl⟩)))
        clear HR0
        go_wp2_with fail
        refine region_inv 3 48 [(41, IsRF low.1 low.2.1 low.2.2), (42, IsRF oneQ.1 oneQ.2.1 oneQ.2.2), (43, IsRF up.1 up.2.1 up.2.2)] (by kernel_rfl) rfl (by kernel_rfl) ?_ ?_
        · refine steps_cons rfl (fun A_ W hb hr hg K hK => ?_) <| steps_cons rfl (fun A_ W hb hr hg K hK => ?_) <| steps_cons rfl (fun A_ W hb hr hg K hK => ?_) trivial
          · have e0 : A_.tmps[6]?.getD undef = .pointer (some ⟨B6, 0, none⟩) := hb 6 (by kernel_rfl)
            obtain ⟨o1, k1, c1, o2, k2, c2, ⟨x0, x1, x2⟩, hh⟩ := (QL.out.go hg).open
            have HH := Lib.hid hh
            clear hb hr hh; go_simp; exact hK _ _ (Below.refl _ _) HH.out
          · clear hb hr; go_simp
            refine (OF1.out W).mono ?_; rintro e w5 ⟨v5, rfl, hv5, hb5⟩
            exact hK _ _ hb5 hv5
          · have h1 : RFrac W (A_.tmps[41]?.getD undef) low.1 low.2.1 low.2.2 := hr 41 (by kernel_rfl)
            have H1 := Lib.hid h1
            have h2 : RFrac W (A_.tmps[42]?.getD undef) oneQ.1 oneQ.2.1 oneQ.2.2 := hr 42 (by kernel_rfl)
            have H2 := Lib.hid h2
            clear hb hr h1 h2; go_simp
            refine (PL.out W _ _ H1.out H2.out).mono ?_; rintro e w5 ⟨v5, rfl, hv5, hb5⟩
            exact hK _ _ hb5 hv5
        rintro g4 w14 hb14 ⟨-, -, h20, -⟩
        simp only [List.drop_succ_cons, List.drop_zero, List.take_succ_cons, List.take_zero, putHead, Option.getD_some, Act.put, List.setIfInBounds_toArray, List.set_cons_zero, List.set_cons_succ]
        replace h20 : RFrac w14 (g4 43) up.1 up.2.1 up.2.2 := h20
        generalize g4 43 = v20 at *
        obtain ⟨o7, k7, c7, o8, k8, c8, rfl, hqn, hqd⟩ := h20
        have HB9 := Lib.hid (bstep HB.out hb14); have QN := Lib.hid hqn; have QD := Lib.hid hqd
        obtain ⟨o9, k9, c9, o10, k10, c10, bl, -, -⟩ := QL.out.go hb14
        have BL := Lib.hid bl
        clear hb14 hqn hqd bl
        obtain ⟨x0, x1, x2, f0, f1, f2⟩ := BL.out.facts
        obtain ⟨e0, e1, e2, hn9, hd9, hb9⟩ := boxq_ret (t := up.1) BL.out QN.out QD.out HB9.out LE6.out
        have HU : Hid (RFrac _ (.agg #[.bool up.1, .slice o7 k7 c7, .slice o8 k8 c8]) up.1 up.2.1 up.2.2) := ⟨_, _, _, _, _, _, rfl, hn9, hd9⟩
        have HB10 := Lib.hid hb9
        clear hn9 hd9 hb9
        go_wp2_with fail
        refine (OTU.out _ _ HU.out).mono ?_; rintro e w20 ⟨rfl, hb20⟩
        have HB20 := Lib.hid (bstep HB10.out hb20); clear hb20
        go_wp2_with fail
        go_ret2
        exact ⟨by rw [HR.out]; rfl, HB20.out⟩
      · have HR := Lib.hid (HR0.out xl (if_neg (by simp)))
        clear HR0
        obtain ⟨o7, k7, c7, o8, k8, c8, ⟨x0, x1, x2⟩, hl⟩ := QL.out.open
        have HL := Lib.hid hl; clear hl
        go_wp2_with fail
        refine (OTL.out _ _ HL.out).mono ?_; rintro e w20 ⟨rfl, hb20⟩
        have HB20 := Lib.hid (bstep HB.out hb20); clear hb20
        go_wp2_with fail
        go_ret2
        exact ⟨by rw [HR.out]; rfl, HB20.out⟩
    · have HR := Lib.hid (HR0.out xu (if_pos (Or.inl (by omega))))
      clear HR0
      go_wp2_with fail
      refine region_inv 3 48 [(41, IsRF low.1 low.2.1 low.2.2), (42, IsRF oneQ.1 oneQ.2.1 oneQ.2.2), (43, IsRF up.1 up.2.1 up.2.2)] (by kernel_rfl) rfl (by kernel_rfl) ?_ ?_
      · refine steps_cons rfl (fun A_ W hb hr hg K hK => ?_) <| steps_cons rfl (fun A_ W hb hr hg K hK => ?_) <| steps_cons rfl (fun A_ W hb hr hg K hK => ?_) trivial
        · have e0 : A_.tmps[6]?.getD undef = .pointer (some ⟨B6, 0, none⟩) := hb 6 (by kernel_rfl)
          obtain ⟨o1, k1, c1, o2, k2, c2, ⟨x0, x1, x2⟩, hh⟩ := (QL.out.go hg).open
          have HH := Lib.hid hh
          clear hb hr hh; go_simp; exact hK _ _ (Below.refl _ _) HH.out
        · clear hb hr; go_simp
          refine (OF1.out W).mono ?_; rintro e w5 ⟨v5, rfl, hv5, hb5⟩
          exact hK _ _ hb5 hv5
        · have h1 : RFrac W (A_.tmps[41]?.getD undef) low.1 low.2.1 low.2.2 := hr 41 (by kernel_rfl)
          have H1 := Lib.hid h1
          have h2 : RFrac W (A_.tmps[42]?.getD undef) oneQ.1 oneQ.2.1 oneQ.2.2 := hr 42 (by kernel_rfl)
          have H2 := Lib.hid h2
          clear hb hr h1 h2; go_simp
          refine (PL.out W _ _ H1.out H2.out).mono ?_; rintro e w5 ⟨v5, rfl, hv5, hb5⟩
          exact hK _ _ hb5 hv5
      rintro g4 w14 hb14 ⟨-, -, h20, -⟩
      simp only [List.drop_succ_cons, List.drop_zero, List.take_succ_cons, List.take_zero, putHead, Option.getD_some, Act.put, List.setIfInBounds_toArray, List.set_cons_zero, List.set_cons_succ]
      replace h20 : RFrac w14 (g4 43) up.1 up.2.1 up.2.2 := h20
      generalize g4 43 = v20 at *
      obtain ⟨o7, k7, c7, o8, k8, c8, rfl, hqn, hqd⟩ := h20
      have HB9 := Lib.hid (bstep HB.out hb14); have QN := Lib.hid hqn; have QD := Lib.hid hqd
      obtain ⟨o9, k9, c9, o10, k10, c10, bl, -, -⟩ := QL.out.go hb14
      have BL := Lib.hid bl
      clear hb14 hqn hqd bl
      obtain ⟨x0, x1, x2, f0, f1, f2⟩ := BL.out.facts
      obtain ⟨e0, e1, e2, hn9, hd9, hb9⟩ := boxq_ret (t := up.1) BL.out QN.out QD.out HB9.out LE6.out
      have HU : Hid (RFrac _ (.agg #[.bool up.1, .slice o7 k7 c7, .slice o8 k8 c8]) up.1 up.2.1 up.2.2) := ⟨_, _, _, _, _, _, rfl, hn9, hd9⟩
      have HB10 := Lib.hid hb9
      clear hn9 hd9 hb9
      go_wp2_with fail
      refine (OTU.out _ _ HU.out).mono ?_; rintro e w20 ⟨rfl, hb20⟩
      have HB20 := Lib.hid (bstep HB10.out hb20); clear hb20
      go_wp2_with fail
      go_ret2
      exact ⟨by rw [HR.out]; rfl, HB20.out⟩
end Go.Proofs.Ytlkdahgfnfdakaa
