/- The reference's simplest, of two numbers. -/
import Derived.Test.YtlkdahgfnfdakaaRefZ4
namespace Go.Proofs.Ytlkdahgfnfdakaa
open Go Go.RowKit Go.Shelf WN LM

set_option maxHeartbeats 8000000 in
set_option maxRecDepth 100000 in
theorem rsim_step {w : World} {v u : Value} {a b c d : Nat} (h : RFrac w v false a b) (k : RFrac w u false c d) (ha : 0 < a) (op : Ok 200 (false, a, b)) (oq : Ok 200 (false, c, d)) (hle : a * d ≤ c * b)
    (IH : ∀ W v u, a % b ≠ 0 → c < (a / b + 1) * d → RFrac W v false d (c - a / b * d) → RFrac W u false b (a % b) → Calls Try.prog 95 #[v, u] W (RRetQ W (false, (simpl d (c - a / b * d) b (a % b)).1, (simpl d (c - a / b * d) b (a % b)).2))) :
    Calls Try.prog 95 #[v, u] w (RRetQ w (false, (simpl a b c d).1, (simpl a b c d).2)) := by
    have hb : 0 < b := op.1.1
    have hd : 0 < d := oq.1.1
    have R : SimR a b c d := simR hb hd op.1.2.1 oq.1.2.1 hle
    have hc0 : 0 < c := by
      rcases Nat.eq_zero_or_pos c with h0 | h0
      · rw [h0, Nat.zero_mul] at hle
        have := Nat.mul_pos ha hd; omega
      · exact h0
    obtain ⟨p, hpe⟩ : ∃ p : Q3, p = (false, a, b) := ⟨_, rfl⟩
    obtain ⟨q, hqe⟩ : ∃ q : Q3, q = (false, c, d) := ⟨_, rfl⟩
    obtain ⟨low, hlow⟩ : ∃ q : Q3, q = (false, a / b, 1) := ⟨_, rfl⟩
    obtain ⟨up, hup⟩ : ∃ q : Q3, q = (false, a / b + 1, 1) := ⟨_, rfl⟩
    obtain ⟨cc, hcc⟩ : ∃ x, x = cmpQ low p := ⟨_, rfl⟩
    obtain ⟨cu, hcu⟩ : ∃ x, x = cmpQ up q := ⟨_, rfl⟩
    have olow : Ok 201 low := by rw [hlow, ← R.low]; exact ok_floor op
    have oup : Ok 203 up := by rw [hup, ← R.up, ← hlow]; exact ok_add olow ok_oneQ
    rw [← hpe] at op; rw [← hqe] at oq
    have h : RFrac w v p.1 p.2.1 p.2.2 := by rw [hpe]; exact h
    have k : RFrac w u q.1 q.2.1 q.2.2 := by rw [hqe]; exact k
    have hn0 : p.2.1 ≠ 0 := by rw [hpe]; exact Nat.ne_of_gt ha
    have sp : signQ p = 1 := by rw [hpe]; show sgn false a = 1; unfold sgn; simp; omega
    have sq : signQ q = 1 := by rw [hqe]; show sgn false c = 1; unfold sgn; simp; omega
    have SP : Hid (∀ W v, RFrac W v p.1 p.2.1 p.2.2 → Calls Try.prog 86 #[v] W (RetI W 1)) := fun W v h => by have := cSign op.1 h; rwa [sp] at this
    have SQ : Hid (∀ W v, RFrac W v q.1 q.2.1 q.2.2 → Calls Try.prog 86 #[v] W (RetI W 1)) := fun W v h => by have := cSign oq.1 h; rwa [sq] at this
    have DN : Hid (∀ W v, RFrac W v p.1 p.2.1 p.2.2 → Calls Try.prog 81 #[v] W (RRetQ W low)) := fun W v h => by
      have := cDown (op.up (by omega)) h
      rwa [show floorQ p = low from by rw [hpe, hlow]; exact R.low] at this
    have AG : Hid (∀ W v u, RFrac W v low.1 low.2.1 low.2.2 → RFrac W u p.1 p.2.1 p.2.2 → Calls Try.prog 78 #[v, u] W (RetI W cc)) := fun W v u h k => by rw [hcc]; exact cAgainst (olow.up (by omega)) (op.up (by omega)) h k
    have OF1 : Hid (∀ W, Calls Try.prog 66 #[.int .i64 1] W (RRetQ W oneQ)) := cOf1
    have PL : Hid (∀ W v u, RFrac W v low.1 low.2.1 low.2.2 → RFrac W u oneQ.1 oneQ.2.1 oneQ.2.2 → Calls Try.prog 71 #[v, u] W (RRetQ W up)) := fun W v u h k => by
      have := cPlus (olow.up (by omega)) (ok_oneQ.up (by omega)) h k
      rwa [show addQ low oneQ = up from by rw [hlow, hup]; exact R.up] at this
    have AU : Hid (∀ W v u, RFrac W v up.1 up.2.1 up.2.2 → RFrac W u q.1 q.2.1 q.2.2 → Calls Try.prog 78 #[v, u] W (RetI W cu)) := fun W v u h k => by rw [hcu]; exact cAgainst (oup.up (by omega)) (oq.up (by omega)) h k
    have hcc0 : cc = 0 ↔ a % b = 0 := by rw [hcc, hlow, hpe]; exact R.at0
    have hcu0 : cu ≤ 0 ↔ (a / b + 1) * d ≤ c := by rw [hcu, hup, hqe]; exact R.next
    have e1 : p.1 = false := by rw [hpe]
    have e2 : q.1 = false := by rw [hqe]
    rw [e1] at h; rw [e2] at k
    obtain ⟨o1, k1, c1, o2, k2, c2, rfl, hn, hd'⟩ := h
    obtain ⟨o3, k3, c3, o4, k4, c4, rfl, hm, hc⟩ := k
    obtain ⟨B1, bA, bB, bR⟩ := boxesQ3 w (.bool false) (.slice o1 k1 c1) (.slice o2 k2 c2) (.bool false) (.slice o3 k3 c3) (.slice o4 k4 c4) (.bool false) (.slice none 0 0) (.slice none 0 0)
    have QP := Lib.hid (show QB _ w.heap.size p from ⟨_, _, _, _, _, _, by rw [e1]; exact bA, hn.go B1, hd'.go B1⟩)
    have QQ := Lib.hid (show QB _ (w.heap.size + 1) q from ⟨_, _, _, _, _, _, by rw [e2]; exact bB, hm.go B1, hc.go B1⟩)
    have BR := Lib.hid bR; have HB := Lib.hid B1
    have FP := Lib.hid (show RFrac _ (.agg #[.bool false, .slice o1 k1 c1, .slice o2 k2 c2]) p.1 p.2.1 p.2.2 from ⟨_, _, _, _, _, _, by rw [e1], hn.go B1, hd'.go B1⟩)
    obtain ⟨x0, x1, x2, -, -, -⟩ := bA.facts
    obtain ⟨y0, y1, y2, -, -, -⟩ := bB.facts
    obtain ⟨z, hz⟩ : ∃ z : Q3, z = (false, (simpl a b c d).1, (simpl a b c d).2) := ⟨_, rfl⟩
    have ZE : Hid (z = (false, (simpl a b c d).1, (simpl a b c d).2)) := hz
    rw [← hz]
    have HOP := Lib.hid op; have HOQ := Lib.hid oq; have HOL := Lib.hid olow; have HPE := Lib.hid hpe; have HQE := Lib.hid hqe; have HLOW := Lib.hid hlow; have HUP := Lib.hid hup
    have RR := Lib.hid R; have HIH := Lib.hid IH; have HLE := Lib.hid hle; have HHB := Lib.hid hb; have HHD := Lib.hid hd; have HCU := Lib.hid hcu0; have HCC := Lib.hid hcc0; have HA := Lib.hid ha
    clear hn hd' hm hc bA bB bR B1 op oq olow oup hpe hqe hlow hup hcc hcu R IH hle hb hd hcu0 hcc0 hc0 sp sq hz ha e1 e2 hn0
    go_enter Try.func95, Try.ntmps95
    go_wp2_with fail
    generalize ((w.alloc (.cells #[.bool false, .slice o1 k1 c1, .slice o2 k2 c2] 60)).alloc (.cells #[.bool false, .slice o3 k3 c3, .slice o4 k4 c4] 60)).alloc (.cells #[.bool false, .slice none 0 0, .slice none 0 0] 60) = w1 at *
    refine (SP.out _ _ FP.out).mono ?_; rintro e w2 ⟨rfl, hb2⟩
    have QP2 := Lib.hid (QP.out.go hb2); have QQ2 := Lib.hid (QQ.out.go hb2); have BR2 := Lib.hid (BR.out.go hb2); have HB2 := Lib.hid (bstep HB.out hb2)
    clear hb2 x0 x1 x2 y0 y1 y2 QP QQ BR HB FP SP
    obtain ⟨o5, k5, c5, o6, k6, c6, ⟨y0, y1, y2⟩, hf⟩ := QQ2.out.open
    have FQ := Lib.hid hf; clear hf
    go_wp2_with fail
    refine (SQ.out _ _ FQ.out).mono ?_; rintro e w3 ⟨rfl, hb3⟩
    have QP3 := Lib.hid (QP2.out.go hb3); have QQ3 := Lib.hid (QQ2.out.go hb3); have BR3 := Lib.hid (BR2.out.go hb3); have HB3 := Lib.hid (bstep HB2.out hb3)
    clear hb3 y0 y1 y2 QP2 QQ2 BR2 HB2 FQ SQ
    obtain ⟨o5, k5, c5, o6, k6, c6, ⟨x0, x1, x2⟩, hf⟩ := QP3.out.open
    have FP := Lib.hid hf; clear hf
    go_wp2_with fail
    refine (DN.out _ _ FP.out).mono ?_; rintro e w4 ⟨v4, rfl, hv4, hb4⟩
    obtain ⟨o7, k7, c7, o8, k8, c8, rfl, hn4, hd4⟩ := hv4
    obtain ⟨qb, bb⟩ := QB.new (W := w4) (q := low) hn4 hd4
    have QL := Lib.hid qb; have QP := Lib.hid ((QP3.out.go hb4).go bb); have QQ := Lib.hid ((QQ3.out.go hb4).go bb); have BR := Lib.hid ((BR3.out.go hb4).go bb); have HB := Lib.hid (bstep (bstep HB3.out hb4) bb)
    have FL := Lib.hid (show RFrac _ (.agg #[.bool low.1, .slice o7 k7 c7, .slice o8 k8 c8]) low.1 low.2.1 low.2.2 from ⟨_, _, _, _, _, _, rfl, hn4.go bb, hd4.go bb⟩)
    clear hn4 hd4 qb bb hb4 QP3 QQ3 BR3 HB3 FP x0 x1 x2 DN
    obtain ⟨o5, k5, c5, o6, k6, c6, ⟨x0, x1, x2⟩, hf⟩ := QP.out.open
    have FP := Lib.hid hf; clear hf
    obtain ⟨y0, y1, y2, -, -, -⟩ := (BoxQ.new w4 (.bool low.1) (.slice o7 k7 c7) (.slice o8 k8 c8)).facts
    obtain ⟨B5, hB5⟩ : ∃ b, w4.heap.size = b := ⟨_, rfl⟩
    go_wp2_with fail
    generalize w4.alloc (.cells #[.bool low.1, .slice o7 k7 c7, .slice o8 k8 c8] 60) = w5 at *
    rw [hB5] at QL y0 y1 y2
    clear hB5
    refine (AG.out _ _ _ FL.out FP.out).mono ?_; rintro e w6 ⟨rfl, hb6⟩
    have QL6 := Lib.hid (QL.out.go hb6); have QP6 := Lib.hid (QP.out.go hb6); have QQ6 := Lib.hid (QQ.out.go hb6); have BR6 := Lib.hid (BR.out.go hb6); have HB6 := Lib.hid (bstep HB.out hb6)
    clear hb6 QL QP QQ BR HB FP FL x0 x1 x2 y0 y1 y2 AG
    by_cases h0 : cc = 0
    · subst h0
      have HRES : Hid (∀ e w', RRetQ w low e w' → RRetQ w z e w') := fun e w' hx => by
        have := HCC.out.1 rfl
        rw [ZE.out, simpl_exact this, ← HLOW.out]; exact hx
      obtain ⟨o9, k9, c9, o10, k10, c10, ⟨y0, y1, y2⟩, ⟨_, _, _, _, _, _, he, hqn, hqd⟩⟩ := QL6.out.open
      cases he
      have QN := Lib.hid hqn; have QD := Lib.hid hqd
      clear hqn hqd
      obtain ⟨x0, x1, x2, f0, f1, f2⟩ := BR6.out.facts
      go_wp2_with fail
      obtain ⟨e0, e1, e2, hn9, hd9, hb9⟩ := boxq_ret (t := low.1) BR6.out QN.out QD.out HB6.out (by omega)
      refine bodyPost_ret (v := .agg #[.bool low.1, .slice o9 k9 c9, .slice o10 k10 c10]) ?_ rfl (HRES.out _ _ ⟨_, rfl, ⟨_, _, _, _, _, _, rfl, hn9, hd9⟩, hb9⟩)
      simp [results, Try.f95, go_sem, e0, e1, e2]
    · have tc : (cc == 0) = false := by rw [beq_eq_false_iff_ne]; exact h0
      have HM : Hid (a % b ≠ 0) := fun h => h0 (HCC.out.2 h)
      clear h0
      go_wp2_with fail
      refine region_inv 5 55 [(31, IsRF low.1 low.2.1 low.2.2), (32, IsRF oneQ.1 oneQ.2.1 oneQ.2.2), (33, IsRF up.1 up.2.1 up.2.2), (34, IsRF q.1 q.2.1 q.2.2), (35, Is (.int .i64 cu))] (by kernel_rfl) rfl (by kernel_rfl) ?_ ?_
      · refine steps_cons rfl (fun A_ W hb hr hg K hK => ?_) <| steps_cons rfl (fun A_ W hb hr hg K hK => ?_) <| steps_cons rfl (fun A_ W hb hr hg K hK => ?_) <| steps_cons rfl (fun A_ W hb hr hg K hK => ?_) <| steps_cons rfl (fun A_ W hb hr hg K hK => ?_) trivial
        · have e0 : A_.tmps[5]?.getD undef = .pointer (some ⟨B5, 0, none⟩) := hb 5 (by kernel_rfl)
          obtain ⟨o1, k1, c1, o2, k2, c2, ⟨x0, x1, x2⟩, hh⟩ := (QL6.out.go hg).open
          have HH := Lib.hid hh
          clear hb hr hh; go_simp; exact hK _ _ (Below.refl _ _) HH.out
        · clear hb hr; go_simp
          refine (OF1.out W).mono ?_; rintro e w5 ⟨v5, rfl, hv5, hb5⟩
          exact hK _ _ hb5 hv5
        · have h1 : RFrac W (A_.tmps[31]?.getD undef) low.1 low.2.1 low.2.2 := hr 31 (by kernel_rfl)
          have H1 := Lib.hid h1
          have h2 : RFrac W (A_.tmps[32]?.getD undef) oneQ.1 oneQ.2.1 oneQ.2.2 := hr 32 (by kernel_rfl)
          have H2 := Lib.hid h2
          clear hb hr h1 h2; go_simp
          refine (PL.out W _ _ H1.out H2.out).mono ?_; rintro e w5 ⟨v5, rfl, hv5, hb5⟩
          exact hK _ _ hb5 hv5
        · have e0 : A_.tmps[3]?.getD undef = .pointer (some ⟨w.heap.size + 1, 0, none⟩) := hb 3 (by kernel_rfl)
          obtain ⟨o1, k1, c1, o2, k2, c2, ⟨x0, x1, x2⟩, hh⟩ := (QQ6.out.go hg).open
          have HH := Lib.hid hh
          clear hb hr hh; go_simp; exact hK _ _ (Below.refl _ _) HH.out
        · have h1 : RFrac W (A_.tmps[33]?.getD undef) up.1 up.2.1 up.2.2 := hr 33 (by kernel_rfl)
          have H1 := Lib.hid h1
          have h2 : RFrac W (A_.tmps[34]?.getD undef) q.1 q.2.1 q.2.2 := hr 34 (by kernel_rfl)
          have H2 := Lib.hid h2
          clear hb hr h1 h2; go_simp
          refine (AU.out W _ _ H1.out H2.out).mono ?_; rintro e w5 ⟨rfl, hb5⟩
          exact hK _ _ hb5 rfl
      rintro g4 w9 hb9 ⟨-, -, -, -, h20, -⟩
      simp only [List.drop_succ_cons, List.drop_zero, List.take_succ_cons, List.take_zero, putHead, Option.getD_some, Act.put, List.setIfInBounds_toArray, List.set_cons_zero, List.set_cons_succ]
      replace h20 : g4 35 = .int .i64 cu := h20
      generalize g4 35 = v36 at *
      subst h20
      have QL := Lib.hid (QL6.out.go hb9); have QP := Lib.hid (QP6.out.go hb9); have QQ := Lib.hid (QQ6.out.go hb9); have BR := Lib.hid (BR6.out.go hb9); have HB := Lib.hid (bstep HB6.out hb9)
      clear hb9 QL6 QP6 QQ6 BR6 HB6 AU tc
      by_cases hle : cu ≤ 0
      · have HRES : Hid (∀ e w', RRetQ w up e w' → RRetQ w z e w') := fun e w' hx => by
          rw [ZE.out, simpl_next HM.out (HCU.out.1 hle), ← HUP.out]; exact hx
        have tl : decide (cu ≤ 0) = true := decide_eq_true hle
        clear hle
        go_wp2_with fail
        refine region_inv 3 55 [(37, IsRF low.1 low.2.1 low.2.2), (38, IsRF oneQ.1 oneQ.2.1 oneQ.2.2), (39, IsRF up.1 up.2.1 up.2.2)] (by kernel_rfl) rfl (by kernel_rfl) ?_ ?_
        · refine steps_cons rfl (fun A_ W hb hr hg K hK => ?_) <| steps_cons rfl (fun A_ W hb hr hg K hK => ?_) <| steps_cons rfl (fun A_ W hb hr hg K hK => ?_) trivial
          · have e0 : A_.tmps[5]?.getD undef = .pointer (some ⟨B5, 0, none⟩) := hb 5 (by kernel_rfl)
            obtain ⟨o1, k1, c1, o2, k2, c2, ⟨x0, x1, x2⟩, hh⟩ := (QL.out.go hg).open
            have HH := Lib.hid hh
            clear hb hr hh; go_simp; exact hK _ _ (Below.refl _ _) HH.out
          · clear hb hr; go_simp
            refine (OF1.out W).mono ?_; rintro e w5 ⟨v5, rfl, hv5, hb5⟩
            exact hK _ _ hb5 hv5
          · have h1 : RFrac W (A_.tmps[37]?.getD undef) low.1 low.2.1 low.2.2 := hr 37 (by kernel_rfl)
            have H1 := Lib.hid h1
            have h2 : RFrac W (A_.tmps[38]?.getD undef) oneQ.1 oneQ.2.1 oneQ.2.2 := hr 38 (by kernel_rfl)
            have H2 := Lib.hid h2
            clear hb hr h1 h2; go_simp
            refine (PL.out W _ _ H1.out H2.out).mono ?_; rintro e w5 ⟨v5, rfl, hv5, hb5⟩
            exact hK _ _ hb5 hv5
        rintro g4 w14 hb14 ⟨-, -, h20, -⟩
        simp only [List.drop_succ_cons, List.drop_zero, List.take_succ_cons, List.take_zero, putHead, Option.getD_some, Act.put, List.setIfInBounds_toArray, List.set_cons_zero, List.set_cons_succ]
        replace h20 : RFrac w14 (g4 39) up.1 up.2.1 up.2.2 := h20
        generalize g4 39 = v20 at *
        obtain ⟨o7, k7, c7, o8, k8, c8, rfl, hqn, hqd⟩ := h20
        have HB9 := Lib.hid (bstep HB.out hb14); have BR9 := Lib.hid (BR.out.go hb14); have QN := Lib.hid hqn; have QD := Lib.hid hqd
        clear hb14 hqn hqd
        obtain ⟨x0, x1, x2, f0, f1, f2⟩ := BR9.out.facts
        go_wp2_with fail
        obtain ⟨e0, e1, e2, hn9, hd9, hb9⟩ := boxq_ret (t := up.1) BR9.out QN.out QD.out HB9.out (by omega)
        refine bodyPost_ret (v := .agg #[.bool up.1, .slice o7 k7 c7, .slice o8 k8 c8]) ?_ rfl (HRES.out _ _ ⟨_, rfl, ⟨_, _, _, _, _, _, rfl, hn9, hd9⟩, hb9⟩)
        simp [results, Try.f95, go_sem, e0, e1, e2]
      · have tl : decide (cu ≤ 0) = false := decide_eq_false hle
        have hm := HM.out
        have h2 : c < (a / b + 1) * d := by rcases Nat.lt_or_ge c ((a / b + 1) * d) with h | h; exact h; exact absurd (HCU.out.2 h) hle
        obtain ⟨-, s1, i1, s2, i2, z1, z2, z3, z4⟩ := RR.out.more hm
        obtain ⟨r1, hr1⟩ : ∃ q : Q3, q = (false, c - a / b * d, d) := ⟨_, rfl⟩
        obtain ⟨r2, hr2⟩ : ∃ q : Q3, q = (false, a % b, b) := ⟨_, rfl⟩
        obtain ⟨j1, hj1⟩ : ∃ q : Q3, q = (false, d, c - a / b * d) := ⟨_, rfl⟩
        obtain ⟨j2, hj2⟩ : ∃ q : Q3, q = (false, b, a % b) := ⟨_, rfl⟩
        have op := HOP.out; have oq := HOQ.out
        rw [HPE.out] at op; rw [HQE.out] at oq
        have lr1 : RLen (c - a / b * d) ≤ 200 := Nat.le_trans (rlen_mono (Nat.sub_le _ _)) oq.2.1
        have lr2 : RLen (a % b) ≤ 200 := Nat.le_trans (rlen_mono (Nat.mod_le _ _)) op.2.1
        have or1 : Ok 200 r1 := by rw [hr1]; exact ⟨z1, lr1, oq.2.2⟩
        have or2 : Ok 200 r2 := by rw [hr2]; exact ⟨z2, lr2, op.2.2⟩
        have oj1 : Ok 200 j1 := by rw [hj1]; exact ⟨z3, oq.2.2, lr1⟩
        have oj2 : Ok 200 j2 := by rw [hj2]; exact ⟨z4, op.2.2, lr2⟩
        obtain ⟨g1, g2⟩ := simpl_between HHB.out HHD.out HLE.out hm
        have sc := simpl_can _ d (c - a / b * d) b (a % b) (Nat.le_refl _) HHD.out (by omega) (by omega) (by rw [Nat.mul_comm d]; exact g2)
        have sb := simpl_bound _ d (c - a / b * d) b (a % b) (Nat.le_refl _) (by omega) (by omega) (by rw [Nat.mul_comm d]; exact g2)
        have ih := HIH.out
        obtain ⟨S, hS⟩ : ∃ S, S = simpl d (c - a / b * d) b (a % b) := ⟨_, rfl⟩
        have hrec := simpl_rec HHB.out hm h2
        rw [← hS] at sc sb hrec
        obtain ⟨s, hs⟩ : ∃ q : Q3, q = (false, S.1, S.2) := ⟨_, rfl⟩
        obtain ⟨t, ht⟩ : ∃ q : Q3, q = (false, S.2, S.1) := ⟨_, rfl⟩
        have os : Ok 200 s := by rw [hs]; exact ⟨can_pos sc.2.1 sc.2.2, Nat.le_trans (rlen_mono sb.1) oq.2.2, Nat.le_trans (rlen_mono sb.2.1) lr1⟩
        have ot : Ok 200 t := by rw [ht]; exact ⟨can_pos sc.1 (Nat.Coprime.symm sc.2.2), Nat.le_trans (rlen_mono sb.2.1) lr1, Nat.le_trans (rlen_mono sb.1) oq.2.2⟩
        have MI1 : Hid (∀ W v u, RFrac W v q.1 q.2.1 q.2.2 → RFrac W u low.1 low.2.1 low.2.2 → Calls Try.prog 73 #[v, u] W (RRetQ W r1)) := fun W v u h k => by
          have := cMinus (HOQ.out.up (by omega)) (HOL.out.up (by omega)) h k
          rwa [show subQ q low = r1 from by rw [HQE.out, HLOW.out, hr1]; exact s1] at this
        have MI2 : Hid (∀ W v u, RFrac W v p.1 p.2.1 p.2.2 → RFrac W u low.1 low.2.1 low.2.2 → Calls Try.prog 73 #[v, u] W (RRetQ W r2)) := fun W v u h k => by
          have := cMinus (HOP.out.up (by omega)) (HOL.out.up (by omega)) h k
          rwa [show subQ p low = r2 from by rw [HPE.out, HLOW.out, hr2]; exact s2] at this
        have OV1 : Hid (∀ W v u, RFrac W v oneQ.1 oneQ.2.1 oneQ.2.2 → RFrac W u r1.1 r1.2.1 r1.2.2 → Calls Try.prog 67 #[v, u] W (RRetQ W j1)) := fun W v u h k => by
          have := cOver (ok_oneQ.up (by omega)) (or1.up (by omega)) (by rw [hr1]; show c - a / b * d ≠ 0; omega) h k
          rwa [show divQ oneQ r1 = j1 from by rw [hr1, hj1]; exact i1] at this
        have OV2 : Hid (∀ W v u, RFrac W v oneQ.1 oneQ.2.1 oneQ.2.2 → RFrac W u r2.1 r2.2.1 r2.2.2 → Calls Try.prog 67 #[v, u] W (RRetQ W j2)) := fun W v u h k => by
          have := cOver (ok_oneQ.up (by omega)) (or2.up (by omega)) (by rw [hr2]; exact hm) h k
          rwa [show divQ oneQ r2 = j2 from by rw [hr2, hj2]; exact i2] at this
        have REC : Hid (∀ W v u, RFrac W v j1.1 j1.2.1 j1.2.2 → RFrac W u j2.1 j2.2.1 j2.2.2 → Calls Try.prog 95 #[v, u] W (RRetQ W s)) := fun W v u h k => by
          rw [hj1] at h; rw [hj2] at k
          have := ih W v u hm h2 h k
          rw [← hS, ← hs] at this; exact this
        have OV3 : Hid (∀ W v u, RFrac W v oneQ.1 oneQ.2.1 oneQ.2.2 → RFrac W u s.1 s.2.1 s.2.2 → Calls Try.prog 67 #[v, u] W (RRetQ W t)) := fun W v u h k => by
          have := cOver (ok_oneQ.up (by omega)) (os.up (by omega)) (by rw [hs]; exact Nat.ne_of_gt sc.1) h k
          rwa [show divQ oneQ s = t from by rw [hs, ht]; exact inv_pos sc.1 sc.2.1 sc.2.2] at this
        have PLR : Hid (∀ W v u, RFrac W v low.1 low.2.1 low.2.2 → RFrac W u t.1 t.2.1 t.2.2 → Calls Try.prog 71 #[v, u] W (RRetQ W z)) := fun W v u h k => by
          have := cPlus (HOL.out.up (by omega)) (ot.up (by omega)) h k
          rwa [show addQ low t = z from by rw [HLOW.out, ht, ZE.out, hrec]; exact add_whole sc.1 (Nat.Coprime.symm sc.2.2)] at this
        have HRES : Hid (∀ e w', RRetQ w z e w' → RRetQ w z e w') := fun _ _ h => h
        clear hle hm h2 s1 i1 s2 i2 z1 z2 z3 z4 hr1 hr2 hj1 hj2 op oq lr1 lr2 or1 or2 oj1 oj2 g1 g2 sc sb ih hS hrec hs ht os ot
        clear HOP HOQ HOL HPE HQE HLOW HUP RR HIH HLE HHB HHD HCU HCC HA HM ZE PL
        go_wp2_with fail
        refine region_inv 15 55 [(40, IsRF low.1 low.2.1 low.2.2), (41, IsRF oneQ.1 oneQ.2.1 oneQ.2.2), (42, IsRF oneQ.1 oneQ.2.1 oneQ.2.2), (43, IsRF q.1 q.2.1 q.2.2), (44, IsRF low.1 low.2.1 low.2.2), (45, IsRF r1.1 r1.2.1 r1.2.2), (46, IsRF j1.1 j1.2.1 j1.2.2), (47, IsRF oneQ.1 oneQ.2.1 oneQ.2.2), (48, IsRF p.1 p.2.1 p.2.2), (49, IsRF low.1 low.2.1 low.2.2), (50, IsRF r2.1 r2.2.1 r2.2.2), (51, IsRF j2.1 j2.2.1 j2.2.2), (52, IsRF s.1 s.2.1 s.2.2), (53, IsRF t.1 t.2.1 t.2.2), (54, IsRF z.1 z.2.1 z.2.2)] (by kernel_rfl) rfl (by kernel_rfl) ?_ ?_
        · refine steps_cons rfl (fun A_ W hb hr hg K hK => ?_) <| steps_cons rfl (fun A_ W hb hr hg K hK => ?_) <| steps_cons rfl (fun A_ W hb hr hg K hK => ?_) <| steps_cons rfl (fun A_ W hb hr hg K hK => ?_) <| steps_cons rfl (fun A_ W hb hr hg K hK => ?_) <| steps_cons rfl (fun A_ W hb hr hg K hK => ?_) <| steps_cons rfl (fun A_ W hb hr hg K hK => ?_) <| steps_cons rfl (fun A_ W hb hr hg K hK => ?_) <| steps_cons rfl (fun A_ W hb hr hg K hK => ?_) <| steps_cons rfl (fun A_ W hb hr hg K hK => ?_) <| steps_cons rfl (fun A_ W hb hr hg K hK => ?_) <| steps_cons rfl (fun A_ W hb hr hg K hK => ?_) <| steps_cons rfl (fun A_ W hb hr hg K hK => ?_) <| steps_cons rfl (fun A_ W hb hr hg K hK => ?_) <| steps_cons rfl (fun A_ W hb hr hg K hK => ?_) trivial
          · have e0 : A_.tmps[5]?.getD undef = .pointer (some ⟨B5, 0, none⟩) := hb 5 (by kernel_rfl)
            obtain ⟨o1, k1, c1, o2, k2, c2, ⟨x0, x1, x2⟩, hh⟩ := (QL.out.go hg).open
            have HH := Lib.hid hh
            clear hb hr hh; go_simp; exact hK _ _ (Below.refl _ _) HH.out
          · clear hb hr; go_simp
            refine (OF1.out W).mono ?_; rintro e w5 ⟨v5, rfl, hv5, hb5⟩
            exact hK _ _ hb5 hv5
          · clear hb hr; go_simp
            refine (OF1.out W).mono ?_; rintro e w5 ⟨v5, rfl, hv5, hb5⟩
            exact hK _ _ hb5 hv5
          · have e0 : A_.tmps[3]?.getD undef = .pointer (some ⟨w.heap.size + 1, 0, none⟩) := hb 3 (by kernel_rfl)
            obtain ⟨o1, k1, c1, o2, k2, c2, ⟨x0, x1, x2⟩, hh⟩ := (QQ.out.go hg).open
            have HH := Lib.hid hh
            clear hb hr hh; go_simp; exact hK _ _ (Below.refl _ _) HH.out
          · have e0 : A_.tmps[5]?.getD undef = .pointer (some ⟨B5, 0, none⟩) := hb 5 (by kernel_rfl)
            obtain ⟨o1, k1, c1, o2, k2, c2, ⟨x0, x1, x2⟩, hh⟩ := (QL.out.go hg).open
            have HH := Lib.hid hh
            clear hb hr hh; go_simp; exact hK _ _ (Below.refl _ _) HH.out
          · have h1 : RFrac W (A_.tmps[43]?.getD undef) q.1 q.2.1 q.2.2 := hr 43 (by kernel_rfl)
            have H1 := Lib.hid h1
            have h2 : RFrac W (A_.tmps[44]?.getD undef) low.1 low.2.1 low.2.2 := hr 44 (by kernel_rfl)
            have H2 := Lib.hid h2
            clear hb hr h1 h2; go_simp
            refine (MI1.out W _ _ H1.out H2.out).mono ?_; rintro e w5 ⟨v5, rfl, hv5, hb5⟩
            exact hK _ _ hb5 hv5
          · have h1 : RFrac W (A_.tmps[42]?.getD undef) oneQ.1 oneQ.2.1 oneQ.2.2 := hr 42 (by kernel_rfl)
            have H1 := Lib.hid h1
            have h2 : RFrac W (A_.tmps[45]?.getD undef) r1.1 r1.2.1 r1.2.2 := hr 45 (by kernel_rfl)
            have H2 := Lib.hid h2
            clear hb hr h1 h2; go_simp
            refine (OV1.out W _ _ H1.out H2.out).mono ?_; rintro e w5 ⟨v5, rfl, hv5, hb5⟩
            exact hK _ _ hb5 hv5
          · clear hb hr; go_simp
            refine (OF1.out W).mono ?_; rintro e w5 ⟨v5, rfl, hv5, hb5⟩
            exact hK _ _ hb5 hv5
          · have e0 : A_.tmps[2]?.getD undef = .pointer (some ⟨w.heap.size, 0, none⟩) := hb 2 (by kernel_rfl)
            obtain ⟨o1, k1, c1, o2, k2, c2, ⟨x0, x1, x2⟩, hh⟩ := (QP.out.go hg).open
            have HH := Lib.hid hh
            clear hb hr hh; go_simp; exact hK _ _ (Below.refl _ _) HH.out
          · have e0 : A_.tmps[5]?.getD undef = .pointer (some ⟨B5, 0, none⟩) := hb 5 (by kernel_rfl)
            obtain ⟨o1, k1, c1, o2, k2, c2, ⟨x0, x1, x2⟩, hh⟩ := (QL.out.go hg).open
            have HH := Lib.hid hh
            clear hb hr hh; go_simp; exact hK _ _ (Below.refl _ _) HH.out
          · have h1 : RFrac W (A_.tmps[48]?.getD undef) p.1 p.2.1 p.2.2 := hr 48 (by kernel_rfl)
            have H1 := Lib.hid h1
            have h2 : RFrac W (A_.tmps[49]?.getD undef) low.1 low.2.1 low.2.2 := hr 49 (by kernel_rfl)
            have H2 := Lib.hid h2
            clear hb hr h1 h2; go_simp
            refine (MI2.out W _ _ H1.out H2.out).mono ?_; rintro e w5 ⟨v5, rfl, hv5, hb5⟩
            exact hK _ _ hb5 hv5
          · have h1 : RFrac W (A_.tmps[47]?.getD undef) oneQ.1 oneQ.2.1 oneQ.2.2 := hr 47 (by kernel_rfl)
            have H1 := Lib.hid h1
            have h2 : RFrac W (A_.tmps[50]?.getD undef) r2.1 r2.2.1 r2.2.2 := hr 50 (by kernel_rfl)
            have H2 := Lib.hid h2
            clear hb hr h1 h2; go_simp
            refine (OV2.out W _ _ H1.out H2.out).mono ?_; rintro e w5 ⟨v5, rfl, hv5, hb5⟩
            exact hK _ _ hb5 hv5
          · have h1 : RFrac W (A_.tmps[46]?.getD undef) j1.1 j1.2.1 j1.2.2 := hr 46 (by kernel_rfl)
            have H1 := Lib.hid h1
            have h2 : RFrac W (A_.tmps[51]?.getD undef) j2.1 j2.2.1 j2.2.2 := hr 51 (by kernel_rfl)
            have H2 := Lib.hid h2
            clear hb hr h1 h2; go_simp
            refine (REC.out W _ _ H1.out H2.out).mono ?_; rintro e w5 ⟨v5, rfl, hv5, hb5⟩
            exact hK _ _ hb5 hv5
          · have h1 : RFrac W (A_.tmps[41]?.getD undef) oneQ.1 oneQ.2.1 oneQ.2.2 := hr 41 (by kernel_rfl)
            have H1 := Lib.hid h1
            have h2 : RFrac W (A_.tmps[52]?.getD undef) s.1 s.2.1 s.2.2 := hr 52 (by kernel_rfl)
            have H2 := Lib.hid h2
            clear hb hr h1 h2; go_simp
            refine (OV3.out W _ _ H1.out H2.out).mono ?_; rintro e w5 ⟨v5, rfl, hv5, hb5⟩
            exact hK _ _ hb5 hv5
          · have h1 : RFrac W (A_.tmps[40]?.getD undef) low.1 low.2.1 low.2.2 := hr 40 (by kernel_rfl)
            have H1 := Lib.hid h1
            have h2 : RFrac W (A_.tmps[53]?.getD undef) t.1 t.2.1 t.2.2 := hr 53 (by kernel_rfl)
            have H2 := Lib.hid h2
            clear hb hr h1 h2; go_simp
            refine (PLR.out W _ _ H1.out H2.out).mono ?_; rintro e w5 ⟨v5, rfl, hv5, hb5⟩
            exact hK _ _ hb5 hv5
        rintro g4 w14 hb14 ⟨-, -, -, -, -, -, -, -, -, -, -, -, -, -, h20, -⟩
        simp only [List.drop_succ_cons, List.drop_zero, List.take_succ_cons, List.take_zero, putHead, Option.getD_some, Act.put, List.setIfInBounds_toArray, List.set_cons_zero, List.set_cons_succ]
        replace h20 : RFrac w14 (g4 54) z.1 z.2.1 z.2.2 := h20
        generalize g4 54 = v20 at *
        obtain ⟨o7, k7, c7, o8, k8, c8, rfl, hqn, hqd⟩ := h20
        have HB9 := Lib.hid (bstep HB.out hb14); have BR9 := Lib.hid (BR.out.go hb14); have QN := Lib.hid hqn; have QD := Lib.hid hqd
        clear hb14 hqn hqd
        obtain ⟨x0, x1, x2, f0, f1, f2⟩ := BR9.out.facts
        go_wp2_with fail
        obtain ⟨e0, e1, e2, hn9, hd9, hb9⟩ := boxq_ret (t := z.1) BR9.out QN.out QD.out HB9.out (by omega)
        refine bodyPost_ret (v := .agg #[.bool z.1, .slice o7 k7 c7, .slice o8 k8 c8]) ?_ rfl (HRES.out _ _ ⟨_, rfl, ⟨_, _, _, _, _, _, rfl, hn9, hd9⟩, hb9⟩)
        simp [results, Try.f95, go_sem, e0, e1, e2]
theorem rsim_pos : ∀ (N : Nat) (w : World) (v u : Value) (a b c d : Nat), b + d ≤ N → RFrac w v false a b → RFrac w u false c d → 0 < a → Ok 200 (false, a, b) → Ok 200 (false, c, d) → a * d ≤ c * b →
    Calls Try.prog 95 #[v, u] w (RRetQ w (false, (simpl a b c d).1, (simpl a b c d).2)) := by
  intro N
  induction N with
  | zero => intro w v u a b c d hN h k ha op oq hle; have h1 : 0 < b := op.1.1; omega
  | succ N ih =>
    intro w v u a b c d hN h k ha op oq hle
    have hb : 0 < b := op.1.1
    have hd : 0 < d := oq.1.1
    refine rsim_step h k ha op oq hle fun W v u hm h2 k1 k2 => ?_
    obtain ⟨g1, g2⟩ := simpl_between hb hd hle hm
    have hl := Nat.mod_lt a hb
    have g3 : c - a / b * d < d := by rw [Nat.add_mul, Nat.one_mul] at h2; omega
    have R := (simR hb hd op.1.2.1 oq.1.2.1 hle).more hm
    exact ih W v u d (c - a / b * d) b (a % b) (by omega) k1 k2 hd
      ⟨R.2.2.2.2.2.2.2.1, oq.2.2, Nat.le_trans (rlen_mono (Nat.sub_le _ _)) oq.2.1⟩
      ⟨R.2.2.2.2.2.2.2.2, op.2.2, Nat.le_trans (rlen_mono (Nat.mod_le _ _)) op.2.1⟩
      (by rw [Nat.mul_comm d]; exact g2)

end Go.Proofs.Ytlkdahgfnfdakaa
