/- The reference's simplest, of any two numbers in order. -/
import Derived.Test.YtlkdahgfnfdakaaRefZ5
namespace Go.Proofs.Ytlkdahgfnfdakaa
open Go Go.RowKit Go.Shelf WN LM

theorem rsim_two {w : World} {v u : Value} {p q : Q3} (op : Ok 100 p) (oq : Ok 100 q) (hle : cmpQ p q ≤ 0) (h : RFrac w v p.1 p.2.1 p.2.2) (k : RFrac w u q.1 q.2.1 q.2.2) (hp : 0 < signQ p) :
    Calls Try.prog 95 #[v, u] w (RRetQ w (simQ p q)) := by
  obtain ⟨s, a, b⟩ := p
  obtain ⟨t, c, d⟩ := q
  obtain ⟨hs, ha⟩ := sgn_pos.1 hp
  have hs : s = false := hs
  subst hs
  have hcl := cmpQ_le op.1.2.2 oq.1.2.2 op.1.1 oq.1.1 (by omega)
  have hpq := hcl.2.1 rfl
  have ht : t = false := by
    cases t
    · rfl
    · exact (hcl.2.2 rfl rfl).elim
  subst ht
  have e : simQ (false, a, b) (false, c, d) = (false, (simpl a b c d).1, (simpl a b c d).2) := by
    unfold simQ
    have h2 : ¬ signQ (false, a, b) ≤ 0 := by omega
    rw [show ((false, a, b) : Q3).1 = false from rfl, Bool.false_and, if_neg (by decide), if_neg h2]
  rw [e]
  exact rsim_pos _ w v u a b c d (Nat.le_refl _) h k (Nat.pos_of_ne_zero ha) (op.up (by omega)) (oq.up (by omega)) hpq

set_option maxHeartbeats 4000000 in
set_option maxRecDepth 100000 in
theorem rsim_zero {w : World} {v u : Value} {p q : Q3} (op : Can p) (oq : Can q) (h : RFrac w v p.1 p.2.1 p.2.2) (k : RFrac w u q.1 q.2.1 q.2.2) (hp : signQ p ≤ 0) (hq : 0 ≤ signQ q) :
    Calls Try.prog 95 #[v, u] w (RRetQ w (false, 0, 1)) := by
  obtain ⟨sp, hsp⟩ : ∃ i, signQ p = i := ⟨_, rfl⟩
  obtain ⟨sq, hsq⟩ : ∃ i, signQ q = i := ⟨_, rfl⟩
  have SP : Hid (∀ W v, RFrac W v p.1 p.2.1 p.2.2 → Calls Try.prog 86 #[v] W (RetI W sp)) := fun W v h => by rw [← hsp]; exact cSign op h
  have SQ : Hid (∀ W v, RFrac W v q.1 q.2.1 q.2.2 → Calls Try.prog 86 #[v] W (RetI W sq)) := fun W v h => by rw [← hsq]; exact cSign oq h
  have tp : decide (sp ≤ 0) = true := decide_eq_true (by omega)
  have tq : decide (0 ≤ sq) = true := decide_eq_true (by omega)
  have OF0 : Hid (∀ W, Calls Try.prog 66 #[.int .i64 0] W (RRetQ W (false, 0, 1))) := cOf0
  obtain ⟨z, hz⟩ : ∃ z : Q3, z = (false, 0, 1) := ⟨_, rfl⟩
  rw [← hz] at OF0 ⊢
  obtain ⟨o1, k1, c1, o2, k2, c2, rfl, hn, hd⟩ := h
  obtain ⟨o3, k3, c3, o4, k4, c4, rfl, hm, hc⟩ := k
  obtain ⟨B1, bA, bB, bR⟩ := boxesQ3 w (.bool p.1) (.slice o1 k1 c1) (.slice o2 k2 c2) (.bool q.1) (.slice o3 k3 c3) (.slice o4 k4 c4) (.bool false) (.slice none 0 0) (.slice none 0 0)
  have QP := Lib.hid (show QB _ w.heap.size p from ⟨_, _, _, _, _, _, bA, hn.go B1, hd.go B1⟩)
  have QQ := Lib.hid (show QB _ (w.heap.size + 1) q from ⟨_, _, _, _, _, _, bB, hm.go B1, hc.go B1⟩)
  have BR := Lib.hid bR; have HB := Lib.hid B1
  have FP := Lib.hid (show RFrac _ (.agg #[.bool p.1, .slice o1 k1 c1, .slice o2 k2 c2]) p.1 p.2.1 p.2.2 from ⟨_, _, _, _, _, _, rfl, hn.go B1, hd.go B1⟩)
  obtain ⟨x0, x1, x2, -, -, -⟩ := bA.facts
  clear hn hd hm hc bA bB bR B1 op oq hp hq hsp hsq hz
  go_enter Try.func95, Try.ntmps95
  go_wp2_with fail
  generalize ((w.alloc (.cells #[.bool p.1, .slice o1 k1 c1, .slice o2 k2 c2] 60)).alloc (.cells #[.bool q.1, .slice o3 k3 c3, .slice o4 k4 c4] 60)).alloc (.cells #[.bool false, .slice none 0 0, .slice none 0 0] 60) = w1 at *
  refine (SP.out _ _ FP.out).mono ?_; rintro e w2 ⟨rfl, hb2⟩
  have QP2 := Lib.hid (QP.out.go hb2); have QQ2 := Lib.hid (QQ.out.go hb2); have BR2 := Lib.hid (BR.out.go hb2); have HB2 := Lib.hid (bstep HB.out hb2)
  clear hb2 x0 x1 x2 QP QQ BR HB FP SP
  obtain ⟨o5, k5, c5, o6, k6, c6, ⟨y0, y1, y2⟩, hf⟩ := QQ2.out.open
  have FQ := Lib.hid hf; clear hf
  go_wp2_with fail
  refine (SQ.out _ _ FQ.out).mono ?_; rintro e w3 ⟨rfl, hb3⟩
  have QP3 := Lib.hid (QP2.out.go hb3); have QQ3 := Lib.hid (QQ2.out.go hb3); have BR3 := Lib.hid (BR2.out.go hb3); have HB3 := Lib.hid (bstep HB2.out hb3)
  clear hb3 y0 y1 y2 QP2 QQ2 BR2 HB2 FQ
  clear SQ
  go_wp2_with fail
  refine (OF0.out _).mono ?_; rintro e w4 ⟨v4, rfl, hv4, hb4⟩
  obtain ⟨o7, k7, c7, o8, k8, c8, rfl, hqn, hqd⟩ := hv4
  have HB9 := Lib.hid (bstep HB3.out hb4); have BR9 := Lib.hid (BR3.out.go hb4); have QN := Lib.hid hqn; have QD := Lib.hid hqd
  clear hb4 hqn hqd
  obtain ⟨x0, x1, x2, f0, f1, f2⟩ := BR9.out.facts
  go_wp2_with fail
  obtain ⟨e0, e1, e2, hn9, hd9, hb9⟩ := boxq_ret (t := z.1) BR9.out QN.out QD.out HB9.out (by omega)
  refine bodyPost_ret (v := .agg #[.bool z.1, .slice o7 k7 c7, .slice o8 k8 c8]) ?_ rfl ⟨_, rfl, ⟨_, _, _, _, _, _, rfl, hn9, hd9⟩, hb9⟩
  simp [results, Try.f95, go_sem, e0, e1, e2]

set_option maxHeartbeats 4000000 in
set_option maxRecDepth 100000 in
theorem rsim_both {w : World} {v u : Value} {p q r : Q3} (op : Can p) (oq : Can q) (h : RFrac w v p.1 p.2.1 p.2.2) (k : RFrac w u q.1 q.2.1 q.2.2) (hp : signQ p = -1) (hq : signQ q = -1)
    (hrec : ∀ W v u, RFrac W v (negQ q).1 (negQ q).2.1 (negQ q).2.2 → RFrac W u (negQ p).1 (negQ p).2.1 (negQ p).2.2 → Calls Try.prog 95 #[v, u] W (RRetQ W r)) :
    Calls Try.prog 95 #[v, u] w (RRetQ w (negQ r)) := by
  have SP : Hid (∀ W v, RFrac W v p.1 p.2.1 p.2.2 → Calls Try.prog 86 #[v] W (RetI W (-1))) := fun W v h => by rw [← hp]; exact cSign op h
  have SQ : Hid (∀ W v, RFrac W v q.1 q.2.1 q.2.2 → Calls Try.prog 86 #[v] W (RetI W (-1))) := fun W v h => by rw [← hq]; exact cSign oq h
  obtain ⟨np, hnp⟩ : ∃ x, x = negQ p := ⟨_, rfl⟩
  obtain ⟨nq, hnq⟩ : ∃ x, x = negQ q := ⟨_, rfl⟩
  obtain ⟨z, hz⟩ : ∃ x, x = negQ r := ⟨_, rfl⟩
  have OP : Hid (∀ W v, RFrac W v p.1 p.2.1 p.2.2 → Calls Try.prog 115 #[v] W (RRetQ W np)) := fun W v h => by rw [hnp]; exact cOpp h
  have OQ : Hid (∀ W v, RFrac W v q.1 q.2.1 q.2.2 → Calls Try.prog 115 #[v] W (RRetQ W nq)) := fun W v h => by rw [hnq]; exact cOpp h
  have OR : Hid (∀ W v, RFrac W v r.1 r.2.1 r.2.2 → Calls Try.prog 115 #[v] W (RRetQ W z)) := fun W v h => by rw [hz]; exact cOpp h
  rw [← hnp, ← hnq] at hrec
  rw [← hz]
  have REC := Lib.hid hrec
  have HRES : Hid (∀ e w', RRetQ w z e w' → RRetQ w z e w') := fun _ _ h => h
  obtain ⟨o1, k1, c1, o2, k2, c2, rfl, hn, hd⟩ := h
  obtain ⟨o3, k3, c3, o4, k4, c4, rfl, hm, hc⟩ := k
  obtain ⟨B1, bA, bB, bR⟩ := boxesQ3 w (.bool p.1) (.slice o1 k1 c1) (.slice o2 k2 c2) (.bool q.1) (.slice o3 k3 c3) (.slice o4 k4 c4) (.bool false) (.slice none 0 0) (.slice none 0 0)
  have QP := Lib.hid (show QB _ w.heap.size p from ⟨_, _, _, _, _, _, bA, hn.go B1, hd.go B1⟩)
  have QQ := Lib.hid (show QB _ (w.heap.size + 1) q from ⟨_, _, _, _, _, _, bB, hm.go B1, hc.go B1⟩)
  have BR := Lib.hid bR; have HB := Lib.hid B1
  have FP := Lib.hid (show RFrac _ (.agg #[.bool p.1, .slice o1 k1 c1, .slice o2 k2 c2]) p.1 p.2.1 p.2.2 from ⟨_, _, _, _, _, _, rfl, hn.go B1, hd.go B1⟩)
  obtain ⟨x0, x1, x2, -, -, -⟩ := bA.facts
  clear hn hd hm hc bA bB bR B1 op oq hp hq hrec hnp hnq hz
  go_enter Try.func95, Try.ntmps95
  go_wp2_with fail
  generalize ((w.alloc (.cells #[.bool p.1, .slice o1 k1 c1, .slice o2 k2 c2] 60)).alloc (.cells #[.bool q.1, .slice o3 k3 c3, .slice o4 k4 c4] 60)).alloc (.cells #[.bool false, .slice none 0 0, .slice none 0 0] 60) = w1 at *
  refine (SP.out _ _ FP.out).mono ?_; rintro e w2 ⟨rfl, hb2⟩
  have QP2 := Lib.hid (QP.out.go hb2); have QQ2 := Lib.hid (QQ.out.go hb2); have BR2 := Lib.hid (BR.out.go hb2); have HB2 := Lib.hid (bstep HB.out hb2)
  clear hb2 x0 x1 x2 QP QQ BR HB FP SP
  obtain ⟨o5, k5, c5, o6, k6, c6, ⟨y0, y1, y2⟩, hf⟩ := QQ2.out.open
  have FQ := Lib.hid hf; clear hf
  go_wp2_with fail
  refine (SQ.out _ _ FQ.out).mono ?_; rintro e w3 ⟨rfl, hb3⟩
  have QP3 := Lib.hid (QP2.out.go hb3); have QQ3 := Lib.hid (QQ2.out.go hb3); have BR3 := Lib.hid (BR2.out.go hb3); have HB3 := Lib.hid (bstep HB2.out hb3)
  clear hb3 y0 y1 y2 QP2 QQ2 BR2 HB2 FQ
  obtain ⟨o5, k5, c5, o6, k6, c6, ⟨y0, y1, y2⟩, hf⟩ := QQ3.out.open
  have FQ := Lib.hid hf; clear hf
  go_wp2_with fail
  refine (SQ.out _ _ FQ.out).mono ?_; rintro e w4 ⟨rfl, hb4⟩
  have QP := Lib.hid (QP3.out.go hb4); have QQ := Lib.hid (QQ3.out.go hb4); have BR := Lib.hid (BR3.out.go hb4); have HB := Lib.hid (bstep HB3.out hb4)
  clear hb4 y0 y1 y2 QP3 QQ3 BR3 HB3 FQ SQ
  go_wp2_with fail
  refine region_inv 6 55 [(18, IsRF q.1 q.2.1 q.2.2), (19, IsRF nq.1 nq.2.1 nq.2.2), (20, IsRF p.1 p.2.1 p.2.2), (21, IsRF np.1 np.2.1 np.2.2), (22, IsRF r.1 r.2.1 r.2.2), (23, IsRF z.1 z.2.1 z.2.2)] (by kernel_rfl) rfl (by kernel_rfl) ?_ ?_
  · refine steps_cons rfl (fun A_ W hb hr hg K hK => ?_) <| steps_cons rfl (fun A_ W hb hr hg K hK => ?_) <| steps_cons rfl (fun A_ W hb hr hg K hK => ?_) <| steps_cons rfl (fun A_ W hb hr hg K hK => ?_) <| steps_cons rfl (fun A_ W hb hr hg K hK => ?_) <| steps_cons rfl (fun A_ W hb hr hg K hK => ?_) trivial
    · have e0 : A_.tmps[3]?.getD undef = .pointer (some ⟨w.heap.size + 1, 0, none⟩) := hb 3 (by kernel_rfl)
      obtain ⟨o1, k1, c1, o2, k2, c2, ⟨x0, x1, x2⟩, hh⟩ := (QQ.out.go hg).open
      have HH := Lib.hid hh
      clear hb hr hh; go_simp; exact hK _ _ (Below.refl _ _) HH.out
    · have h1 : RFrac W (A_.tmps[18]?.getD undef) q.1 q.2.1 q.2.2 := hr 18 (by kernel_rfl)
      have H1 := Lib.hid h1
      clear hb hr h1; go_simp
      refine (OQ.out W _ H1.out).mono ?_; rintro e w5 ⟨v5, rfl, hv5, hb5⟩
      exact hK _ _ hb5 hv5
    · have e0 : A_.tmps[2]?.getD undef = .pointer (some ⟨w.heap.size, 0, none⟩) := hb 2 (by kernel_rfl)
      obtain ⟨o1, k1, c1, o2, k2, c2, ⟨x0, x1, x2⟩, hh⟩ := (QP.out.go hg).open
      have HH := Lib.hid hh
      clear hb hr hh; go_simp; exact hK _ _ (Below.refl _ _) HH.out
    · have h1 : RFrac W (A_.tmps[20]?.getD undef) p.1 p.2.1 p.2.2 := hr 20 (by kernel_rfl)
      have H1 := Lib.hid h1
      clear hb hr h1; go_simp
      refine (OP.out W _ H1.out).mono ?_; rintro e w5 ⟨v5, rfl, hv5, hb5⟩
      exact hK _ _ hb5 hv5
    · have h1 : RFrac W (A_.tmps[19]?.getD undef) nq.1 nq.2.1 nq.2.2 := hr 19 (by kernel_rfl)
      have H1 := Lib.hid h1
      have h2 : RFrac W (A_.tmps[21]?.getD undef) np.1 np.2.1 np.2.2 := hr 21 (by kernel_rfl)
      have H2 := Lib.hid h2
      clear hb hr h1 h2; go_simp
      refine (REC.out W _ _ H1.out H2.out).mono ?_; rintro e w5 ⟨v5, rfl, hv5, hb5⟩
      exact hK _ _ hb5 hv5
    · have h1 : RFrac W (A_.tmps[22]?.getD undef) r.1 r.2.1 r.2.2 := hr 22 (by kernel_rfl)
      have H1 := Lib.hid h1
      clear hb hr h1; go_simp
      refine (OR.out W _ H1.out).mono ?_; rintro e w5 ⟨v5, rfl, hv5, hb5⟩
      exact hK _ _ hb5 hv5
  rintro g4 w14 hb14 ⟨-, -, -, -, -, h20, -⟩
  simp only [List.drop_succ_cons, List.drop_zero, List.take_succ_cons, List.take_zero, putHead, Option.getD_some, Act.put, List.setIfInBounds_toArray, List.set_cons_zero, List.set_cons_succ]
  replace h20 : RFrac w14 (g4 23) z.1 z.2.1 z.2.2 := h20
  generalize g4 23 = v20 at *
  obtain ⟨o7, k7, c7, o8, k8, c8, rfl, hqn, hqd⟩ := h20
  have HB9 := Lib.hid (bstep HB.out hb14); have BR9 := Lib.hid (BR.out.go hb14); have QN := Lib.hid hqn; have QD := Lib.hid hqd
  clear hb14 hqn hqd
  obtain ⟨x0, x1, x2, f0, f1, f2⟩ := BR9.out.facts
  go_wp2_with fail
  obtain ⟨e0, e1, e2, hn9, hd9, hb9⟩ := boxq_ret (t := z.1) BR9.out QN.out QD.out HB9.out (by omega)
  refine bodyPost_ret (v := .agg #[.bool z.1, .slice o7 k7 c7, .slice o8 k8 c8]) ?_ rfl (HRES.out _ _ ⟨_, rfl, ⟨_, _, _, _, _, _, rfl, hn9, hd9⟩, hb9⟩)
  simp [results, Try.f95, go_sem, e0, e1, e2]

theorem rsim_any {w : World} {v u : Value} {p q : Q3} (op : Ok 100 p) (oq : Ok 100 q) (hle : cmpQ p q ≤ 0) (h : RFrac w v p.1 p.2.1 p.2.2) (k : RFrac w u q.1 q.2.1 q.2.2) :
    Calls Try.prog 95 #[v, u] w (RRetQ w (simQ p q)) := by
  by_cases hp : 0 < signQ p
  · exact rsim_two op oq hle h k hp
  · by_cases hq : 0 ≤ signQ q
    · have e : simQ p q = (false, 0, 1) := by
        unfold simQ
        have hq1 : q.1 = false := by
          cases hh : q.1
          · rfl
          · unfold signQ sgn at hq; rw [hh] at hq; simp at hq
        rw [hq1, Bool.and_false, if_neg (by decide), if_pos (by omega)]
      rw [e]
      exact rsim_zero op.1 oq.1 h k (by omega) hq
    · obtain ⟨s, a, b⟩ := p
      obtain ⟨t, c, d⟩ := q
      have ht : t = true := by
        cases t
        · exfalso; apply hq; show 0 ≤ sgn false c; unfold sgn; simp; split <;> omega
        · rfl
      subst ht
      have hcl := cmpQ_le op.1.2.2 oq.1.2.2 op.1.1 oq.1.1 (by omega)
      have hs : s = true := by
        cases s
        · exact (hcl.2.2 rfl rfl).elim
        · rfl
      subst hs
      have ha : a ≠ 0 := op.1.2.2 rfl
      have hc : c ≠ 0 := oq.1.2.2 rfl
      have np : negQ (true, a, b) = (false, a, b) := rfl
      have nq : negQ (true, c, d) = (false, c, d) := rfl
      have hpq := hcl.1 rfl rfl
      have e : simQ (true, a, b) (true, c, d) = negQ (false, (simpl c d a b).1, (simpl c d a b).2) := by
        unfold simQ
        rw [if_pos (by rfl)]
        rfl
      rw [e]
      refine rsim_both op.1 oq.1 h k (by show sgn true a = -1; rfl) (by show sgn true c = -1; rfl) fun W v u h1 h2 => ?_
      rw [nq] at h1; rw [np] at h2
      exact rsim_pos _ W v u c d a b (Nat.le_refl _) h1 h2 (Nat.pos_of_ne_zero hc) (by have := (ok_neg oq).up (show 100 ≤ 200 by omega); rwa [nq] at this) (by have := (ok_neg op).up (show 100 ≤ 200 by omega); rwa [np] at this) hpq
end Go.Proofs.Ytlkdahgfnfdakaa
