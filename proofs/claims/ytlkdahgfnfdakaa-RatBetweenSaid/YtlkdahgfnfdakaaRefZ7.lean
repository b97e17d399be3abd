/- The reference's Times, Multiple, Simplest of texts. -/
import Derived.Test.YtlkdahgfnfdakaaRefZ6
namespace Go.Proofs.Ytlkdahgfnfdakaa
open Go Go.RowKit Go.Shelf WN LM

def timesQ (p q : Q3) : Bool := !(divQ p q).1 && decide ((divQ p q).2.2 = 1)
theorem times_sign {p q : Q3} (hp : Can p) (hq : Can q) (h0 : 0 < signQ q) : timesQ p q = (decide (0 ≤ signQ p) && decide ((divQ p q).2.2 = 1)) := by
  obtain ⟨hs, hm⟩ := sgn_pos.1 h0
  have e : (!(divQ p q).1) = decide (0 ≤ signQ p) := by
    rw [← low_div hp hq hm]
    show (!((p.1 != q.1) && decide (p.2.1 * q.2.2 ≠ 0))) = _
    rw [hs]
    unfold signQ sgn
    cases hpp : p.1
    · simp; split <;> omega
    · have h1 := hp.2.2 hpp
      have h2 : p.2.1 * q.2.2 ≠ 0 := Nat.mul_ne_zero h1 (Nat.ne_of_gt hq.1)
      simp [h2]
  unfold timesQ
  rw [e]
set_option maxHeartbeats 4000000 in
set_option maxRecDepth 100000 in
theorem rTimes_any {w : World} {v u : Value} {p q : Q3} (op : Ok 100 p) (oq : Ok 100 q) (h : RFrac w v p.1 p.2.1 p.2.2) (k : RFrac w u q.1 q.2.1 q.2.2) (h0 : 0 < signQ q) : Calls Try.prog 97 #[v, u] w (RetB w (timesQ p q)) := by
  have hm := (sgn_pos.1 h0).2
  rw [times_sign op.1 oq.1 h0]
  obtain ⟨r, hr⟩ : ∃ r, r = divQ p q := ⟨_, rfl⟩
  have or' : Ok 200 r := by rw [hr]; exact ok_div op oq hm
  obtain ⟨sp, hsp⟩ : ∃ i, signQ p = i := ⟨_, rfl⟩
  rw [hsp, ← hr]
  have SP : Hid (∀ W v, RFrac W v p.1 p.2.1 p.2.2 → Calls Try.prog 86 #[v] W (RetI W sp)) := fun W v h => by rw [← hsp]; exact cSign op.1 h
  have OV : Hid (∀ W v u, RFrac W v p.1 p.2.1 p.2.2 → RFrac W u q.1 q.2.1 q.2.2 → Calls Try.prog 67 #[v, u] W (RRetQ W r)) := fun W v u h k => by rw [hr]; exact cOver (op.up (by omega)) (oq.up (by omega)) hm h k
  obtain ⟨b, hb⟩ : ∃ b, b = decide (r.2.2 = 1) := ⟨_, rfl⟩
  have WH : Hid (∀ W v, RFrac W v r.1 r.2.1 r.2.2 → Calls Try.prog 83 #[v] W (RetB W b)) := fun W v h => by rw [hb]; exact cWhole (or'.up (by omega)) h
  rw [← hb]
  obtain ⟨o1, k1, c1, o2, k2, c2, rfl, hn, hd⟩ := h
  obtain ⟨o3, k3, c3, o4, k4, c4, rfl, hm', hc⟩ := k
  obtain ⟨B1, bA, bB⟩ := boxesQ2 w (.bool p.1) (.slice o1 k1 c1) (.slice o2 k2 c2) (.bool q.1) (.slice o3 k3 c3) (.slice o4 k4 c4)
  have QP := Lib.hid (show QB _ w.heap.size p from ⟨_, _, _, _, _, _, bA, hn.go B1, hd.go B1⟩)
  have QQ := Lib.hid (show QB _ (w.heap.size + 1) q from ⟨_, _, _, _, _, _, bB, hm'.go B1, hc.go B1⟩)
  have HB := Lib.hid B1
  have FP := Lib.hid (show RFrac _ (.agg #[.bool p.1, .slice o1 k1 c1, .slice o2 k2 c2]) p.1 p.2.1 p.2.2 from ⟨_, _, _, _, _, _, rfl, hn.go B1, hd.go B1⟩)
  obtain ⟨x0, x1, x2, -, -, -⟩ := bA.facts
  clear hn hd hm' hc bA bB B1 op oq h0 hm hr or' hsp hb
  go_enter Try.func97, Try.ntmps97
  go_wp2_with fail
  generalize ((w.alloc (.cells #[.bool p.1, .slice o1 k1 c1, .slice o2 k2 c2] 60)).alloc (.cells #[.bool q.1, .slice o3 k3 c3, .slice o4 k4 c4] 60)) = w1 at *
  refine (SP.out _ _ FP.out).mono ?_; rintro e w2 ⟨rfl, hb2⟩
  have QP2 := Lib.hid (QP.out.go hb2); have QQ2 := Lib.hid (QQ.out.go hb2); have HB2 := Lib.hid (bstep HB.out hb2)
  clear hb2 x0 x1 x2 QP QQ HB FP SP
  rcases Bool.eq_false_or_eq_true (decide (0 ≤ sp)) with t1 | t1
  · rw [t1]
    obtain ⟨o5, k5, c5, o6, k6, c6, ⟨x0, x1, x2⟩, hf⟩ := QP2.out.open
    have FP := Lib.hid hf; clear hf
    obtain ⟨o7, k7, c7, o8, k8, c8, ⟨y0, y1, y2⟩, hf⟩ := QQ2.out.open
    have FQ := Lib.hid hf; clear hf
    go_wp2_with fail
    refine (OV.out _ _ _ FP.out FQ.out).mono ?_; rintro e w3 ⟨v3, rfl, hv3, hb3⟩
    have HV3 := Lib.hid hv3; have HB3 := Lib.hid (bstep HB2.out hb3)
    clear hv3 hb3 x0 x1 x2 y0 y1 y2 FP FQ QP2 QQ2
    go_wp2_with fail
    refine (WH.out _ _ HV3.out).mono ?_; rintro e w4 ⟨rfl, hb4⟩
    have HB4 := Lib.hid (bstep HB3.out hb4); clear hb4
    go_wp2_with fail
    go_ret
    exact ⟨by rw [t1]; rfl, HB4.out⟩
  · rw [t1]
    go_wp2_with fail
    go_ret
    exact ⟨by rw [t1]; rfl, HB2.out⟩

theorem simQ_small {p q : Q3} (op : Ok 100 p) (oq : Ok 100 q) (hpq : p.1 = true → q.1 = true → q.2.1 * p.2.2 ≤ p.2.1 * q.2.2) (hpq2 : p.1 = false → p.2.1 * q.2.2 ≤ q.2.1 * p.2.2) : RLen (simQ p q).2.1 ≤ 100 ∧ RLen (simQ p q).2.2 ≤ 100 := by
  unfold simQ
  split
  · rename_i h
    simp only [Bool.and_eq_true] at h
    have b := simpl_bound _ q.2.1 q.2.2 p.2.1 p.2.2 (Nat.le_refl _) oq.1.1 op.1.1 (hpq h.1 h.2)
    exact ⟨Nat.le_trans (rlen_mono b.1) oq.2.1, Nat.le_trans (rlen_mono b.2.1) oq.2.2⟩
  · split
    · exact ⟨by show RLen 0 ≤ _; rw [rlen_zero]; omega, by show RLen 1 ≤ _; rw [rlen_one]; omega⟩
    · rename_i h h'
      have hs : p.1 = false := by
        cases hp : p.1
        · rfl
        · exfalso; apply h'; unfold signQ sgn; rw [hp, if_pos rfl]; omega
      have b := simpl_bound _ p.2.1 p.2.2 q.2.1 q.2.2 (Nat.le_refl _) op.1.1 oq.1.1 (hpq2 hs)
      exact ⟨Nat.le_trans (rlen_mono b.1) op.2.1, Nat.le_trans (rlen_mono b.2.1) op.2.2⟩

set_option maxHeartbeats 4000000 in
set_option maxRecDepth 100000 in
theorem rMultiple_any (w : World) (a b : ByteArray) (ha : a.size ≤ 140737488355328) (hb : b.size ≤ 140737488355328) : Calls Try.prog 51 #[.string a, .string b] w (OutB w (multT a b)) := by
  have RA := Lib.hid (rread_any a w ha)
  have RB : Hid (∀ W, Calls Try.prog 57 #[.string b] W (RReadOut W (readQ b.data.toList))) := fun W => rread_any b W hb
  clear ha hb
  go_enter Try.func51, Try.ntmps51
  go_wp2_with fail
  refine RA.out.mono ?_; rintro e w1 ⟨v1, hb1, h⟩
  have HB1 := Lib.hid hb1; clear hb1
  cases hp : readQ a.data.toList with
  | none =>
    rw [hp] at h
    have HR : Hid (multT a b = (false, (1 : Int))) := by show _ = _; unfold multT twoG; rw [hp]
    obtain ⟨rfl, rfl⟩ := h
    clear hp
    have HB2 := Lib.hid (bstep HB1.out (below_alloc w1 (.cells #[.bool false, .slice none 0 0, .slice none 0 0] 60)))
    go_wp2_with fail
    generalize w1.alloc (.cells #[.bool false, .slice none 0 0, .slice none 0 0] 60) = w1a at *
    refine (RB.out _).mono ?_; rintro e w2 ⟨v2, hb2, k⟩
    have HB3 := Lib.hid (bstep HB2.out hb2); clear hb2
    cases hq : readQ b.data.toList with
    | none =>
      rw [hq] at k
      obtain ⟨rfl, rfl⟩ := k
      have HBE := Lib.hid (bstep HB3.out (below_alloc w2 (.cells #[.bool false, .slice none 0 0, .slice none 0 0] 60)))
      clear hq
      go_wp2_with fail
      go_ret2
      exact ⟨by rw [HR.out]; rfl, HBE.out⟩
    | some q =>
      rw [hq] at k
      obtain ⟨t, m, c⟩ := q
      obtain ⟨rfl, o3, k3, c3, o4, k4, c4, rfl, -, -⟩ := k
      have HBE := Lib.hid (bstep HB3.out (below_alloc w2 (.cells #[.bool t, .slice o3 k3 c3, .slice o4 k4 c4] 60)))
      clear hq
      go_wp2_with fail
      go_ret2
      exact ⟨by rw [HR.out]; rfl, HBE.out⟩
  | some p =>
    rw [hp] at h
    obtain ⟨rfl, o1, k1, c1, o2, k2, c2, rfl, hn, hd⟩ := h
    obtain ⟨qb, b1⟩ := QB.new (W := w1) (q := p) hn hd
    have HB2 := Lib.hid (bstep HB1.out b1); have QP0 := Lib.hid qb
    obtain ⟨A, hA⟩ : ∃ b, w1.heap.size = b := ⟨_, rfl⟩
    have HP := Lib.hid hp
    clear hn hd b1 hp qb
    go_wp2_with fail
    rw [hA] at QP0
    clear hA
    generalize w1.alloc (.cells #[.bool p.1, .slice o1 k1 c1, .slice o2 k2 c2] 60) = w1a at *
    refine (RB.out _).mono ?_; rintro e w2 ⟨v2, hb2, k⟩
    have HB3 := Lib.hid (bstep HB2.out hb2); have QP1 := Lib.hid (QP0.out.go hb2)
    clear hb2 QP0 HB1 HB2
    have hp := HP.out
    cases hq : readQ b.data.toList with
    | none =>
      rw [hq] at k
      obtain ⟨rfl, rfl⟩ := k
      have HR : Hid (multT a b = (false, (1 : Int))) := by show _ = _; unfold multT twoG; rw [hp, hq]
      have HBE := Lib.hid (bstep HB3.out (below_alloc w2 (.cells #[.bool false, .slice none 0 0, .slice none 0 0] 60)))
      clear hq hp
      go_wp2_with fail
      go_ret2
      exact ⟨by rw [HR.out]; rfl, HBE.out⟩
    | some q =>
      rw [hq] at k
      obtain ⟨rfl, o3, k3, c3, o4, k4, c4, rfl, hm, hc⟩ := k
      obtain ⟨qb, b2⟩ := QB.new (W := w2) (q := q) hm hc
      have HB4 := Lib.hid (bstep HB3.out b2); have QP := Lib.hid (QP1.out.go b2); have QQ := Lib.hid qb
      have FQ := Lib.hid (show RFrac _ (.agg #[.bool q.1, .slice o3 k3 c3, .slice o4 k4 c4]) q.1 q.2.1 q.2.2 from ⟨_, _, _, _, _, _, rfl, hm.go b2, hc.go b2⟩)
      obtain ⟨o5, k5, c5, o6, k6, c6, ⟨x0, x1, x2⟩, hf⟩ := QP.out.open
      have FP := Lib.hid hf
      obtain ⟨y0, y1, y2, -, -, -⟩ := (BoxQ.new w2 (.bool q.1) (.slice o3 k3 c3) (.slice o4 k4 c4)).facts
      have op : Ok 100 p := ok_read hp
      have oq : Ok 100 q := ok_read hq
      clear hm hc b2 qb hf QP1 HB3
      have SQ : Hid (∀ W v, RFrac W v q.1 q.2.1 q.2.2 → Calls Try.prog 86 #[v] W (RetI W (signQ q))) := fun W v h => cSign oq.1 h
      by_cases hle : signQ q ≤ 0
      · have HR : Hid (multT a b = (false, (3 : Int))) := by show _ = _; unfold multT twoG; rw [hp, hq]; show multF p q = _; unfold multF; rw [if_pos hle]
        have t1 : decide (signQ q ≤ 0) = true := decide_eq_true hle
        clear hp hq op oq hle
        generalize signQ q = r at *
        go_wp2_with fail
        refine (SQ.out _ _ FQ.out).mono ?_; rintro e w3 ⟨rfl, hb3⟩
        have HB5 := Lib.hid (bstep HB4.out hb3); clear hb3
        go_wp2_with fail
        go_ret2
        exact ⟨by rw [HR.out]; rfl, HB5.out⟩
      · have HR : Hid (multT a b = (timesQ p q, (0 : Int))) := by show _ = _; unfold multT twoG; rw [hp, hq]; show multF p q = _; unfold multF; rw [if_neg hle]; rfl
        have t1 : decide (signQ q ≤ 0) = false := decide_eq_false hle
        have TI : Hid (∀ W v u, RFrac W v p.1 p.2.1 p.2.2 → RFrac W u q.1 q.2.1 q.2.2 → Calls Try.prog 97 #[v, u] W (RetB W (timesQ p q))) := fun W v u h k => rTimes_any op oq h k (by omega)
        clear hp hq op oq hle
        generalize signQ q = r at *
        generalize timesQ p q = s at *
        go_wp2_with fail
        refine (SQ.out _ _ FQ.out).mono ?_; rintro e w3 ⟨rfl, hb3⟩
        have HB5 := Lib.hid (bstep HB4.out hb3); have QP3 := Lib.hid (QP.out.go hb3); have QQ3 := Lib.hid (QQ.out.go hb3)
        clear hb3 x0 x1 x2 y0 y1 y2 FP FQ QP QQ SQ
        obtain ⟨o7, k7, c7, o8, k8, c8, ⟨x0, x1, x2⟩, hf⟩ := QP3.out.open
        have FP := Lib.hid hf; clear hf
        obtain ⟨o9, k9, c9, o10, k10, c10, ⟨y0, y1, y2⟩, hf⟩ := QQ3.out.open
        have FQ := Lib.hid hf; clear hf
        go_wp2_with fail
        refine (TI.out _ _ _ FP.out FQ.out).mono ?_; rintro e w4 ⟨rfl, hb4⟩
        have HB6 := Lib.hid (bstep HB5.out hb4); clear hb4
        go_wp2_with fail
        go_ret2
        exact ⟨by rw [HR.out]; rfl, HB6.out⟩

set_option maxHeartbeats 4000000 in
set_option maxRecDepth 100000 in
theorem rSimplest_any (w : World) (a b : ByteArray) (ha : a.size ≤ 140737488355328) (hb : b.size ≤ 140737488355328) : Calls Try.prog 49 #[.string a, .string b] w (OutS w (simT a b)) := by
  have RA := Lib.hid (rread_any a w ha)
  have RB : Hid (∀ W, Calls Try.prog 57 #[.string b] W (RReadOut W (readQ b.data.toList))) := fun W => rread_any b W hb
  clear ha hb
  go_enter Try.func49, Try.ntmps49
  go_wp2_with fail
  refine RA.out.mono ?_; rintro e w1 ⟨v1, hb1, h⟩
  have HB1 := Lib.hid hb1; clear hb1
  cases hp : readQ a.data.toList with
  | none =>
    rw [hp] at h
    have HR : Hid (simT a b = ((⟨#[]⟩ : ByteArray), (1 : Int))) := by show _ = _; unfold simT twoG; rw [hp]
    obtain ⟨rfl, rfl⟩ := h
    clear hp
    have HB2 := Lib.hid (bstep HB1.out (below_alloc w1 (.cells #[.bool false, .slice none 0 0, .slice none 0 0] 60)))
    go_wp2_with fail
    generalize w1.alloc (.cells #[.bool false, .slice none 0 0, .slice none 0 0] 60) = w1a at *
    refine (RB.out _).mono ?_; rintro e w2 ⟨v2, hb2, k⟩
    have HB3 := Lib.hid (bstep HB2.out hb2); clear hb2
    cases hq : readQ b.data.toList with
    | none =>
      rw [hq] at k
      obtain ⟨rfl, rfl⟩ := k
      have HBE := Lib.hid (bstep HB3.out (below_alloc w2 (.cells #[.bool false, .slice none 0 0, .slice none 0 0] 60)))
      clear hq
      go_wp2_with fail
      go_ret2
      exact ⟨by rw [HR.out]; rfl, HBE.out⟩
    | some q =>
      rw [hq] at k
      obtain ⟨t, m, c⟩ := q
      obtain ⟨rfl, o3, k3, c3, o4, k4, c4, rfl, -, -⟩ := k
      have HBE := Lib.hid (bstep HB3.out (below_alloc w2 (.cells #[.bool t, .slice o3 k3 c3, .slice o4 k4 c4] 60)))
      clear hq
      go_wp2_with fail
      go_ret2
      exact ⟨by rw [HR.out]; rfl, HBE.out⟩
  | some p =>
    rw [hp] at h
    obtain ⟨rfl, o1, k1, c1, o2, k2, c2, rfl, hn, hd⟩ := h
    obtain ⟨qb, b1⟩ := QB.new (W := w1) (q := p) hn hd
    have HB2 := Lib.hid (bstep HB1.out b1); have QP0 := Lib.hid qb
    obtain ⟨A, hA⟩ : ∃ b, w1.heap.size = b := ⟨_, rfl⟩
    have HP := Lib.hid hp
    clear hn hd b1 hp qb
    go_wp2_with fail
    rw [hA] at QP0
    clear hA
    generalize w1.alloc (.cells #[.bool p.1, .slice o1 k1 c1, .slice o2 k2 c2] 60) = w1a at *
    refine (RB.out _).mono ?_; rintro e w2 ⟨v2, hb2, k⟩
    have HB3 := Lib.hid (bstep HB2.out hb2); have QP1 := Lib.hid (QP0.out.go hb2)
    clear hb2 QP0 HB1 HB2
    have hp := HP.out
    cases hq : readQ b.data.toList with
    | none =>
      rw [hq] at k
      obtain ⟨rfl, rfl⟩ := k
      have HR : Hid (simT a b = ((⟨#[]⟩ : ByteArray), (1 : Int))) := by show _ = _; unfold simT twoG; rw [hp, hq]
      have HBE := Lib.hid (bstep HB3.out (below_alloc w2 (.cells #[.bool false, .slice none 0 0, .slice none 0 0] 60)))
      clear hq hp
      go_wp2_with fail
      go_ret2
      exact ⟨by rw [HR.out]; rfl, HBE.out⟩
    | some q =>
      rw [hq] at k
      obtain ⟨rfl, o3, k3, c3, o4, k4, c4, rfl, hm, hc⟩ := k
      obtain ⟨qb, b2⟩ := QB.new (W := w2) (q := q) hm hc
      have HB4 := Lib.hid (bstep HB3.out b2); have QP := Lib.hid (QP1.out.go b2); have QQ := Lib.hid qb
      have FQ := Lib.hid (show RFrac _ (.agg #[.bool q.1, .slice o3 k3 c3, .slice o4 k4 c4]) q.1 q.2.1 q.2.2 from ⟨_, _, _, _, _, _, rfl, hm.go b2, hc.go b2⟩)
      obtain ⟨o5, k5, c5, o6, k6, c6, ⟨x0, x1, x2⟩, hf⟩ := QP.out.open
      have FP := Lib.hid hf
      obtain ⟨y0, y1, y2, -, -, -⟩ := (BoxQ.new w2 (.bool q.1) (.slice o3 k3 c3) (.slice o4 k4 c4)).facts
      have op : Ok 100 p := ok_read hp
      have oq : Ok 100 q := ok_read hq
      clear hm hc b2 qb hf QP1 HB3
      have AG : Hid (∀ W v u, RFrac W v p.1 p.2.1 p.2.2 → RFrac W u q.1 q.2.1 q.2.2 → Calls Try.prog 78 #[v, u] W (RetI W (cmpQ p q))) := fun W v u h k => cAgainst (op.up (by omega)) (oq.up (by omega)) h k
      by_cases hle : 0 < cmpQ p q
      · have HR : Hid (simT a b = ((⟨#[]⟩ : ByteArray), (3 : Int))) := by show _ = _; unfold simT twoG; rw [hp, hq]; show simF p q = _; unfold simF; rw [if_pos hle]
        have t1 : decide (0 < cmpQ p q) = true := decide_eq_true hle
        clear hp hq op oq hle
        generalize cmpQ p q = r at *
        go_wp2_with fail
        refine (AG.out _ _ _ FP.out FQ.out).mono ?_; rintro e w3 ⟨rfl, hb3⟩
        have HB5 := Lib.hid (bstep HB4.out hb3); clear hb3
        go_wp2_with fail
        go_ret2
        exact ⟨by rw [HR.out]; rfl, HB5.out⟩
      · have HR : Hid (simT a b = out3 (simQ p q)) := by show _ = _; unfold simT twoG; rw [hp, hq]; show simF p q = _; unfold simF; rw [if_neg hle]
        have t1 : decide (0 < cmpQ p q) = false := decide_eq_false hle
        have SI : Hid (∀ W v u, RFrac W v p.1 p.2.1 p.2.2 → RFrac W u q.1 q.2.1 q.2.2 → Calls Try.prog 95 #[v, u] W (RRetQ W (simQ p q))) := fun W v u h k => rsim_any op oq (by omega) h k
        have hcl := cmpQ_le op.1.2.2 oq.1.2.2 op.1.1 oq.1.1 hle
        have SM := simQ_small op oq hcl.1 hcl.2.1
        have OT : Hid (∀ W v, RFrac W v (simQ p q).1 (simQ p q).2.1 (simQ p q).2.2 → Calls Try.prog 68 #[v] W (OutS W (out3 (simQ p q)))) := fun W v h => rout_any h (Nat.le_trans SM.1 (by omega)) (Nat.le_trans SM.2 (by omega))
        clear hp hq op oq hle hcl SM
        generalize cmpQ p q = r at *
        generalize simQ p q = s at *
        generalize out3 s = x at *
        go_wp2_with fail
        refine (AG.out _ _ _ FP.out FQ.out).mono ?_; rintro e w3 ⟨rfl, hb3⟩
        have HB5 := Lib.hid (bstep HB4.out hb3); have QP3 := Lib.hid (QP.out.go hb3); have QQ3 := Lib.hid (QQ.out.go hb3)
        clear hb3 x0 x1 x2 y0 y1 y2 FP FQ QP QQ AG
        obtain ⟨o7, k7, c7, o8, k8, c8, ⟨x0, x1, x2⟩, hf⟩ := QP3.out.open
        have FP := Lib.hid hf; clear hf
        obtain ⟨o9, k9, c9, o10, k10, c10, ⟨y0, y1, y2⟩, hf⟩ := QQ3.out.open
        have FQ := Lib.hid hf; clear hf
        go_wp2_with fail
        refine (SI.out _ _ _ FP.out FQ.out).mono ?_; rintro e w4 ⟨v4, rfl, hv4, hb4⟩
        have HV4 := Lib.hid hv4; have HB6 := Lib.hid (bstep HB5.out hb4); clear hv4 hb4
        go_wp2_with fail
        refine (OT.out _ _ HV4.out).mono ?_; rintro e w5 ⟨rfl, hb5⟩
        have HB7 := Lib.hid (bstep HB6.out hb5); clear hb5
        go_wp2_with fail
        go_ret2
        exact ⟨by rw [HR.out]; rfl, HB7.out⟩
end Go.Proofs.Ytlkdahgfnfdakaa
