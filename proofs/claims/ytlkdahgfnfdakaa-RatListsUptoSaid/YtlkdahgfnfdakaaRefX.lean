/- The reference's Add, Sub, Mul, Div, Cmp. -/
import Derived.Test.YtlkdahgfnfdakaaRefW
import Derived.Test.YtlkdahgfnfdakaaAlive
namespace Go.Proofs.Ytlkdahgfnfdakaa
open Go Go.RowKit Go.Shelf WN LM

theorem read_small {l : List UInt8} {p : Q3} (h : readQ l = some p) : RLen p.2.1 ≤ 100 ∧ RLen p.2.2 ≤ 100 := by
  obtain ⟨p1, p2, p3, p4, p5, -⟩ := readQ_q h
  have f : ∀ x, Dig x ≤ 300 → RLen x ≤ 100 := fun x hx => by
    have := (dig_len4 x).2
    rcases Nat.eq_zero_or_pos x with h0 | h0
    · rw [h0, rlen_zero]; omega
    · have := this h0; omega
  exact ⟨f _ p1, f _ p2⟩
theorem low_small {s : Bool} {n d k : Nat} (h1 : RLen n ≤ k) (h2 : RLen d ≤ k) : RLen (lowQ s n d).2.1 ≤ k ∧ RLen (lowQ s n d).2.2 ≤ k :=
  ⟨Nat.le_trans (rlen_mono (Nat.div_le_self _ _)) h1, Nat.le_trans (rlen_mono (Nat.div_le_self _ _)) h2⟩
theorem addN_le (s t : Bool) (X Y : Nat) : addN s X t Y ≤ X + Y := by unfold addN; split; omega; split <;> omega
theorem plus_small {p q : Q3} (h1 : RLen p.2.1 ≤ 100) (h2 : RLen p.2.2 ≤ 100) (h3 : RLen q.2.1 ≤ 100) (h4 : RLen q.2.2 ≤ 100) : RLen (plusQ p q).2.1 ≤ 1000 ∧ RLen (plusQ p q).2.2 ≤ 1000 := by
  have a1 := rlen_mul p.2.1 q.2.2
  have a2 := rlen_mul q.2.1 p.2.2
  have a3 := rlen_mul p.2.2 q.2.2
  have a4 := rlen_add (p.2.1 * q.2.2) (q.2.1 * p.2.2)
  have a5 := rlen_mono (addN_le p.1 q.1 (p.2.1 * q.2.2) (q.2.1 * p.2.2))
  exact low_small (by omega) (by omega)
theorem plus_eq {p q : Q3} (hp : Can p) (hq : Can q) : plusQ p q = addQ p q := low_add hp hq
theorem mul_small {p q : Q3} (hp : Can p) (hq : Can q) (h1 : RLen p.2.1 ≤ 100) (h2 : RLen p.2.2 ≤ 100) (h3 : RLen q.2.1 ≤ 100) (h4 : RLen q.2.2 ≤ 100) : RLen (mulQ p q).2.1 ≤ 1000 ∧ RLen (mulQ p q).2.2 ≤ 1000 := by
  rw [← low_mul hp hq]
  exact low_small (Nat.le_trans (rlen_mul _ _) (by omega)) (Nat.le_trans (rlen_mul _ _) (by omega))

set_option maxHeartbeats 4000000 in
set_option maxRecDepth 100000 in
theorem rAdd_any (w : World) (a b : ByteArray) (ha : a.size ≤ 140737488355328) (hb : b.size ≤ 140737488355328) : Calls Try.prog 24 #[.string a, .string b] w (OutS w (addT a b)) := by
  have RA := Lib.hid (rread_any a w ha)
  have RB : Hid (∀ W, Calls Try.prog 57 #[.string b] W (RReadOut W (readQ b.data.toList))) := fun W => rread_any b W hb
  clear ha hb
  go_enter Try.func24, Try.ntmps24
  go_wp2_with fail
  refine RA.out.mono ?_; rintro e w1 ⟨v1, hb1, h⟩
  have HB1 := Lib.hid hb1; clear hb1
  cases hp : readQ a.data.toList with
  | none =>
    rw [hp] at h
    have HR : Hid (addT a b = ((⟨#[]⟩ : ByteArray), (1 : Int))) := by show _ = _; unfold addT two; rw [hp]
    obtain ⟨rfl, rfl⟩ := h
    clear hp
    have HB2 := Lib.hid (bstep HB1.out (below_alloc w1 (.cells #[.bool false, .slice none 0 0, .slice none 0 0] 60)))
    go_wp2_with fail
    generalize w1.alloc (.cells #[.bool false, .slice none 0 0, .slice none 0 0] 60) = w1a at *
    refine (RB.out _).mono ?_; rintro e w2 ⟨v2, hb2, k⟩
    have HB3 := Lib.hid (bstep HB2.out hb2); clear hb2
    cases hq : readQ b.data.toList with
    | none =>
      rw [hq] at k
      obtain ⟨rfl, rfl⟩ := k
      have HBE := Lib.hid (bstep HB3.out (below_alloc w2 (.cells #[.bool false, .slice none 0 0, .slice none 0 0] 60)))
      clear hq
      go_wp2_with fail
      go_ret2
      exact ⟨by rw [HR.out]; rfl, HBE.out⟩
    | some q =>
      rw [hq] at k
      obtain ⟨t, m, c⟩ := q
      obtain ⟨rfl, o3, k3, c3, o4, k4, c4, rfl, -, -⟩ := k
      have HBE := Lib.hid (bstep HB3.out (below_alloc w2 (.cells #[.bool t, .slice o3 k3 c3, .slice o4 k4 c4] 60)))
      clear hq
      go_wp2_with fail
      go_ret2
      exact ⟨by rw [HR.out]; rfl, HBE.out⟩
  | some p =>
    rw [hp] at h
    obtain ⟨rfl, o1, k1, c1, o2, k2, c2, rfl, hn, hd⟩ := h
    have b1 := below_alloc w1 (.cells #[.bool p.1, .slice o1 k1 c1, .slice o2 k2 c2] 60)
    have HB2 := Lib.hid (bstep HB1.out b1)
    have BX := Lib.hid (BoxQ.new w1 (.bool p.1) (.slice o1 k1 c1) (.slice o2 k2 c2))
    have HN := Lib.hid (hn.go b1); have HD := Lib.hid (hd.go b1)
    have HP := Lib.hid hp
    clear hn hd b1 hp
    go_wp2_with fail
    generalize w1.alloc (.cells #[.bool p.1, .slice o1 k1 c1, .slice o2 k2 c2] 60) = w1a at *
    refine (RB.out _).mono ?_; rintro e w2 ⟨v2, hb2, k⟩
    have HB3 := Lib.hid (bstep HB2.out hb2); have BXa := Lib.hid (BX.out.go hb2); have HNa := Lib.hid (HN.out.go hb2); have HDa := Lib.hid (HD.out.go hb2)
    clear hb2
    have hp := HP.out
    cases hq : readQ b.data.toList with
    | none =>
      rw [hq] at k
      obtain ⟨rfl, rfl⟩ := k
      have HR : Hid (addT a b = ((⟨#[]⟩ : ByteArray), (1 : Int))) := by show _ = _; unfold addT two; rw [hp, hq]
      have HBE := Lib.hid (bstep HB3.out (below_alloc w2 (.cells #[.bool false, .slice none 0 0, .slice none 0 0] 60)))
      clear hq hp
      go_wp2_with fail
      go_ret2
      exact ⟨by rw [HR.out]; rfl, HBE.out⟩
    | some q =>
      rw [hq] at k
      obtain ⟨rfl, o3, k3, c3, o4, k4, c4, rfl, hm, hc⟩ := k
      have b2 := below_alloc w2 (.cells #[.bool q.1, .slice o3 k3 c3, .slice o4 k4 c4] 60)
      have HB4 := Lib.hid (bstep HB3.out b2); have BFIN := Lib.hid b2
      have BX2 := Lib.hid (BXa.out.go b2); have BY2 := Lib.hid (BoxQ.new w2 (.bool q.1) (.slice o3 k3 c3) (.slice o4 k4 c4))
      have FP : Hid (RFrac w2 (.agg #[.bool p.1, .slice o1 k1 c1, .slice o2 k2 c2]) p.1 p.2.1 p.2.2) := ⟨_, _, _, _, _, _, rfl, HNa.out, HDa.out⟩
      have FQ : Hid (RFrac (w2.alloc (.cells #[.bool q.1, .slice o3 k3 c3, .slice o4 k4 c4] 60)) (.agg #[.bool q.1, .slice o3 k3 c3, .slice o4 k4 c4]) q.1 q.2.1 q.2.2) := ⟨_, _, _, _, _, _, rfl, hm.go b2, hc.go b2⟩
      obtain ⟨x0, x1, x2, -, -, -⟩ := BX2.out.facts
      obtain ⟨y0, y1, y2, -, -, -⟩ := BY2.out.facts
      clear hm hc b2
      have cp := readQ_can hp; have cq := readQ_can hq
      obtain ⟨s1, s2⟩ := read_small hp; obtain ⟨s3, s4⟩ := read_small hq
      have HR : Hid (addT a b = out3 (addQ p q)) := by show _ = _; unfold addT two; rw [hp, hq]
      have OP : Hid (∀ W v u, RFrac W v p.1 p.2.1 p.2.2 → RFrac W u q.1 q.2.1 q.2.2 → Calls Try.prog 71 #[v, u] W (RRetQ W (addQ p q))) := fun W v u h k => by rw [← plus_eq cp cq]; exact plusQ_any h k (by omega) (by omega) (by omega) (by omega) cp.1 cq.1
      have SM : RLen (addQ p q).2.1 ≤ 1000 ∧ RLen (addQ p q).2.2 ≤ 1000 := by rw [← plus_eq cp cq]; exact plus_small s1 s2 s3 s4
      have OT : Hid (∀ W v, RFrac W v (addQ p q).1 (addQ p q).2.1 (addQ p q).2.2 → Calls Try.prog 68 #[v] W (OutS W (out3 (addQ p q)))) := fun W v h => rout_any h (by omega) (by omega)
      clear hp hq cp cq s1 s2 s3 s4 SM
      generalize addQ p q = r at *
      generalize out3 r = x at *
      go_wp2_with fail
      refine (OP.out _ _ _ (FP.out.go BFIN.out) FQ.out).mono ?_; rintro e w3 ⟨v3, rfl, hv3, hb3⟩
      have HV3 := Lib.hid hv3; have HB5 := Lib.hid (bstep HB4.out hb3); clear hv3 hb3
      go_wp2_with fail
      refine (OT.out _ _ HV3.out).mono ?_; rintro e w4 ⟨rfl, hb4⟩
      have HB6 := Lib.hid (bstep HB5.out hb4); clear hb4
      go_wp2_with fail
      go_ret2
      exact ⟨by rw [HR.out]; rfl, HB6.out⟩

set_option maxHeartbeats 4000000 in
set_option maxRecDepth 100000 in
theorem rSub_any (w : World) (a b : ByteArray) (ha : a.size ≤ 140737488355328) (hb : b.size ≤ 140737488355328) : Calls Try.prog 26 #[.string a, .string b] w (OutS w (subT a b)) := by
  have RA := Lib.hid (rread_any a w ha)
  have RB : Hid (∀ W, Calls Try.prog 57 #[.string b] W (RReadOut W (readQ b.data.toList))) := fun W => rread_any b W hb
  clear ha hb
  go_enter Try.func26, Try.ntmps26
  go_wp2_with fail
  refine RA.out.mono ?_; rintro e w1 ⟨v1, hb1, h⟩
  have HB1 := Lib.hid hb1; clear hb1
  cases hp : readQ a.data.toList with
  | none =>
    rw [hp] at h
    have HR : Hid (subT a b = ((⟨#[]⟩ : ByteArray), (1 : Int))) := by show _ = _; unfold subT two; rw [hp]
    obtain ⟨rfl, rfl⟩ := h
    clear hp
    have HB2 := Lib.hid (bstep HB1.out (below_alloc w1 (.cells #[.bool false, .slice none 0 0, .slice none 0 0] 60)))
    go_wp2_with fail
    generalize w1.alloc (.cells #[.bool false, .slice none 0 0, .slice none 0 0] 60) = w1a at *
    refine (RB.out _).mono ?_; rintro e w2 ⟨v2, hb2, k⟩
    have HB3 := Lib.hid (bstep HB2.out hb2); clear hb2
    cases hq : readQ b.data.toList with
    | none =>
      rw [hq] at k
      obtain ⟨rfl, rfl⟩ := k
      have HBE := Lib.hid (bstep HB3.out (below_alloc w2 (.cells #[.bool false, .slice none 0 0, .slice none 0 0] 60)))
      clear hq
      go_wp2_with fail
      go_ret2
      exact ⟨by rw [HR.out]; rfl, HBE.out⟩
    | some q =>
      rw [hq] at k
      obtain ⟨t, m, c⟩ := q
      obtain ⟨rfl, o3, k3, c3, o4, k4, c4, rfl, -, -⟩ := k
      have HBE := Lib.hid (bstep HB3.out (below_alloc w2 (.cells #[.bool t, .slice o3 k3 c3, .slice o4 k4 c4] 60)))
      clear hq
      go_wp2_with fail
      go_ret2
      exact ⟨by rw [HR.out]; rfl, HBE.out⟩
  | some p =>
    rw [hp] at h
    obtain ⟨rfl, o1, k1, c1, o2, k2, c2, rfl, hn, hd⟩ := h
    have b1 := below_alloc w1 (.cells #[.bool p.1, .slice o1 k1 c1, .slice o2 k2 c2] 60)
    have HB2 := Lib.hid (bstep HB1.out b1)
    have BX := Lib.hid (BoxQ.new w1 (.bool p.1) (.slice o1 k1 c1) (.slice o2 k2 c2))
    have HN := Lib.hid (hn.go b1); have HD := Lib.hid (hd.go b1)
    have HP := Lib.hid hp
    clear hn hd b1 hp
    go_wp2_with fail
    generalize w1.alloc (.cells #[.bool p.1, .slice o1 k1 c1, .slice o2 k2 c2] 60) = w1a at *
    refine (RB.out _).mono ?_; rintro e w2 ⟨v2, hb2, k⟩
    have HB3 := Lib.hid (bstep HB2.out hb2); have BXa := Lib.hid (BX.out.go hb2); have HNa := Lib.hid (HN.out.go hb2); have HDa := Lib.hid (HD.out.go hb2)
    clear hb2
    have hp := HP.out
    cases hq : readQ b.data.toList with
    | none =>
      rw [hq] at k
      obtain ⟨rfl, rfl⟩ := k
      have HR : Hid (subT a b = ((⟨#[]⟩ : ByteArray), (1 : Int))) := by show _ = _; unfold subT two; rw [hp, hq]
      have HBE := Lib.hid (bstep HB3.out (below_alloc w2 (.cells #[.bool false, .slice none 0 0, .slice none 0 0] 60)))
      clear hq hp
      go_wp2_with fail
      go_ret2
      exact ⟨by rw [HR.out]; rfl, HBE.out⟩
    | some q =>
      rw [hq] at k
      obtain ⟨rfl, o3, k3, c3, o4, k4, c4, rfl, hm, hc⟩ := k
      have b2 := below_alloc w2 (.cells #[.bool q.1, .slice o3 k3 c3, .slice o4 k4 c4] 60)
      have HB4 := Lib.hid (bstep HB3.out b2); have BFIN := Lib.hid b2
      have BX2 := Lib.hid (BXa.out.go b2); have BY2 := Lib.hid (BoxQ.new w2 (.bool q.1) (.slice o3 k3 c3) (.slice o4 k4 c4))
      have FP : Hid (RFrac w2 (.agg #[.bool p.1, .slice o1 k1 c1, .slice o2 k2 c2]) p.1 p.2.1 p.2.2) := ⟨_, _, _, _, _, _, rfl, HNa.out, HDa.out⟩
      have FQ : Hid (RFrac (w2.alloc (.cells #[.bool q.1, .slice o3 k3 c3, .slice o4 k4 c4] 60)) (.agg #[.bool q.1, .slice o3 k3 c3, .slice o4 k4 c4]) q.1 q.2.1 q.2.2) := ⟨_, _, _, _, _, _, rfl, hm.go b2, hc.go b2⟩
      obtain ⟨x0, x1, x2, -, -, -⟩ := BX2.out.facts
      obtain ⟨y0, y1, y2, -, -, -⟩ := BY2.out.facts
      clear hm hc b2
      have cp := readQ_can hp; have cq := readQ_can hq
      obtain ⟨s1, s2⟩ := read_small hp; obtain ⟨s3, s4⟩ := read_small hq
      have HR : Hid (subT a b = out3 (subQ p q)) := by show _ = _; unfold subT two; rw [hp, hq]
      have OP : Hid (∀ W v u, RFrac W v p.1 p.2.1 p.2.2 → RFrac W u q.1 q.2.1 q.2.2 → Calls Try.prog 73 #[v, u] W (RRetQ W (subQ p q))) := fun W v u h k => by rw [show subQ p q = plusQ p (negQ q) from (plus_eq cp (negQ_spec cq).1).symm]; exact rminus_any h k (Nat.le_trans s1 (by omega)) (Nat.le_trans s2 (by omega)) (Nat.le_trans s3 (by omega)) (Nat.le_trans s4 (by omega)) cp.1 cq.1
      have SM : RLen (subQ p q).2.1 ≤ 1000 ∧ RLen (subQ p q).2.2 ≤ 1000 := by rw [show subQ p q = plusQ p (negQ q) from (plus_eq cp (negQ_spec cq).1).symm]; exact plus_small s1 s2 (show RLen (negQ q).2.1 ≤ 100 from s3) (show RLen (negQ q).2.2 ≤ 100 from s4)
      have OT : Hid (∀ W v, RFrac W v (subQ p q).1 (subQ p q).2.1 (subQ p q).2.2 → Calls Try.prog 68 #[v] W (OutS W (out3 (subQ p q)))) := fun W v h => rout_any h (by omega) (by omega)
      clear hp hq cp cq s1 s2 s3 s4 SM
      generalize subQ p q = r at *
      generalize out3 r = x at *
      go_wp2_with fail
      refine (OP.out _ _ _ (FP.out.go BFIN.out) FQ.out).mono ?_; rintro e w3 ⟨v3, rfl, hv3, hb3⟩
      have HV3 := Lib.hid hv3; have HB5 := Lib.hid (bstep HB4.out hb3); clear hv3 hb3
      go_wp2_with fail
      refine (OT.out _ _ HV3.out).mono ?_; rintro e w4 ⟨rfl, hb4⟩
      have HB6 := Lib.hid (bstep HB5.out hb4); clear hb4
      go_wp2_with fail
      go_ret2
      exact ⟨by rw [HR.out]; rfl, HB6.out⟩

set_option maxHeartbeats 4000000 in
set_option maxRecDepth 100000 in
theorem rMul_any (w : World) (a b : ByteArray) (ha : a.size ≤ 140737488355328) (hb : b.size ≤ 140737488355328) : Calls Try.prog 28 #[.string a, .string b] w (OutS w (mulT a b)) := by
  have RA := Lib.hid (rread_any a w ha)
  have RB : Hid (∀ W, Calls Try.prog 57 #[.string b] W (RReadOut W (readQ b.data.toList))) := fun W => rread_any b W hb
  clear ha hb
  go_enter Try.func28, Try.ntmps28
  go_wp2_with fail
  refine RA.out.mono ?_; rintro e w1 ⟨v1, hb1, h⟩
  have HB1 := Lib.hid hb1; clear hb1
  cases hp : readQ a.data.toList with
  | none =>
    rw [hp] at h
    have HR : Hid (mulT a b = ((⟨#[]⟩ : ByteArray), (1 : Int))) := by show _ = _; unfold mulT two; rw [hp]
    obtain ⟨rfl, rfl⟩ := h
    clear hp
    have HB2 := Lib.hid (bstep HB1.out (below_alloc w1 (.cells #[.bool false, .slice none 0 0, .slice none 0 0] 60)))
    go_wp2_with fail
    generalize w1.alloc (.cells #[.bool false, .slice none 0 0, .slice none 0 0] 60) = w1a at *
    refine (RB.out _).mono ?_; rintro e w2 ⟨v2, hb2, k⟩
    have HB3 := Lib.hid (bstep HB2.out hb2); clear hb2
    cases hq : readQ b.data.toList with
    | none =>
      rw [hq] at k
      obtain ⟨rfl, rfl⟩ := k
      have HBE := Lib.hid (bstep HB3.out (below_alloc w2 (.cells #[.bool false, .slice none 0 0, .slice none 0 0] 60)))
      clear hq
      go_wp2_with fail
      go_ret2
      exact ⟨by rw [HR.out]; rfl, HBE.out⟩
    | some q =>
      rw [hq] at k
      obtain ⟨t, m, c⟩ := q
      obtain ⟨rfl, o3, k3, c3, o4, k4, c4, rfl, -, -⟩ := k
      have HBE := Lib.hid (bstep HB3.out (below_alloc w2 (.cells #[.bool t, .slice o3 k3 c3, .slice o4 k4 c4] 60)))
      clear hq
      go_wp2_with fail
      go_ret2
      exact ⟨by rw [HR.out]; rfl, HBE.out⟩
  | some p =>
    rw [hp] at h
    obtain ⟨rfl, o1, k1, c1, o2, k2, c2, rfl, hn, hd⟩ := h
    have b1 := below_alloc w1 (.cells #[.bool p.1, .slice o1 k1 c1, .slice o2 k2 c2] 60)
    have HB2 := Lib.hid (bstep HB1.out b1)
    have BX := Lib.hid (BoxQ.new w1 (.bool p.1) (.slice o1 k1 c1) (.slice o2 k2 c2))
    have HN := Lib.hid (hn.go b1); have HD := Lib.hid (hd.go b1)
    have HP := Lib.hid hp
    clear hn hd b1 hp
    go_wp2_with fail
    generalize w1.alloc (.cells #[.bool p.1, .slice o1 k1 c1, .slice o2 k2 c2] 60) = w1a at *
    refine (RB.out _).mono ?_; rintro e w2 ⟨v2, hb2, k⟩
    have HB3 := Lib.hid (bstep HB2.out hb2); have BXa := Lib.hid (BX.out.go hb2); have HNa := Lib.hid (HN.out.go hb2); have HDa := Lib.hid (HD.out.go hb2)
    clear hb2
    have hp := HP.out
    cases hq : readQ b.data.toList with
    | none =>
      rw [hq] at k
      obtain ⟨rfl, rfl⟩ := k
      have HR : Hid (mulT a b = ((⟨#[]⟩ : ByteArray), (1 : Int))) := by show _ = _; unfold mulT two; rw [hp, hq]
      have HBE := Lib.hid (bstep HB3.out (below_alloc w2 (.cells #[.bool false, .slice none 0 0, .slice none 0 0] 60)))
      clear hq hp
      go_wp2_with fail
      go_ret2
      exact ⟨by rw [HR.out]; rfl, HBE.out⟩
    | some q =>
      rw [hq] at k
      obtain ⟨rfl, o3, k3, c3, o4, k4, c4, rfl, hm, hc⟩ := k
      have b2 := below_alloc w2 (.cells #[.bool q.1, .slice o3 k3 c3, .slice o4 k4 c4] 60)
      have HB4 := Lib.hid (bstep HB3.out b2); have BFIN := Lib.hid b2
      have BX2 := Lib.hid (BXa.out.go b2); have BY2 := Lib.hid (BoxQ.new w2 (.bool q.1) (.slice o3 k3 c3) (.slice o4 k4 c4))
      have FP : Hid (RFrac w2 (.agg #[.bool p.1, .slice o1 k1 c1, .slice o2 k2 c2]) p.1 p.2.1 p.2.2) := ⟨_, _, _, _, _, _, rfl, HNa.out, HDa.out⟩
      have FQ : Hid (RFrac (w2.alloc (.cells #[.bool q.1, .slice o3 k3 c3, .slice o4 k4 c4] 60)) (.agg #[.bool q.1, .slice o3 k3 c3, .slice o4 k4 c4]) q.1 q.2.1 q.2.2) := ⟨_, _, _, _, _, _, rfl, hm.go b2, hc.go b2⟩
      obtain ⟨x0, x1, x2, -, -, -⟩ := BX2.out.facts
      obtain ⟨y0, y1, y2, -, -, -⟩ := BY2.out.facts
      clear hm hc b2
      have cp := readQ_can hp; have cq := readQ_can hq
      obtain ⟨s1, s2⟩ := read_small hp; obtain ⟨s3, s4⟩ := read_small hq
      have HR : Hid (mulT a b = out3 (mulQ p q)) := by show _ = _; unfold mulT two; rw [hp, hq]
      have OP : Hid (∀ W v u, RFrac W v p.1 p.2.1 p.2.2 → RFrac W u q.1 q.2.1 q.2.2 → Calls Try.prog 74 #[v, u] W (RRetQ W (mulQ p q))) := fun W v u h k => by rw [← low_mul cp cq]; exact rtimes_any h k (by omega) (by omega) (by omega) (by omega) cp.1 cq.1
      have SM : RLen (mulQ p q).2.1 ≤ 1000 ∧ RLen (mulQ p q).2.2 ≤ 1000 := mul_small cp cq s1 s2 s3 s4
      have OT : Hid (∀ W v, RFrac W v (mulQ p q).1 (mulQ p q).2.1 (mulQ p q).2.2 → Calls Try.prog 68 #[v] W (OutS W (out3 (mulQ p q)))) := fun W v h => rout_any h (by omega) (by omega)
      clear hp hq cp cq s1 s2 s3 s4 SM
      generalize mulQ p q = r at *
      generalize out3 r = x at *
      go_wp2_with fail
      refine (OP.out _ _ _ (FP.out.go BFIN.out) FQ.out).mono ?_; rintro e w3 ⟨v3, rfl, hv3, hb3⟩
      have HV3 := Lib.hid hv3; have HB5 := Lib.hid (bstep HB4.out hb3); clear hv3 hb3
      go_wp2_with fail
      refine (OT.out _ _ HV3.out).mono ?_; rintro e w4 ⟨rfl, hb4⟩
      have HB6 := Lib.hid (bstep HB5.out hb4); clear hb4
      go_wp2_with fail
      go_ret2
      exact ⟨by rw [HR.out]; rfl, HB6.out⟩

set_option maxHeartbeats 4000000 in
set_option maxRecDepth 100000 in
theorem rDiv_any (w : World) (a b : ByteArray) (ha : a.size ≤ 140737488355328) (hb : b.size ≤ 140737488355328) : Calls Try.prog 30 #[.string a, .string b] w (OutS w (divT a b)) := by
  have RA := Lib.hid (rread_any a w ha)
  have RB : Hid (∀ W, Calls Try.prog 57 #[.string b] W (RReadOut W (readQ b.data.toList))) := fun W => rread_any b W hb
  clear ha hb
  go_enter Try.func30, Try.ntmps30
  go_wp2_with fail
  refine RA.out.mono ?_; rintro e w1 ⟨v1, hb1, h⟩
  have HB1 := Lib.hid hb1; clear hb1
  cases hp : readQ a.data.toList with
  | none =>
    rw [hp] at h
    have HR : Hid (divT a b = ((⟨#[]⟩ : ByteArray), (1 : Int))) := by show _ = _; unfold divT twoG; rw [hp]
    obtain ⟨rfl, rfl⟩ := h
    clear hp
    have HB2 := Lib.hid (bstep HB1.out (below_alloc w1 (.cells #[.bool false, .slice none 0 0, .slice none 0 0] 60)))
    go_wp2_with fail
    generalize w1.alloc (.cells #[.bool false, .slice none 0 0, .slice none 0 0] 60) = w1a at *
    refine (RB.out _).mono ?_; rintro e w2 ⟨v2, hb2, k⟩
    have HB3 := Lib.hid (bstep HB2.out hb2); clear hb2
    cases hq : readQ b.data.toList with
    | none =>
      rw [hq] at k
      obtain ⟨rfl, rfl⟩ := k
      have HBE := Lib.hid (bstep HB3.out (below_alloc w2 (.cells #[.bool false, .slice none 0 0, .slice none 0 0] 60)))
      clear hq
      go_wp2_with fail
      go_ret2
      exact ⟨by rw [HR.out]; rfl, HBE.out⟩
    | some q =>
      rw [hq] at k
      obtain ⟨t, m, c⟩ := q
      obtain ⟨rfl, o3, k3, c3, o4, k4, c4, rfl, -, -⟩ := k
      have HBE := Lib.hid (bstep HB3.out (below_alloc w2 (.cells #[.bool t, .slice o3 k3 c3, .slice o4 k4 c4] 60)))
      clear hq
      go_wp2_with fail
      go_ret2
      exact ⟨by rw [HR.out]; rfl, HBE.out⟩
  | some p =>
    rw [hp] at h
    obtain ⟨rfl, o1, k1, c1, o2, k2, c2, rfl, hn, hd⟩ := h
    have b1 := below_alloc w1 (.cells #[.bool p.1, .slice o1 k1 c1, .slice o2 k2 c2] 60)
    have HB2 := Lib.hid (bstep HB1.out b1)
    have BX := Lib.hid (BoxQ.new w1 (.bool p.1) (.slice o1 k1 c1) (.slice o2 k2 c2))
    have HN := Lib.hid (hn.go b1); have HD := Lib.hid (hd.go b1)
    have HP := Lib.hid hp
    clear hn hd b1 hp
    go_wp2_with fail
    generalize w1.alloc (.cells #[.bool p.1, .slice o1 k1 c1, .slice o2 k2 c2] 60) = w1a at *
    refine (RB.out _).mono ?_; rintro e w2 ⟨v2, hb2, k⟩
    have HB3 := Lib.hid (bstep HB2.out hb2); have BXa := Lib.hid (BX.out.go hb2); have HNa := Lib.hid (HN.out.go hb2); have HDa := Lib.hid (HD.out.go hb2)
    clear hb2
    have hp := HP.out
    cases hq : readQ b.data.toList with
    | none =>
      rw [hq] at k
      obtain ⟨rfl, rfl⟩ := k
      have HR : Hid (divT a b = ((⟨#[]⟩ : ByteArray), (1 : Int))) := by show _ = _; unfold divT twoG; rw [hp, hq]
      have HBE := Lib.hid (bstep HB3.out (below_alloc w2 (.cells #[.bool false, .slice none 0 0, .slice none 0 0] 60)))
      clear hq hp
      go_wp2_with fail
      go_ret2
      exact ⟨by rw [HR.out]; rfl, HBE.out⟩
    | some q =>
      rw [hq] at k
      obtain ⟨rfl, o3, k3, c3, o4, k4, c4, rfl, hm, hc⟩ := k
      have b2 := below_alloc w2 (.cells #[.bool q.1, .slice o3 k3 c3, .slice o4 k4 c4] 60)
      have HB4 := Lib.hid (bstep HB3.out b2); have BFIN := Lib.hid b2
      have BX2 := Lib.hid (BXa.out.go b2); have BY2 := Lib.hid (BoxQ.new w2 (.bool q.1) (.slice o3 k3 c3) (.slice o4 k4 c4))
      have FP : Hid (RFrac w2 (.agg #[.bool p.1, .slice o1 k1 c1, .slice o2 k2 c2]) p.1 p.2.1 p.2.2) := ⟨_, _, _, _, _, _, rfl, HNa.out, HDa.out⟩
      have FQ : Hid (RFrac (w2.alloc (.cells #[.bool q.1, .slice o3 k3 c3, .slice o4 k4 c4] 60)) (.agg #[.bool q.1, .slice o3 k3 c3, .slice o4 k4 c4]) q.1 q.2.1 q.2.2) := ⟨_, _, _, _, _, _, rfl, hm.go b2, hc.go b2⟩
      obtain ⟨x0, x1, x2, -, -, -⟩ := BX2.out.facts
      obtain ⟨y0, y1, y2, -, -, -⟩ := BY2.out.facts
      clear hm hc b2
      have cp := readQ_can hp; have cq := readQ_can hq
      obtain ⟨s1, s2⟩ := read_small hp; obtain ⟨s3, s4⟩ := read_small hq
      have ZR : Hid (∀ W u, RFrac W u q.1 q.2.1 q.2.2 → Calls Try.prog 76 #[u] W fun e w' => e = .returned (.bool (decide (q.2.1 = 0))) ∧ Below W.heap.size W w') := fun W u h => rzero_any h
      have hsz : signQ q = 0 ↔ q.2.1 = 0 := sgn_zero cq.2.2
      by_cases hz : q.2.1 = 0
      · have HR : Hid (divT a b = ((⟨#[]⟩ : ByteArray), (12 : Int))) := by show _ = _; unfold divT twoG; rw [hp, hq]; show divF p q = _; unfold divF; rw [if_pos (hsz.2 hz)]
        rw [decide_eq_true hz] at ZR
        clear hp hq cp cq s1 s2 s3 s4 hsz hz
        go_wp2_with fail
        refine (ZR.out _ _ FQ.out).mono ?_; rintro e w3 ⟨rfl, hb3⟩
        have HB5 := Lib.hid (bstep HB4.out hb3); clear hb3
        go_wp2_with fail
        go_ret2
        exact ⟨by rw [HR.out]; rfl, HB5.out⟩
      · have HR : Hid (divT a b = out3 (divQ p q)) := by show _ = _; unfold divT twoG; rw [hp, hq]; show divF p q = _; unfold divF; rw [if_neg (fun h => hz (hsz.1 h))]
        have OP : Hid (∀ W v u, RFrac W v p.1 p.2.1 p.2.2 → RFrac W u q.1 q.2.1 q.2.2 → Calls Try.prog 67 #[v, u] W (RRetQ W (divQ p q))) := fun W v u h k => by rw [← low_div cp cq hz]; exact rover_any h k (by omega) (by omega) (by omega) (by omega) cp.1 (Nat.pos_of_ne_zero hz)
        have SM : RLen (divQ p q).2.1 ≤ 1000 ∧ RLen (divQ p q).2.2 ≤ 1000 := mul_small cp (invQ_spec cq hz).1 s1 s2 s4 s3
        have OT : Hid (∀ W v, RFrac W v (divQ p q).1 (divQ p q).2.1 (divQ p q).2.2 → Calls Try.prog 68 #[v] W (OutS W (out3 (divQ p q)))) := fun W v h => rout_any h (by omega) (by omega)
        rw [decide_eq_false hz] at ZR
        clear hp hq cp cq s1 s2 s3 s4 SM hsz hz
        generalize divQ p q = r at *
        generalize out3 r = x at *
        go_wp2_with fail
        refine (ZR.out _ _ FQ.out).mono ?_; rintro e w3 ⟨rfl, hb3⟩
        have BX3 := Lib.hid (BX2.out.go hb3); have BY3 := Lib.hid (BY2.out.go hb3); have FQ3 := Lib.hid (FQ.out.go hb3); have FP3 := Lib.hid ((FP.out.go BFIN.out).go hb3)
        have HB5 := Lib.hid (bstep HB4.out hb3); clear hb3 x0 x1 x2 y0 y1 y2
        obtain ⟨x0, x1, x2, -, -, -⟩ := BX3.out.facts
        obtain ⟨y0, y1, y2, -, -, -⟩ := BY3.out.facts
        go_wp2_with fail
        refine (OP.out _ _ _ FP3.out FQ3.out).mono ?_; rintro e w4 ⟨v4, rfl, hv4, hb4⟩
        have HV4 := Lib.hid hv4; have HB6 := Lib.hid (bstep HB5.out hb4); clear hv4 hb4
        go_wp2_with fail
        refine (OT.out _ _ HV4.out).mono ?_; rintro e w5 ⟨rfl, hb5⟩
        have HB7 := Lib.hid (bstep HB6.out hb5); clear hb5
        go_wp2_with fail
        go_ret2
        exact ⟨by rw [HR.out]; rfl, HB7.out⟩

set_option maxHeartbeats 4000000 in
set_option maxRecDepth 100000 in
theorem rCmp_any (w : World) (a b : ByteArray) (ha : a.size ≤ 140737488355328) (hb : b.size ≤ 140737488355328) : Calls Try.prog 32 #[.string a, .string b] w (OutI w (cmpT a b)) := by
  have RA := Lib.hid (rread_any a w ha)
  have RB : Hid (∀ W, Calls Try.prog 57 #[.string b] W (RReadOut W (readQ b.data.toList))) := fun W => rread_any b W hb
  clear ha hb
  go_enter Try.func32, Try.ntmps32
  go_wp2_with fail
  refine RA.out.mono ?_; rintro e w1 ⟨v1, hb1, h⟩
  have HB1 := Lib.hid hb1; clear hb1
  cases hp : readQ a.data.toList with
  | none =>
    rw [hp] at h
    have HR : Hid (cmpT a b = ((0 : Int), (1 : Int))) := by show _ = _; unfold cmpT twoG; rw [hp]
    obtain ⟨rfl, rfl⟩ := h
    clear hp
    have HB2 := Lib.hid (bstep HB1.out (below_alloc w1 (.cells #[.bool false, .slice none 0 0, .slice none 0 0] 60)))
    go_wp2_with fail
    generalize w1.alloc (.cells #[.bool false, .slice none 0 0, .slice none 0 0] 60) = w1a at *
    refine (RB.out _).mono ?_; rintro e w2 ⟨v2, hb2, k⟩
    have HB3 := Lib.hid (bstep HB2.out hb2); clear hb2
    cases hq : readQ b.data.toList with
    | none =>
      rw [hq] at k
      obtain ⟨rfl, rfl⟩ := k
      have HBE := Lib.hid (bstep HB3.out (below_alloc w2 (.cells #[.bool false, .slice none 0 0, .slice none 0 0] 60)))
      clear hq
      go_wp2_with fail
      go_ret2
      exact ⟨by rw [HR.out]; rfl, HBE.out⟩
    | some q =>
      rw [hq] at k
      obtain ⟨t, m, c⟩ := q
      obtain ⟨rfl, o3, k3, c3, o4, k4, c4, rfl, -, -⟩ := k
      have HBE := Lib.hid (bstep HB3.out (below_alloc w2 (.cells #[.bool t, .slice o3 k3 c3, .slice o4 k4 c4] 60)))
      clear hq
      go_wp2_with fail
      go_ret2
      exact ⟨by rw [HR.out]; rfl, HBE.out⟩
  | some p =>
    rw [hp] at h
    obtain ⟨rfl, o1, k1, c1, o2, k2, c2, rfl, hn, hd⟩ := h
    have b1 := below_alloc w1 (.cells #[.bool p.1, .slice o1 k1 c1, .slice o2 k2 c2] 60)
    have HB2 := Lib.hid (bstep HB1.out b1)
    have BX := Lib.hid (BoxQ.new w1 (.bool p.1) (.slice o1 k1 c1) (.slice o2 k2 c2))
    have HN := Lib.hid (hn.go b1); have HD := Lib.hid (hd.go b1)
    have HP := Lib.hid hp
    clear hn hd b1 hp
    go_wp2_with fail
    generalize w1.alloc (.cells #[.bool p.1, .slice o1 k1 c1, .slice o2 k2 c2] 60) = w1a at *
    refine (RB.out _).mono ?_; rintro e w2 ⟨v2, hb2, k⟩
    have HB3 := Lib.hid (bstep HB2.out hb2); have BXa := Lib.hid (BX.out.go hb2); have HNa := Lib.hid (HN.out.go hb2); have HDa := Lib.hid (HD.out.go hb2)
    clear hb2
    have hp := HP.out
    cases hq : readQ b.data.toList with
    | none =>
      rw [hq] at k
      obtain ⟨rfl, rfl⟩ := k
      have HR : Hid (cmpT a b = ((0 : Int), (1 : Int))) := by show _ = _; unfold cmpT twoG; rw [hp, hq]
      have HBE := Lib.hid (bstep HB3.out (below_alloc w2 (.cells #[.bool false, .slice none 0 0, .slice none 0 0] 60)))
      clear hq hp
      go_wp2_with fail
      go_ret2
      exact ⟨by rw [HR.out]; rfl, HBE.out⟩
    | some q =>
      rw [hq] at k
      obtain ⟨rfl, o3, k3, c3, o4, k4, c4, rfl, hm, hc⟩ := k
      have b2 := below_alloc w2 (.cells #[.bool q.1, .slice o3 k3 c3, .slice o4 k4 c4] 60)
      have HB4 := Lib.hid (bstep HB3.out b2); have BFIN := Lib.hid b2
      have BX2 := Lib.hid (BXa.out.go b2); have BY2 := Lib.hid (BoxQ.new w2 (.bool q.1) (.slice o3 k3 c3) (.slice o4 k4 c4))
      have FP : Hid (RFrac w2 (.agg #[.bool p.1, .slice o1 k1 c1, .slice o2 k2 c2]) p.1 p.2.1 p.2.2) := ⟨_, _, _, _, _, _, rfl, HNa.out, HDa.out⟩
      have FQ : Hid (RFrac (w2.alloc (.cells #[.bool q.1, .slice o3 k3 c3, .slice o4 k4 c4] 60)) (.agg #[.bool q.1, .slice o3 k3 c3, .slice o4 k4 c4]) q.1 q.2.1 q.2.2) := ⟨_, _, _, _, _, _, rfl, hm.go b2, hc.go b2⟩
      obtain ⟨x0, x1, x2, -, -, -⟩ := BX2.out.facts
      obtain ⟨y0, y1, y2, -, -, -⟩ := BY2.out.facts
      clear hm hc b2
      have cp := readQ_can hp; have cq := readQ_can hq
      obtain ⟨s1, s2⟩ := read_small hp; obtain ⟨s3, s4⟩ := read_small hq
      have HR : Hid (cmpT a b = (cmpQ p q, 0)) := by show _ = _; unfold cmpT twoG; rw [hp, hq]; rfl
      have OP : Hid (∀ W v u, RFrac W v p.1 p.2.1 p.2.2 → RFrac W u q.1 q.2.1 q.2.2 → Calls Try.prog 78 #[v, u] W fun e w' => e = .returned (.int .i64 (cmpQ p q)) ∧ Below W.heap.size W w') := fun W v u h k => ragainst_any h k (by omega) (by omega) (by omega) (by omega) cp cq
      clear hp hq cp cq s1 s2 s3 s4
      generalize cmpQ p q = r at *
      go_wp2_with fail
      refine (OP.out _ _ _ (FP.out.go BFIN.out) FQ.out).mono ?_; rintro e w3 ⟨rfl, hb3⟩
      have HB5 := Lib.hid (bstep HB4.out hb3); clear hb3
      go_wp2_with fail
      go_ret2
      exact ⟨by rw [HR.out]; rfl, HB5.out⟩
end Go.Proofs.Ytlkdahgfnfdakaa
