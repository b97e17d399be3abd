/- The reference's Opposite, Zero, Sign, Plus, Minus, Against. -/
import Derived.Test.YtlkdahgfnfdakaaRefT
namespace Go.Proofs.Ytlkdahgfnfdakaa
open Go Go.RowKit Go.Shelf WN LM

theorem boxesQ2 (w : World) (a0 a1 a2 r0 r1 r2 : Value) :
    Below w.heap.size w ((w.alloc (.cells #[a0, a1, a2] 60)).alloc (.cells #[r0, r1, r2] 60)) ∧
    BoxQ ((w.alloc (.cells #[a0, a1, a2] 60)).alloc (.cells #[r0, r1, r2] 60)) w.heap.size a0 a1 a2 ∧
    BoxQ ((w.alloc (.cells #[a0, a1, a2] 60)).alloc (.cells #[r0, r1, r2] 60)) (w.heap.size + 1) r0 r1 r2 := by
  have s1 : (w.alloc (.cells #[a0, a1, a2] 60)).heap.size = w.heap.size + 1 := by simp
  refine ⟨((Below.refl _ w).alloc (Nat.le_refl _) _).alloc (by omega) _, ?_, ?_⟩
  · exact (alloc_lt _ _ _ (by omega)).trans (BoxQ.new w a0 a1 a2)
  · have := BoxQ.new (w.alloc (.cells #[a0, a1, a2] 60)) r0 r1 r2; rwa [s1] at this
theorem low_add {p q : Q3} (hp : Can p) (hq : Can q) : lowQ (addS p.1 (p.2.1 * q.2.2) q.1 (q.2.1 * p.2.2)) (addN p.1 (p.2.1 * q.2.2) q.1 (q.2.1 * p.2.2)) (p.2.2 * q.2.2) = addQ p q := by
  obtain ⟨h1, h2⟩ := low_spec (s := addS p.1 (p.2.1 * q.2.2) q.1 (q.2.1 * p.2.2)) (n := addN p.1 (p.2.1 * q.2.2) q.1 (q.2.1 * p.2.2)) (d := p.2.2 * q.2.2) (Nat.mul_pos hp.1 hq.1)
  obtain ⟨h3, h4⟩ := addQ_spec hp hq
  refine toR_inj h1 h3 ?_
  rw [h2, h4, add_int]
  unfold toR
  rw [Rat.mkRat_add_mkRat _ _ (Nat.ne_of_gt hp.1) (Nat.ne_of_gt hq.1), sgi_mul, sgi_mul]

set_option maxHeartbeats 2000000 in
set_option maxRecDepth 100000 in
theorem rzero_any {w : World} {v : Value} {s : Bool} {n d : Nat} (h : RFrac w v s n d) : Calls Try.prog 76 #[v] w fun e w' => e = .returned (.bool (decide (n = 0))) ∧ Below w.heap.size w w' := by
  obtain ⟨o1, k1, c1, o2, k2, c2, rfl, h1, h2⟩ := h
  obtain ⟨oo, cc, e⟩ := h1.shape
  cases e
  have bx := BoxQ.new w (.bool s) (.slice o1 (RLen n) c1) (.slice o2 k2 c2)
  have b1 := Lib.hid (below_alloc w (.cells #[.bool s, .slice o1 (RLen n) c1, .slice o2 k2 c2] 60))
  obtain ⟨x0, x1, x2, f0, f1, f2⟩ := bx.facts
  have HZ : Hid (((RLen n : Int) == 0) = decide (n = 0)) := by
    show _ = _
    by_cases h : n = 0
    · rw [decide_eq_true h, h, rlen_zero]; rfl
    · rw [decide_eq_false h, beq_eq_false_iff_ne]
      have : RLen n ≠ 0 := fun e => h (rlen_eq_zero.1 e)
      omega
  clear h1 h2 bx
  generalize RLen n = R at *
  go_enter Try.func76, Try.ntmps76
  go_wp2_with fail
  go_ret
  exact ⟨by rw [← HZ.out]; rfl, b1.out⟩

set_option maxHeartbeats 2000000 in
set_option maxRecDepth 100000 in
theorem rsign_any {w : World} {v : Value} {s : Bool} {n d : Nat} (h : RFrac w v s n d) (hs : s = true → n ≠ 0) : Calls Try.prog 86 #[v] w fun e w' => e = .returned (.int .i64 (sgn s n)) ∧ Below w.heap.size w w' := by
  obtain ⟨o1, k1, c1, o2, k2, c2, rfl, h1, h2⟩ := h
  obtain ⟨oo, cc, e⟩ := h1.shape
  cases e
  have bx := BoxQ.new w (.bool s) (.slice o1 (RLen n) c1) (.slice o2 k2 c2)
  have b1 := Lib.hid (below_alloc w (.cells #[.bool s, .slice o1 (RLen n) c1, .slice o2 k2 c2] 60))
  obtain ⟨x0, x1, x2, f0, f1, f2⟩ := bx.facts
  by_cases h0 : n = 0
  · have hsf : s = false := by
      cases s
      · rfl
      · exact absurd h0 (hs rfl)
    have HG : Hid (sgn s n = 0) := by show _ = _; rw [hsf, h0]; rfl
    have hz : RLen n = 0 := by rw [h0]; exact rlen_zero
    clear h1 h2 bx hs hsf h0
    generalize RLen n = R at *
    subst hz
    go_enter Try.func86, Try.ntmps86
    go_wp2_with fail
    go_ret
    exact ⟨by rw [HG.out]; rfl, b1.out⟩
  · have hl : RLen n ≠ 0 := fun e => h0 (rlen_eq_zero.1 e)
    have HG : Hid (sgn s n = if s then -1 else 1) := by
      show _ = _
      unfold sgn
      cases s
      · simp [h0]
      · rfl
    have tl : ((RLen n : Int) == 0) = false := by rw [beq_eq_false_iff_ne]; omega
    clear h1 h2 bx hs h0 hl
    generalize RLen n = R at *
    cases s
    · go_enter Try.func86, Try.ntmps86
      go_wp2_with fail
      go_ret
      exact ⟨by rw [HG.out]; rfl, b1.out⟩
    · go_enter Try.func86, Try.ntmps86
      go_wp2_with fail
      go_ret
      exact ⟨by rw [HG.out]; rfl, b1.out⟩

set_option maxHeartbeats 2000000 in
set_option maxRecDepth 100000 in
theorem ropp_any {w : World} {v : Value} {s : Bool} {n d : Nat} (h : RFrac w v s n d) : Calls Try.prog 115 #[v] w (RRetQ w (negQ (s, n, d))) := by
  obtain ⟨o1, k1, c1, o2, k2, c2, rfl, h1, h2⟩ := h
  obtain ⟨oo, cc, e⟩ := h1.shape
  cases e
  obtain ⟨B1, bA, bR⟩ := boxesQ2 w (.bool s) (.slice o1 (RLen n) c1) (.slice o2 k2 c2) (.bool false) (.slice none 0 0) (.slice none 0 0)
  have HN := Lib.hid h1; have HD := Lib.hid h2
  obtain ⟨x0, x1, x2, f0, f1, f2⟩ := bA.facts
  obtain ⟨y0, y1, y2, g0, g1, g2⟩ := bR.facts
  have HNQ : Hid (negQ (s, n, d) = (!s && decide (0 < RLen n), n, d)) := by
    show (!s && decide (n ≠ 0), n, d) = _
    by_cases h : n = 0
    · rw [h, rlen_zero]; simp
    · have : RLen n ≠ 0 := fun e => h (rlen_eq_zero.1 e)
      rw [decide_eq_true h, decide_eq_true (show 0 < RLen n by omega)]
  clear h1 h2 bA bR B1
  generalize hR : RLen n = R at *
  clear hR
  cases s
  · by_cases hp : 0 < R
    · have HQ : Hid (negQ (false, n, d) = (true, n, d)) := by show _ = _; rw [HNQ.out, decide_eq_true hp]; rfl
      go_enter Try.func115, Try.ntmps115
      go_wp2_with fail
      obtain ⟨B9, -, bF⟩ := boxesQ2 w (.bool false) (.slice o1 R c1) (.slice o2 k2 c2) (.bool true) (.slice o1 R c1) (.slice o2 k2 c2)
      obtain ⟨e0, e1, e2, -, -, -⟩ := bF.facts
      refine bodyPost_ret (v := .agg #[.bool true, .slice o1 R c1, .slice o2 k2 c2]) ?_ rfl ⟨_, rfl, by rw [HQ.out]; exact ⟨_, _, _, _, _, _, rfl, HN.out.go B9, HD.out.go B9⟩, B9⟩
      simp [results, Try.f115, go_sem, e0, e1, e2]
    · have hp0 : R = 0 := by omega
      have HQ : Hid (negQ (false, n, d) = (false, n, d)) := by show _ = _; rw [HNQ.out, decide_eq_false hp]; rfl
      subst hp0
      go_enter Try.func115, Try.ntmps115
      go_wp2_with fail
      obtain ⟨B9, -, bF⟩ := boxesQ2 w (.bool false) (.slice o1 0 c1) (.slice o2 k2 c2) (.bool false) (.slice o1 0 c1) (.slice o2 k2 c2)
      obtain ⟨e0, e1, e2, -, -, -⟩ := bF.facts
      refine bodyPost_ret (v := .agg #[.bool false, .slice o1 0 c1, .slice o2 k2 c2]) ?_ rfl ⟨_, rfl, by rw [HQ.out]; exact ⟨_, _, _, _, _, _, rfl, HN.out.go B9, HD.out.go B9⟩, B9⟩
      simp [results, Try.f115, go_sem, e0, e1, e2]
  · have HQ : Hid (negQ (true, n, d) = (false, n, d)) := by show _ = _; rw [HNQ.out]; rfl
    go_enter Try.func115, Try.ntmps115
    go_wp2_with fail
    obtain ⟨B9, -, bF⟩ := boxesQ2 w (.bool true) (.slice o1 R c1) (.slice o2 k2 c2) (.bool false) (.slice o1 R c1) (.slice o2 k2 c2)
    obtain ⟨e0, e1, e2, -, -, -⟩ := bF.facts
    refine bodyPost_ret (v := .agg #[.bool false, .slice o1 R c1, .slice o2 k2 c2]) ?_ rfl ⟨_, rfl, by rw [HQ.out]; exact ⟨_, _, _, _, _, _, rfl, HN.out.go B9, HD.out.go B9⟩, B9⟩
    simp [results, Try.f115, go_sem, e0, e1, e2]
end Go.Proofs.Ytlkdahgfnfdakaa
