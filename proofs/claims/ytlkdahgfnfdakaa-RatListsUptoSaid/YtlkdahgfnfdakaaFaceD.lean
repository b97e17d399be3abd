import Derived.Test.YtlkdahgfnfdakaaFaceB
namespace Go.Proofs.Ytlkdahgfnfdakaa
open Go.RowKit Go.Shelf WN LM

theorem simQ_len (p q : Q3) (h1 : p.1 = true → p.2.1 ≠ 0) (h2 : q.1 = true → q.2.1 ≠ 0) (d0 : 0 < p.2.2) (c0 : 0 < q.2.2) (hpq : p.1 = true → q.1 = true → q.2.1 * p.2.2 ≤ p.2.1 * q.2.2) (hpq2 : p.1 = false → p.2.1 * q.2.2 ≤ q.2.1 * p.2.2) :
    Len (simQ p q).2.1 ≤ Len p.2.1 + Len q.2.1 + 1 ∧ Len (simQ p q).2.2 ≤ Len p.2.2 + Len q.2.2 + 1 := by
  have l1 := len_small (show 1 < 1000000000 by omega)
  have l0 := len_zero
  unfold simQ
  split
  · rename_i h
    simp only [Bool.and_eq_true] at h
    have b := simpl_bound _ q.2.1 q.2.2 p.2.1 p.2.2 (Nat.le_refl _) c0 d0 (hpq h.1 h.2)
    have m1 := len_mono b.1
    have m2 := len_mono b.2.1
    exact ⟨by show Len (simpl _ _ _ _).1 ≤ _; omega, by show Len (simpl _ _ _ _).2 ≤ _; omega⟩
  · split
    · exact ⟨by show Len 0 ≤ _; omega, by show Len 1 ≤ _; omega⟩
    · rename_i h h'
      have hs : p.1 = false := by
        cases hp : p.1
        · rfl
        · exfalso; apply h'; unfold signQ sgn; rw [hp, if_pos rfl]; omega
      have b := simpl_bound _ p.2.1 p.2.2 q.2.1 q.2.2 (Nat.le_refl _) d0 c0 (hpq2 hs)
      have m1 := len_mono b.1
      have m2 := len_mono b.2.1
      exact ⟨by show Len (simpl _ _ _ _).1 ≤ _; omega, by show Len (simpl _ _ _ _).2 ≤ _; omega⟩

theorem add_same {s : Bool} {X Y : Nat} : addS s X s Y = s ∧ addN s X s Y = X + Y := by unfold addS addN; simp
theorem add_diff {s t : Bool} {X Y : Nat} (h : s ≠ t) : addS s X t Y = (if X < Y then t else s) ∧ addN s X t Y = (if X < Y then Y - X else X - Y) := by unfold addS addN; rw [if_neg h, if_neg h]; exact ⟨rfl, rfl⟩
/-- what compare says, in products -/
theorem cmpQ_le {p q : Q3} (hp : p.1 = true → p.2.1 ≠ 0) (hq : q.1 = true → q.2.1 ≠ 0) (d0 : 0 < p.2.2) (c0 : 0 < q.2.2) (h : ¬ 0 < cmpQ p q) :
    (p.1 = true → q.1 = true → q.2.1 * p.2.2 ≤ p.2.1 * q.2.2) ∧ (p.1 = false → p.2.1 * q.2.2 ≤ q.2.1 * p.2.2) ∧ (p.1 = false → q.1 = true → False) := by
  have e1 : p.2.1 * q.2.2 = 0 ↔ p.2.1 = 0 := by rw [Nat.mul_eq_zero]; omega
  have e2 : q.2.1 * p.2.2 = 0 ↔ q.2.1 = 0 := by rw [Nat.mul_eq_zero]; omega
  unfold cmpQ at h
  generalize p.2.1 * q.2.2 = X at *
  generalize q.2.1 * p.2.2 = Y at *
  rw [sgn_pos] at h
  cases hs : p.1 <;> cases ht : q.1 <;> simp only [hs, ht, Bool.false_and, Bool.true_and, Bool.not_false, Bool.not_true] at h
  · refine ⟨fun h => absurd h (by decide), fun _ => ?_, fun _ h => absurd h (by decide)⟩
    by_cases hY : Y = 0
    · subst hY
      have h0 : decide ((0 : Nat) ≠ 0) = false := rfl
      rw [h0, add_same.1, add_same.2] at h
      simp at h; omega
    · have h0 : decide (Y ≠ 0) = true := by simp [hY]
      rw [h0, (add_diff (by decide)).1, (add_diff (by decide)).2] at h
      rcases Nat.lt_or_ge X Y with h1 | h1
      · omega
      · rw [if_neg (by omega), if_neg (by omega)] at h
        simp at h; omega
  · exfalso
    have hY : Y ≠ 0 := fun h => (hq ht) (e2.1 h)
    rw [add_same.1, add_same.2] at h
    simp at h
    omega
  · exact ⟨fun _ h => absurd h (by decide), fun h => absurd h (by decide), fun h => absurd h (by decide)⟩
  · refine ⟨fun _ _ => ?_, fun h => absurd h (by decide), fun h => absurd h (by decide)⟩
    have hX : X ≠ 0 := fun h => (hp hs) (e1.1 h)
    have h0 : decide (X ≠ 0) = true := by simp [hX]
    rw [h0, (add_diff (by decide)).1, (add_diff (by decide)).2] at h
    rcases Nat.lt_or_ge X Y with h1 | h1
    · rw [if_pos h1, if_pos h1] at h
      simp at h; omega
    · exact h1

set_option maxHeartbeats 1000000 in
set_option maxRecDepth 100000 in
theorem simplest_any (w : World) (a b : ByteArray) (ha : a.size ≤ 140737488355328) (hb : b.size ≤ 140737488355328) : Calls Try.prog 48 #[.string a, .string b] w (OutS w (twoG ((⟨#[]⟩ : ByteArray), (1 : Int)) simF a b)) := by
  have PS := Lib.hid (parse_num (Strs.new2 w a b) (by simp) (by intro s hs; simp at hs; rcases hs with rfl | rfl <;> assumption))
  have HB1 := Lib.hid (below_alloc w (.cells #[.string a, .string b] 9))
  have HA := Lib.hid ha; have HBB := Lib.hid hb; clear ha hb
  go_enter Try.func48, Try.ntmps48
  go_wp2_with fail
  generalize w.alloc (.cells #[.string a, .string b] 9) = w1 at *
  refine PS.out.mono ?_; rintro e w2 ⟨hb2, hm⟩
  have HB2 := Lib.hid (bstep HB1.out hb2)
  clear hb2 PS
  rw [readAll_two] at hm
  cases hp : readQ a.data.toList with
  | none =>
    rw [hp] at hm
    have HR : Hid (twoG ((⟨#[]⟩ : ByteArray), (1 : Int)) simF a b = ((⟨#[]⟩ : ByteArray), (1 : Int))) := by show _ = _; unfold twoG; rw [hp]
    obtain rfl : e = _ := hm
    clear hp
    go_wp2_with fail
    go_ret2
    exact ⟨by rw [HR.out]; rfl, HB2.out⟩
  | some p =>
    cases hq : readQ b.data.toList with
    | none =>
      rw [hp, hq] at hm
      have HR : Hid (twoG ((⟨#[]⟩ : ByteArray), (1 : Int)) simF a b = ((⟨#[]⟩ : ByteArray), (1 : Int))) := by show _ = _; unfold twoG; rw [hp, hq]
      obtain rfl : e = _ := hm
      clear hp hq
      go_wp2_with fail
      go_ret2
      exact ⟨by rw [HR.out]; rfl, HB2.out⟩
    | some q =>
      rw [hp, hq] at hm
      have HR : Hid (twoG ((⟨#[]⟩ : ByteArray), (1 : Int)) simF a b = simF p q) := by show _ = _; unfold twoG; rw [hp, hq]
      obtain ⟨g, cap, rfl, hrow⟩ := hm
      obtain ⟨p1, p2, p3, -, p5, -⟩ := readQ_q hp
      obtain ⟨q1, q2, q3, -, q5, -⟩ := readQ_q hq
      have lp1 := len_dig p1; have lp2 := len_dig p2; have lq1 := len_dig q1; have lq2 := len_dig q2
      obtain ⟨⟨o1, k1, c1', o2, k2, c2', x0, x1, x2, hn, hd⟩, ⟨o3, k3, c3', o4, k4, c4', y0, y1, y2, hm, hc⟩⟩ := hrow.two
      have HN := Lib.hid hn; have HD := Lib.hid hd; have HM := Lib.hid hm; have HC := Lib.hid hc
      have HX : Hid (w2.cell? ⟨g, 0, none⟩ = some (.bool p.1) ∧ w2.cell? ⟨g, 1, none⟩ = some (.slice o1 k1 c1') ∧ w2.cell? ⟨g, 2, none⟩ = some (.slice o2 k2 c2')) := ⟨x0, x1, x2⟩
      have HY : Hid (w2.cell? ⟨g, 3, none⟩ = some (.bool q.1) ∧ w2.cell? ⟨g, 4, none⟩ = some (.slice o3 k3 c3') ∧ w2.cell? ⟨g, 5, none⟩ = some (.slice o4 k4 c4')) := ⟨y0, y1, y2⟩
      have P3 := Lib.hid p3; have Q3' := Lib.hid q3; have P5 := Lib.hid p5; have Q5 := Lib.hid q5
      have HOO : Hid (∀ e w', OutS w (simF p q) e w' → OutS w (twoG ((⟨#[]⟩ : ByteArray), (1 : Int)) simF a b) e w') := fun _ _ h => by rw [HR.out]; exact h
      clear hp hq hrow hn hd hm hc p1 p2 p3 q1 q2 q3 p5 q5 HR
      have CF : Hid (∀ w' v u, Frac w' v p.1 p.2.1 p.2.2 → Frac w' u q.1 q.2.1 q.2.2 → Calls Try.prog 77 #[v, u] w' fun e w'' => e = .returned (.int .i64 (cmpQ p q)) ∧ Below w'.heap.size w' w'') := fun w' v u h k => fracCompare_num h k (by omega) (by omega) (by omega) (by omega)
      have hSIM : ¬ 0 < cmpQ p q → ∀ w' v u, Frac w' v p.1 p.2.1 p.2.2 → Frac w' u q.1 q.2.1 q.2.2 → Calls Try.prog 94 #[v, u] w' (RetF w' (simQ p q).1 (simQ p q).2.1 (simQ p q).2.2) := fun hc w' v u h k => by
        obtain ⟨g1, g2, g3⟩ := cmpQ_le P5.out Q5.out P3.out Q3'.out hc
        unfold simQ
        cases hs : p.1
        · simp only [Bool.false_and]
          rw [if_neg (by decide)]
          rw [hs] at h
          by_cases hz : signQ p ≤ 0
          · rw [if_pos hz]
            refine simplest_zero h k (by omega) rfl ?_
            unfold signQ at hz; rwa [hs] at hz
          · rw [if_neg hz]
            have hn0 : 0 < p.2.1 := by
              unfold signQ sgn at hz
              rw [hs] at hz
              rcases Nat.eq_zero_or_pos p.2.1 with h0 | h0
              · rw [h0] at hz; simp at hz
              · exact h0
            exact simplest_above h k (by omega) (by omega) (by omega) (by omega) hn0 P3.out Q3'.out (g2 hs)
        · cases ht : q.1
          · simp only [Bool.and_false]
            rw [if_neg (by decide)]
            have hz : signQ p ≤ 0 := by unfold signQ sgn; rw [hs, if_pos rfl]; omega
            rw [if_pos hz]
            rw [hs] at h; rw [ht] at k
            refine simplest_zero h k (by omega) rfl (by unfold signQ at hz; rwa [hs] at hz)
          · rw [if_pos (show (true && true) = true from rfl)]
            rw [hs] at h; rw [ht] at k
            exact simplest_both h k (by omega) (by omega) (by omega) (by omega) (Nat.pos_of_ne_zero (P5.out hs)) (Nat.pos_of_ne_zero (Q5.out ht)) P3.out Q3'.out (g1 hs ht)
      have hLB : ¬ 0 < cmpQ p q → Len (simQ p q).2.1 ≤ 10000000000 ∧ Len (simQ p q).2.2 ≤ 10000000000 := fun hc => by
        obtain ⟨g1, g2, g3⟩ := cmpQ_le P5.out Q5.out P3.out Q3'.out hc
        have := simQ_len p q P5.out Q5.out P3.out Q3'.out g1 g2
        omega
      have hYES : ¬ 0 < cmpQ p q → simF p q = out3 (simQ p q) := fun hc => by unfold simF; rw [if_neg hc]
      have hNO : 0 < cmpQ p q → simF p q = (⟨#[]⟩, 3) := fun hc => by unfold simF; rw [if_pos hc]
      have HSIM := Lib.hid hSIM; have HLB := Lib.hid hLB; have HYES := Lib.hid hYES; have HNO := Lib.hid hNO
      clear hSIM hLB hYES hNO
      generalize cmpQ p q = z at *
      clear x0 x1 x2 y0 y1 y2
      go_wp2_with fail
      refine region_inv 7 36 [(18, Is (.slice (some ⟨g, 0, none⟩) 2 cap)), (19, Is (.pointer (some ⟨g, 0, none⟩))), (20, Is (.agg #[.bool p.1, .slice o1 k1 c1', .slice o2 k2 c2'])), (21, Is (.slice (some ⟨g, 0, none⟩) 2 cap)), (22, Is (.pointer (some ⟨g, 3, none⟩))), (23, Is (.agg #[.bool q.1, .slice o3 k3 c3', .slice o4 k4 c4'])), (24, Is (.int .i64 z))] (by kernel_rfl) rfl (by kernel_rfl) ?_ ?_
      · refine steps_cons rfl (fun a W hb hr hg K hK => ?_) <| steps_cons rfl (fun a W hb hr hg K hK => ?_) <| steps_cons rfl (fun a W hb hr hg K hK => ?_) <| steps_cons rfl (fun a W hb hr hg K hK => ?_) <| steps_cons rfl (fun a W hb hr hg K hK => ?_) <| steps_cons rfl (fun a W hb hr hg K hK => ?_) <| steps_cons rfl (fun a W hb hr hg K hK => ?_) trivial
        · have e : a.tmps[6]?.getD undef = .slice (some ⟨g, 0, none⟩) 2 cap := hb 6 (by kernel_rfl)
          clear hb hr; go_simp; exact hK _ _ (Below.refl _ _) rfl
        · have e : a.tmps[18]?.getD undef = .slice (some ⟨g, 0, none⟩) 2 cap := hr 18 (by kernel_rfl)
          clear hb hr; go_simp; exact hK _ _ (Below.refl _ _) rfl
        · have e : a.tmps[19]?.getD undef = _ := hr 19 (by kernel_rfl)
          obtain ⟨c0, c1, c2⟩ := keep3 HX.out hg
          clear hb hr; go_simp; exact hK _ _ (Below.refl _ _) rfl
        · have e : a.tmps[6]?.getD undef = .slice (some ⟨g, 0, none⟩) 2 cap := hb 6 (by kernel_rfl)
          clear hb hr; go_simp; exact hK _ _ (Below.refl _ _) rfl
        · have e : a.tmps[21]?.getD undef = .slice (some ⟨g, 0, none⟩) 2 cap := hr 21 (by kernel_rfl)
          clear hb hr; go_simp; exact hK _ _ (Below.refl _ _) rfl
        · have e : a.tmps[22]?.getD undef = _ := hr 22 (by kernel_rfl)
          obtain ⟨c0, c1, c2⟩ := keep3 HY.out hg
          clear hb hr; go_simp; exact hK _ _ (Below.refl _ _) rfl
        · have e1 : a.tmps[20]?.getD undef = _ := hr 20 (by kernel_rfl)
          have e2 : a.tmps[23]?.getD undef = _ := hr 23 (by kernel_rfl)
          clear hb hr; go_simp
          refine (CF.out _ _ _ ⟨_, _, rfl, HN.out.go hg, HD.out.go hg⟩ ⟨_, _, rfl, HM.out.go hg, HC.out.go hg⟩).mono ?_; rintro e w5 ⟨rfl, hb5⟩
          exact hK _ _ hb5 rfl
      · rintro g3 w9 hb9 ⟨-, -, -, -, -, -, h24, -⟩
        simp only [List.drop_succ_cons, List.drop_zero, List.take_succ_cons, List.take_zero, putHead, Option.getD_some, Act.put, List.setIfInBounds_toArray, List.set_cons_zero, List.set_cons_succ]
        replace h24 : g3 24 = .int .i64 z := h24
        generalize g3 24 = g24 at *
        subst h24
        have HX9 := Lib.hid (keep3 HX.out hb9); have HY9 := Lib.hid (keep3 HY.out hb9)
        have HN9 := Lib.hid (HN.out.go hb9); have HD9 := Lib.hid (HD.out.go hb9); have HM9 := Lib.hid (HM.out.go hb9); have HC9 := Lib.hid (HC.out.go hb9)
        have HB9 := Lib.hid (bstep HB2.out hb9)
        clear hb9 HX HY HN HD HM HC
        by_cases hz : 0 < z
        · have HZ := Lib.hid (HNO.out hz)
          have hzd : decide (0 < z) = true := decide_eq_true hz
          clear hz
          go_wp2_with fail
          go_ret2
          exact HOO.out _ _ ⟨by rw [HZ.out]; rfl, HB9.out⟩
        · have HZ := Lib.hid (HYES.out (by omega))
          have hzd : decide (0 < z) = false := decide_eq_false hz
          have SIM := Lib.hid (HSIM.out (by omega))
          have LB := Lib.hid (HLB.out (by omega))
          have WR : Hid (∀ w' v, Frac w' v (simQ p q).1 (simQ p q).2.1 (simQ p q).2.2 → Calls Try.prog 62 #[v] w' (OutS w' (out3 (simQ p q)))) := fun w' v h => write_num h LB.out.1 LB.out.2
          rw [HZ.out] at HOO
          clear hz HSIM HLB HYES HNO LB HZ
          generalize simQ p q = y at *
          go_wp2_with fail
          refine region_inv 10 36 [(26, Is (.slice (some ⟨g, 0, none⟩) 2 cap)), (27, Is (.pointer (some ⟨g, 0, none⟩))), (28, Is (.agg #[.bool p.1, .slice o1 k1 c1', .slice o2 k2 c2'])), (29, Is (.slice (some ⟨g, 0, none⟩) 2 cap)), (30, Is (.pointer (some ⟨g, 3, none⟩))), (31, Is (.agg #[.bool q.1, .slice o3 k3 c3', .slice o4 k4 c4'])), (32, IsFrac y.1 y.2.1 y.2.2), (33, Is (.tuple #[.string (out3 y).1, .int .i64 (out3 y).2])), (34, Is (.string (out3 y).1)), (35, Is (.int .i64 (out3 y).2))] (by kernel_rfl) rfl (by kernel_rfl) ?_ ?_
          · refine steps_cons rfl (fun a W hb hr hg K hK => ?_) <| steps_cons rfl (fun a W hb hr hg K hK => ?_) <| steps_cons rfl (fun a W hb hr hg K hK => ?_) <| steps_cons rfl (fun a W hb hr hg K hK => ?_) <| steps_cons rfl (fun a W hb hr hg K hK => ?_) <| steps_cons rfl (fun a W hb hr hg K hK => ?_) <| steps_cons rfl (fun a W hb hr hg K hK => ?_) <| steps_cons rfl (fun a W hb hr hg K hK => ?_) <| steps_cons rfl (fun a W hb hr hg K hK => ?_) <| steps_cons rfl (fun a W hb hr hg K hK => ?_) trivial
            · have e : a.tmps[6]?.getD undef = .slice (some ⟨g, 0, none⟩) 2 cap := hb 6 (by kernel_rfl)
              clear hb hr; go_simp; exact hK _ _ (Below.refl _ _) rfl
            · have e : a.tmps[26]?.getD undef = .slice (some ⟨g, 0, none⟩) 2 cap := hr 26 (by kernel_rfl)
              clear hb hr; go_simp; exact hK _ _ (Below.refl _ _) rfl
            · have e : a.tmps[27]?.getD undef = _ := hr 27 (by kernel_rfl)
              obtain ⟨c0, c1, c2⟩ := keep3 HX9.out hg
              clear hb hr; go_simp; exact hK _ _ (Below.refl _ _) rfl
            · have e : a.tmps[6]?.getD undef = .slice (some ⟨g, 0, none⟩) 2 cap := hb 6 (by kernel_rfl)
              clear hb hr; go_simp; exact hK _ _ (Below.refl _ _) rfl
            · have e : a.tmps[29]?.getD undef = .slice (some ⟨g, 0, none⟩) 2 cap := hr 29 (by kernel_rfl)
              clear hb hr; go_simp; exact hK _ _ (Below.refl _ _) rfl
            · have e : a.tmps[30]?.getD undef = _ := hr 30 (by kernel_rfl)
              obtain ⟨c0, c1, c2⟩ := keep3 HY9.out hg
              clear hb hr; go_simp; exact hK _ _ (Below.refl _ _) rfl
            · have e1 : a.tmps[28]?.getD undef = _ := hr 28 (by kernel_rfl)
              have e2 : a.tmps[31]?.getD undef = _ := hr 31 (by kernel_rfl)
              clear hb hr; go_simp
              refine (SIM.out _ _ _ ⟨_, _, rfl, HN9.out.go hg, HD9.out.go hg⟩ ⟨_, _, rfl, HM9.out.go hg, HC9.out.go hg⟩).mono ?_; rintro e w5 ⟨v5, rfl, hv5, hb5⟩
              exact hK _ _ hb5 hv5
            · have e : Frac W (a.tmps[32]?.getD undef) y.1 y.2.1 y.2.2 := hr 32 (by kernel_rfl)
              have E := Lib.hid e
              clear hb hr e; go_simp
              refine (WR.out _ _ E.out).mono ?_; rintro e w5 ⟨rfl, hb5⟩
              exact hK _ _ hb5 rfl
            · have e : a.tmps[33]?.getD undef = .tuple #[.string (out3 y).1, .int .i64 (out3 y).2] := hr 33 (by kernel_rfl)
              clear hb hr; go_simp; exact hK _ _ (Below.refl _ _) rfl
            · have e : a.tmps[33]?.getD undef = .tuple #[.string (out3 y).1, .int .i64 (out3 y).2] := hr 33 (by kernel_rfl)
              clear hb hr; go_simp; exact hK _ _ (Below.refl _ _) rfl
          · rintro g4 w10 hb10 ⟨-, -, -, -, -, -, -, -, h34, h35, -⟩
            simp only [List.drop_succ_cons, List.drop_zero, List.take_succ_cons, List.take_zero, putHead, Option.getD_some, Act.put, List.setIfInBounds_toArray, List.set_cons_zero, List.set_cons_succ]
            replace h34 : g4 34 = .string (out3 y).1 := h34
            replace h35 : g4 35 = .int .i64 (out3 y).2 := h35
            have HB10 := Lib.hid (bstep HB9.out hb10)
            clear hb10
            go_wp2_with fail
            go_ret2
            exact HOO.out _ _ ⟨by show Ending.returned (.tuple #[g4 34, g4 35]) = _; rw [h34, h35], HB10.out⟩

set_option maxHeartbeats 1000000 in
set_option maxRecDepth 100000 in
theorem multiple_any (w : World) (a b : ByteArray) (ha : a.size ≤ 140737488355328) (hb : b.size ≤ 140737488355328) : Calls Try.prog 50 #[.string a, .string b] w (OutB w (twoG (false, (1 : Int)) multF a b)) := by
  have PS := Lib.hid (parse_num (Strs.new2 w a b) (by simp) (by intro s hs; simp at hs; rcases hs with rfl | rfl <;> assumption))
  have HB1 := Lib.hid (below_alloc w (.cells #[.string a, .string b] 9))
  have HA := Lib.hid ha; have HBB := Lib.hid hb; clear ha hb
  go_enter Try.func50, Try.ntmps50
  go_wp2_with fail
  generalize w.alloc (.cells #[.string a, .string b] 9) = w1 at *
  refine PS.out.mono ?_; rintro e w2 ⟨hb2, hm⟩
  have HB2 := Lib.hid (bstep HB1.out hb2)
  clear hb2 PS
  rw [readAll_two] at hm
  cases hp : readQ a.data.toList with
  | none =>
    rw [hp] at hm
    have HR : Hid (twoG (false, (1 : Int)) multF a b = (false, (1 : Int))) := by show _ = _; unfold twoG; rw [hp]
    obtain rfl : e = _ := hm
    clear hp
    go_wp2_with fail
    go_ret2
    exact ⟨by rw [HR.out]; rfl, HB2.out⟩
  | some p =>
    cases hq : readQ b.data.toList with
    | none =>
      rw [hp, hq] at hm
      have HR : Hid (twoG (false, (1 : Int)) multF a b = (false, (1 : Int))) := by show _ = _; unfold twoG; rw [hp, hq]
      obtain rfl : e = _ := hm
      clear hp hq
      go_wp2_with fail
      go_ret2
      exact ⟨by rw [HR.out]; rfl, HB2.out⟩
    | some q =>
      rw [hp, hq] at hm
      have HR : Hid (twoG (false, (1 : Int)) multF a b = multF p q) := by show _ = _; unfold twoG; rw [hp, hq]
      obtain ⟨g, cap, rfl, hrow⟩ := hm
      obtain ⟨p1, p2, p3, -, p5, -⟩ := readQ_q hp
      obtain ⟨q1, q2, q3, -, q5, -⟩ := readQ_q hq
      have lp1 := len_dig p1; have lp2 := len_dig p2; have lq1 := len_dig q1; have lq2 := len_dig q2
      obtain ⟨⟨o1, k1, c1', o2, k2, c2', x0, x1, x2, hn, hd⟩, ⟨o3, k3, c3', o4, k4, c4', y0, y1, y2, hm, hc⟩⟩ := hrow.two
      have HN := Lib.hid hn; have HD := Lib.hid hd; have HM := Lib.hid hm; have HC := Lib.hid hc
      have HX : Hid (w2.cell? ⟨g, 0, none⟩ = some (.bool p.1) ∧ w2.cell? ⟨g, 1, none⟩ = some (.slice o1 k1 c1') ∧ w2.cell? ⟨g, 2, none⟩ = some (.slice o2 k2 c2')) := ⟨x0, x1, x2⟩
      have HY : Hid (w2.cell? ⟨g, 3, none⟩ = some (.bool q.1) ∧ w2.cell? ⟨g, 4, none⟩ = some (.slice o3 k3 c3') ∧ w2.cell? ⟨g, 5, none⟩ = some (.slice o4 k4 c4')) := ⟨y0, y1, y2⟩
      have P3 := Lib.hid p3; have Q3' := Lib.hid q3; have P5 := Lib.hid p5; have Q5 := Lib.hid q5
      have HOO : Hid (∀ e w', OutB w (multF p q) e w' → OutB w (twoG (false, (1 : Int)) multF a b) e w') := fun _ _ h => by rw [HR.out]; exact h
      clear hp hq hrow hn hd hm hc p1 p2 p3 q1 q2 q3 p5 q5 HR
      have SG := Lib.hid (fun w' v h => sign_num (w := w') (v := v) (s := q.1) (n := q.2.1) (d := q.2.2) h (by omega))
      by_cases hz : signQ q ≤ 0
      · have HZ : Hid (multF p q = (false, 3)) := by show _ = _; unfold multF; rw [if_pos hz]
        have hzd : decide (sgn q.1 q.2.1 ≤ 0) = true := by simpa [signQ] using hz
        clear hz
        generalize sgn q.1 q.2.1 = sg at *
        go_wp2_with fail
        refine (SG.out _ _ ⟨_, _, rfl, HM.out, HC.out⟩).mono ?_; rintro e w3 ⟨rfl, hb3⟩
        have HB3 := Lib.hid (bstep HB2.out hb3)
        clear hb3 x0 x1 x2 y0 y1 y2
        go_wp2_with fail
        go_ret2
        exact HOO.out _ _ ⟨by rw [HZ.out]; rfl, HB3.out⟩
      · have hq0 : q.2.1 ≠ 0 := fun h => by
          have := (sgn_zero Q5.out).2 h
          unfold signQ at hz; omega
        have HZ : Hid (multF p q = (!(divQ p q).1 && decide ((divQ p q).2.2 = 1), 0)) := by show _ = _; unfold multF; rw [if_neg hz]
        have hzd : decide (sgn q.1 q.2.1 ≤ 0) = false := by simpa [signQ] using hz
        have CF : Hid (∀ w' v u, Frac w' v p.1 p.2.1 p.2.2 → Frac w' u q.1 q.2.2 q.2.1 → Calls Try.prog 64 #[v, u] w' (RetF w' (divQ p q).1 (divQ p q).2.1 (divQ p q).2.2)) := fun w' v u h k => fracTimes_num (m := q.2.2) (c := q.2.1) h k (by omega) (by omega) (by omega) (by omega) P3.out (Nat.pos_of_ne_zero hq0)
        have LB : Len (divQ p q).2.2 ≤ 10000000000 := by
          have h := mulQ_len p (invQ q)
          have e1 : (invQ q).2.1 = q.2.2 := rfl
          have e2 : (invQ q).2.2 = q.2.1 := rfl
          rw [e1, e2] at h
          unfold divQ; omega
        rw [HZ.out] at HOO
        clear hz hq0 HZ
        generalize divQ p q = z at *
        generalize sgn q.1 q.2.1 = sg at *
        go_wp2_with fail
        refine (SG.out _ _ ⟨_, _, rfl, HM.out, HC.out⟩).mono ?_; rintro e w3 ⟨rfl, hb3⟩
        have HX3 := Lib.hid (keep3 HX.out hb3); have HY3 := Lib.hid (keep3 HY.out hb3)
        have HN3 := Lib.hid (HN.out.go hb3); have HD3 := Lib.hid (HD.out.go hb3); have HM3 := Lib.hid (HM.out.go hb3); have HC3 := Lib.hid (HC.out.go hb3)
        have HB3 := Lib.hid (bstep HB2.out hb3)
        clear hb3 x0 x1 x2 y0 y1 y2 HX HY HN HD HM HC
        go_wp2_with fail
        refine region_inv 9 40 [(24, Is (.slice (some ⟨g, 0, none⟩) 2 cap)), (25, Is (.pointer (some ⟨g, 0, none⟩))), (26, Is (.agg #[.bool p.1, .slice o1 k1 c1', .slice o2 k2 c2'])), (27, Is (.slice (some ⟨g, 0, none⟩) 2 cap)), (28, Is (.pointer (some ⟨g, 3, none⟩))), (29, Is (.agg #[.bool q.1, .slice o3 k3 c3', .slice o4 k4 c4'])), (30, IsFrac q.1 q.2.2 q.2.1), (31, IsFrac z.1 z.2.1 z.2.2), (8, IsBox w3.heap.size (.bool false) (.slice none 0 0) (.slice none 0 0))] (by kernel_rfl) rfl (by kernel_rfl) ?_ ?_
        · refine steps_cons rfl (fun a W hb hr hg K hK => ?_) <| steps_cons rfl (fun a W hb hr hg K hK => ?_) <| steps_cons rfl (fun a W hb hr hg K hK => ?_) <| steps_cons rfl (fun a W hb hr hg K hK => ?_) <| steps_cons rfl (fun a W hb hr hg K hK => ?_) <| steps_cons rfl (fun a W hb hr hg K hK => ?_) <| steps_cons rfl (fun a W hb hr hg K hK => ?_) <| steps_cons rfl (fun a W hb hr hg K hK => ?_) <| steps_cons rfl (fun a W hb hr hg K hK => ?_) trivial
          · have e : a.tmps[6]?.getD undef = .slice (some ⟨g, 0, none⟩) 2 cap := hb 6 (by kernel_rfl)
            clear hb hr; go_simp; exact hK _ _ (Below.refl _ _) rfl
          · have e : a.tmps[24]?.getD undef = .slice (some ⟨g, 0, none⟩) 2 cap := hr 24 (by kernel_rfl)
            clear hb hr; go_simp; exact hK _ _ (Below.refl _ _) rfl
          · have e : a.tmps[25]?.getD undef = _ := hr 25 (by kernel_rfl)
            obtain ⟨c0, c1, c2⟩ := keep3 HX3.out hg
            clear hb hr; go_simp; exact hK _ _ (Below.refl _ _) rfl
          · have e : a.tmps[6]?.getD undef = .slice (some ⟨g, 0, none⟩) 2 cap := hb 6 (by kernel_rfl)
            clear hb hr; go_simp; exact hK _ _ (Below.refl _ _) rfl
          · have e : a.tmps[27]?.getD undef = .slice (some ⟨g, 0, none⟩) 2 cap := hr 27 (by kernel_rfl)
            clear hb hr; go_simp; exact hK _ _ (Below.refl _ _) rfl
          · have e : a.tmps[28]?.getD undef = _ := hr 28 (by kernel_rfl)
            obtain ⟨c0, c1, c2⟩ := keep3 HY3.out hg
            clear hb hr; go_simp; exact hK _ _ (Below.refl _ _) rfl
          · have e : a.tmps[29]?.getD undef = _ := hr 29 (by kernel_rfl)
            clear hb hr; go_simp
            refine (inverse_num ⟨_, _, rfl, HM3.out.go hg, HC3.out.go hg⟩).mono ?_; rintro e w5 ⟨v5, rfl, hv5, hb5⟩
            exact hK _ _ hb5 hv5
          · have e : a.tmps[26]?.getD undef = _ := hr 26 (by kernel_rfl)
            have e2 : Frac W (a.tmps[30]?.getD undef) q.1 q.2.2 q.2.1 := hr 30 (by kernel_rfl)
            have E2 := Lib.hid e2
            clear hb hr e2; go_simp
            refine (CF.out _ _ _ ⟨_, _, rfl, HN3.out.go hg, HD3.out.go hg⟩ E2.out).mono ?_; rintro e w5 ⟨v5, rfl, hv5, hb5⟩
            exact hK _ _ hb5 hv5
          · clear hb hr; go_simp
            exact hK _ _ (below_alloc _ _) ⟨_, rfl, hg.size, Box3.new _ _ _ _⟩
        · rintro g3 w9 hb9 ⟨-, -, -, -, -, -, -, h31, h8, -⟩
          simp only [List.drop_succ_cons, List.drop_zero, List.take_succ_cons, List.take_zero, putHead, Option.getD_some, Act.put, List.setIfInBounds_toArray, List.set_cons_zero, List.set_cons_succ]
          replace h31 : Frac w9 (g3 31) z.1 z.2.1 z.2.2 := h31
          replace h8 : ∃ p, g3 8 = .pointer (some ⟨p, 0, none⟩) ∧ w3.heap.size ≤ p ∧ Box3 w9 p (.bool false) (.slice none 0 0) (.slice none 0 0) := h8
          generalize g3 31 = v31 at *
          generalize g3 8 = v8 at *
          obtain ⟨pp, rfl, hpp, bS⟩ := h8
          obtain ⟨o7, k7, c7', o8, k8, c8', rfl, hZN, hZD⟩ := h31.box
          have HB9 := Lib.hid (bstep HB3.out hb9)
          have BS := Lib.hid bS; have ZD := Lib.hid hZD
          have hpw : w.heap.size ≤ pp := by have := HB3.out.size; omega
          clear h31 hZN hZD hb9 bS HX3 HY3 HN3 HD3 HM3 HC3 CF SG
          obtain ⟨c0, c1, c2, f0, f1, f2⟩ := Box3.facts BS.out
          obtain ⟨zs, zn, zd⟩ := z
          replace LB : Len zd ≤ 10000000000 := LB
          replace ZD : Hid (Num w9 (.slice o8 k8 c8') zd) := ZD
          have HOO' : Hid (∀ e w', OutB w (!zs && decide (zd = 1), 0) e w' → OutB w (twoG (false, (1 : Int)) multF a b) e w') := HOO.out
          clear HOO
          cases zs
          · go_wp2_with fail
            have BX := Lib.hid (BS.out.set (.bool false) (.slice o7 k7 c7') (.slice o8 k8 c8'))
            have HB10 := Lib.hid (three_below (g := pp) (.bool false) (.slice o7 k7 c7') (.slice o8 k8 c8') HB9.out hpw)
            have ZD10 := Lib.hid (ZD.out.set3 BS.out (.bool false) (.slice o7 k7 c7') (.slice o8 k8 c8'))
            clear c0 c1 c2 f0 f1 f2 BS
            generalize (((w9.setCell ⟨pp, 0, none⟩ (.bool false)).setCell ⟨pp, 1, none⟩ (.slice o7 k7 c7')).setCell ⟨pp, 2, none⟩ (.slice o8 k8 c8')) = w10 at *
            refine (isOne_num ZD10.out LB).mono ?_; rintro e w11 ⟨rfl, rfl⟩
            generalize decide (zd = 1) = dz at *
            go_wp2_with fail
            go_ret2
            exact HOO'.out _ _ ⟨rfl, HB10.out⟩
          · have HB10 := Lib.hid (three_below (g := pp) (.bool true) (.slice o7 k7 c7') (.slice o8 k8 c8') HB9.out hpw)
            go_wp2_with fail
            go_ret2
            exact HOO'.out _ _ ⟨rfl, HB10.out⟩
end Go.Proofs.Ytlkdahgfnfdakaa

namespace Go.Proofs.Ytlkdahgfnfdakaa
open Go.RowKit Go.Shelf WN LM

def comStep (c a : Q3) : Q3 := (false, Nat.gcd c.2.1 a.2.1, c.2.2 * (a.2.2 / Nat.gcd c.2.2 a.2.2))
def comFold : Q3 → List Q3 → Option Q3
  | c, [] => some c
  | c, a :: l => if fitQ (comStep c a).2.1 (comStep c a).2.2 then comFold (comStep c a) l else none
def comF : List Q3 → ByteArray × Int
  | [] => (⟨#[]⟩, 5)
  | q :: l => if (q :: l).any (fun x => decide (signQ x ≤ 0)) then (⟨#[]⟩, 3) else
    match comFold q l with
    | none => (⟨#[]⟩, 2)
    | some c => out3 c
theorem comF_cons (q : Q3) (l : List Q3) : comF (q :: l) = if (q :: l).any (fun x => decide (signQ x ≤ 0)) then (⟨#[]⟩, 3) else match comFold q l with | none => (⟨#[]⟩, 2) | some c => out3 c := rfl
def comT (L : List ByteArray) : ByteArray × Int :=
  match readAll L with
  | none => (⟨#[]⟩, 1)
  | some qs => comF qs

theorem readAll_all : ∀ (L : List ByteArray) (qs : List Q3), readAll L = some qs → ∀ x ∈ qs, Dig x.2.1 ≤ 300 ∧ Dig x.2.2 ≤ 300 ∧ (x.1 = true → x.2.1 ≠ 0) ∧ 0 < x.2.2
  | [], qs, h, x, hx => by
    simp only [readAll, Option.some.injEq] at h
    subst h; cases hx
  | s :: L, qs, h, x, hx => by
    simp only [readAll] at h
    cases hq : readQ s.data.toList with
    | none => rw [hq] at h; cases h
    | some q =>
      cases hr : readAll L with
      | none => rw [hq, hr] at h; cases h
      | some rs =>
        rw [hq, hr] at h
        simp only [Option.some.injEq] at h
        subst h
        rcases List.mem_cons.1 hx with rfl | hx
        · obtain ⟨h1, h2, h3, -, h5, -⟩ := readQ_q hq
          exact ⟨h1, h2, h5, h3⟩
        · exact readAll_all L rs hr x hx
theorem readAll_length : ∀ (L : List ByteArray) (qs : List Q3), readAll L = some qs → qs.length = L.length
  | [], qs, h => by
    simp only [readAll, Option.some.injEq] at h
    subst h; rfl
  | s :: L, qs, h => by
    simp only [readAll] at h
    cases hq : readQ s.data.toList with
    | none => rw [hq] at h; cases h
    | some q =>
      cases hr : readAll L with
      | none => rw [hq, hr] at h; cases h
      | some rs =>
        rw [hq, hr] at h
        simp only [Option.some.injEq] at h
        subst h
        simp [readAll_length L rs hr]
theorem comFold_snoc : ∀ (l : List Q3) (c a : Q3), comFold c (l ++ [a]) = (comFold c l).bind fun c' => if fitQ (comStep c' a).2.1 (comStep c' a).2.2 then some (comStep c' a) else none
  | [], c, a => by simp [comFold]
  | x :: l, c, a => by
    simp only [List.cons_append, comFold]
    split
    · exact comFold_snoc l _ a
    · rfl
theorem comFold_none : ∀ (l m : List Q3) (c : Q3), comFold c l = none → comFold c (l ++ m) = none
  | [], m, c, h => by simp [comFold] at h
  | x :: l, m, c, h => by
    simp only [List.cons_append, comFold] at h ⊢
    split
    · rename_i h1; rw [if_pos h1] at h; exact comFold_none l m _ h
    · rfl
/-- a box that holds a number -/
def NBox (w : World) (B : Nat) (c : Q3) : Prop := ∃ o1 k1 c1 o2 k2 c2, Box3 w B (.bool c.1) (.slice o1 k1 c1) (.slice o2 k2 c2) ∧ Num w (.slice o1 k1 c1) c.2.1 ∧ Num w (.slice o2 k2 c2) c.2.2
theorem NBox.go {w w' : World} {B : Nat} {c : Q3} (h : NBox w B c) (hb : Below w.heap.size w w') : NBox w' B c := by
  obtain ⟨o1, k1, c1, o2, k2, c2, h1, h2, h3⟩ := h
  exact ⟨o1, k1, c1, o2, k2, c2, h1.go hb, h2.go hb, h3.go hb⟩
/-- the fold's state -/
def ComI (q : Q3) (l : List Q3) (w : World) (B i : Nat) (W : World) : Prop :=
  ∃ c, comFold q (l.take i) = some c ∧ NBox W B c ∧ 0 < c.2.1 ∧ 0 < c.2.2 ∧ Dig c.2.1 ≤ 300 ∧ Dig c.2.2 ≤ 300 ∧ Below w.heap.size w W
theorem ComI.start {q : Q3} {l : List Q3} {w : World} {B : Nat} {W : World} (h : NBox W B q) (h1 : 0 < q.2.1) (h2 : 0 < q.2.2) (h3 : Dig q.2.1 ≤ 300) (h4 : Dig q.2.2 ≤ 300) (hb : Below w.heap.size w W) : ComI q l w B 0 W := ⟨q, rfl, h, h1, h2, h3, h4, hb⟩

set_option maxHeartbeats 1000000 in
set_option maxRecDepth 100000 in
theorem common_any {w : World} {v : Value} {L : List ByteArray} (hv : Strs w v L) (hn : L.length ≤ 1000000000000) (hs : ∀ s ∈ L, s.size ≤ 140737488355328) : Calls Try.prog 46 #[v] w (OutS w (comT L)) := by
  have PS := Lib.hid (parse_cap hv hn hs)
  obtain ⟨oa, cap, rfl, -⟩ := hv
  have HNL := Lib.hid hn
  clear hs hn
  cases hr : readAll L with
  | none =>
    rw [hr] at PS
    have HT : Hid (comT L = (⟨#[]⟩, 1)) := by show _ = _; unfold comT; rw [hr]
    clear hr
    go_enter Try.func46, Try.ntmps46
    go_wp2_with fail
    refine PS.out.mono ?_; rintro e w2 ⟨hb2, rfl⟩
    have HB2 := Lib.hid hb2; clear hb2
    go_wp2_with fail
    go_ret2
    exact ⟨by rw [HT.out]; rfl, HB2.out⟩
  | some qs =>
    have HT : Hid (comT L = comF qs) := by show _ = _; unfold comT; rw [hr]
    have HALL : Hid (∀ x ∈ qs, Dig x.2.1 ≤ 300 ∧ Dig x.2.2 ≤ 300 ∧ (x.1 = true → x.2.1 ≠ 0) ∧ 0 < x.2.2) := readAll_all L qs hr
    have HLEN : Hid (qs.length = L.length) := readAll_length L qs hr
    rw [hr] at PS
    clear hr
    cases qs with
    | nil =>
      go_enter Try.func46, Try.ntmps46
      go_wp2_with fail
      refine PS.out.mono ?_; rintro e w2 ⟨hb2, g, rfl, hrow⟩
      have HB2 := Lib.hid hb2; clear hb2 hrow
      go_wp2_with fail
      go_ret2
      exact ⟨by rw [HT.out]; rfl, HB2.out⟩
    | cons q l =>
      obtain ⟨n, hn⟩ : ∃ n, n = (q :: l).length := ⟨_, rfl⟩
      have hn1 : 1 ≤ n := by rw [hn]; simp
      have hnL : n ≤ 1000000000000 := by have := HLEN.out; have := HNL.out; omega
      have HLL : Hid (l.length = n - 1) := by show _ = _; rw [hn]; simp
      have PS2 : Hid (Calls Try.prog 54 #[.slice oa L.length cap] w fun e w' => Below w.heap.size w w' ∧ ∃ g, e = .returned (.tuple #[.slice (some ⟨g, 0, none⟩) n n, .int .i64 0]) ∧ NRow w' g n (q :: l) n) := by subst hn; exact PS.out
      have HLN := Lib.hid hn; clear hn PS
      have hnz : ((n : Int) == 0) = false := by rw [beq_eq_false_iff_ne]; omega
      go_enter Try.func46, Try.ntmps46
      go_wp2_with fail
      refine PS2.out.mono ?_; rintro e w2 ⟨hb2, g, rfl, hrow⟩
      have HB2 := Lib.hid hb2; have HROW := Lib.hid hrow; clear hb2 hrow PS2
      go_wp2_with fail
      go_loopw [24] (fun vi wr => ∃ i : Nat, i ≤ n ∧ vi = .int .i64 i ∧ Hid (((q :: l).take i).any (fun x => decide (signQ x ≤ 0)) = false) ∧ Hid (Below w2.heap.size w2 wr)) (fun vi _ => n - (intOf vi).toNat)
      case atStart => exact ⟨0, Nat.zero_le _, rfl, by rw [List.take_zero]; rfl, Below.refl _ _⟩
      case round =>
        obtain ⟨i, hi, rfl, hpos, hbel⟩ := hrel
        by_cases hlt : i < n
        · have hlq : i < (q :: l).length := by rw [← HLN.out]; exact hlt
          have HRW := (HROW.out.go hbel.out).get (i := i) hlt hlq
          obtain ⟨o1, k1, c1', o2, k2, c2', x0, x1, x2, hn, hd⟩ := HRW
          have HAL := HALL.out (q :: l)[i] (List.getElem_mem hlq)
          have hgi : (q :: l)[i]? = some (q :: l)[i] := List.getElem?_eq_getElem hlq
          have HMEM : Hid ((q :: l)[i] ∈ (q :: l)) := List.getElem_mem hlq
          generalize (q :: l)[i] = a at *
          have la1 := len_dig HAL.1
          have HGI := Lib.hid hgi
          have bb := below_alloc wr (.cells #[.bool a.1, .slice o1 k1 c1', .slice o2 k2 c2'] 55)
          have BA := Lib.hid (Box3.new wr (.bool a.1) (.slice o1 k1 c1') (.slice o2 k2 c2'))
          have AN := Lib.hid (hn.go bb); have AD := Lib.hid (hd.go bb); have hBEL := Lib.hid (hbel.out.trans (bb.mono hbel.out.size))
          have SG : Hid (∀ w' v, Frac w' v a.1 a.2.1 a.2.2 → Calls Try.prog 75 #[v] w' fun e w'' => e = .returned (.int .i64 (signQ a)) ∧ Below w'.heap.size w' w'') := fun w' v h => sign_num h (by omega)
          obtain ⟨d0, d1, d2⟩ := Box3.cells BA.out
          clear hn hd hgi HAL hbel bb
          by_cases hz : signQ a ≤ 0
          · have hzd : decide (signQ a ≤ 0) = true := decide_eq_true hz
            have HNO : Hid (∀ e w', OutS w (⟨#[]⟩, 3) e w' → OutS w (comT L) e w') := fun e w' h => by
              have : (q :: l).any (fun x => decide (signQ x ≤ 0)) = true := List.any_eq_true.2 ⟨a, HMEM.out, hzd⟩
              rw [HT.out, comF_cons, if_pos this]; exact h
            clear hz
            generalize signQ a = sg at *
            go_wp2_with fail
            generalize wr.alloc (.cells #[.bool a.1, .slice o1 k1 c1', .slice o2 k2 c2'] 55) = wa at *
            refine (SG.out _ _ ⟨_, _, rfl, AN.out, AD.out⟩).mono ?_; rintro e w3 ⟨rfl, hb3⟩
            have HB3 := Lib.hid (bstep (bstep HB2.out hBEL.out) hb3)
            clear hb3 x0 x1 x2 d0 d1 d2
            go_wp2_with fail
            go_ret2
            exact HNO.out _ _ ⟨rfl, HB3.out⟩
          · have hzd : decide (signQ a ≤ 0) = false := decide_eq_false hz
            have HPS : Hid (((q :: l).take (i + 1)).any (fun x => decide (signQ x ≤ 0)) = false) := by
              show _ = _
              rw [List.take_add_one, HGI.out, List.any_append, hpos.out]
              simpa using hz
            clear hz hpos
            generalize signQ a = sg at *
            go_wp2_with fail
            generalize wr.alloc (.cells #[.bool a.1, .slice o1 k1 c1', .slice o2 k2 c2'] 55) = wa at *
            refine (SG.out _ _ ⟨_, _, rfl, AN.out, AD.out⟩).mono ?_; rintro e w3 ⟨rfl, hb3⟩
            have HB3 := Lib.hid (hBEL.out.trans (hb3.mono hBEL.out.size))
            clear hb3 x0 x1 x2 d0 d1 d2
            go_wp2_with fail
            go_roundw
            case rel => exact ⟨i + 1, hlt, by go_num, HPS.out, HB3.out⟩
            case measure => simp [intOf]; omega
        · obtain rfl : n = i := by omega
          have HPOS : Hid ((q :: l).any (fun x => decide (signQ x ≤ 0)) = false) := by
            show _ = _
            have := hpos.out
            rwa [List.take_of_length_le (by rw [← HLN.out]; exact Nat.le_refl _)] at this
          clear hpos hlt
          have HRW := (HROW.out.go hbel.out).get (i := 0) (by omega) (by simp)
          rw [List.getElem_cons_zero, Nat.zero_mul, Nat.zero_add, Nat.zero_add] at HRW
          obtain ⟨o1, k1, c1', o2, k2, c2', x0, x1, x2, hn, hd⟩ := HRW
          have HAL := HALL.out q (by simp)
          have hq0 : 0 < q.2.1 := by
            have h1 := HPOS.out
            rw [List.any_cons, Bool.or_eq_false_iff] at h1
            have h2 : ¬ signQ q ≤ 0 := by simpa using h1.1
            rcases Nat.eq_zero_or_pos q.2.1 with h3 | h3
            · exfalso; apply h2
              have := (sgn_zero HAL.2.2.1).2 h3
              unfold signQ; omega
            · exact h3
          obtain ⟨B8, hB8⟩ : ∃ B8, B8 = wr.heap.size := ⟨_, rfl⟩
          have bb := below_alloc wr (.cells #[.bool q.1, .slice o1 k1 c1', .slice o2 k2 c2'] 55)
          have hB8w : w2.heap.size ≤ B8 := by rw [hB8]; exact hbel.out.size
          have hB8w' : w.heap.size ≤ B8 := by have := HB2.out.size; omega
          have HCI : Hid (ComI q l w B8 0 (wr.alloc (.cells #[.bool q.1, .slice o1 k1 c1', .slice o2 k2 c2'] 55))) := ComI.start ⟨_, _, _, _, _, _, by rw [hB8]; exact Box3.new _ _ _ _, hn.go bb, hd.go bb⟩ hq0 HAL.2.2.2 HAL.1 HAL.2.1 (bstep (bstep HB2.out hbel.out) bb)
          have HB8 := Lib.hid (hbel.out.trans (bb.mono hbel.out.size))
          have HB8e := Lib.hid hB8
          clear hn hd HAL hq0 bb hbel hB8
          by_cases hne : n = 1
          · subst hne
            go_wp2_with fail
            rw [← HB8e.out]
            generalize wr.alloc (.cells #[.bool q.1, .slice o1 k1 c1', .slice o2 k2 c2'] 55) = w3 at *
            clear x0 x1 x2 HB8e
            go_loopw [38] (fun vi wr => ∃ i : Nat, i ≤ 1 - 1 ∧ vi = .int .i64 i ∧ Hid (ComI q l w B8 i wr) ∧ Hid (Below w2.heap.size w2 wr)) (fun vi _ => 1 - 1 - (intOf vi).toNat)
            case atStart => exact ⟨0, Nat.zero_le _, rfl, HCI.out, HB8.out⟩
            case round =>
              clear HCI HB8
              obtain ⟨i, hi, rfl, hinv, hbel⟩ := hrel
              by_cases hlt : i < 1 - 1
              · exfalso; omega
              · obtain ⟨rfl⟩ : 1 - 1 = i := by omega
                obtain ⟨c, hc1, hc2, hc3, hc4, hc5, hc6, hc7⟩ := hinv.out
                have HCF : Hid (comF (q :: l) = out3 c) := by
                  show _ = _
                  have : l.take (1 - 1) = l := List.take_of_length_le (by rw [HLL.out]; exact Nat.le_refl _)
                  rw [this] at hc1
                  rw [comF_cons, if_neg (by rw [HPOS.out]; exact Bool.false_ne_true), hc1]
                have l1 := len_dig hc5; have l2 := len_dig hc6
                obtain ⟨p5, q5, z5, p6, q6, z6, bx, hx, hy⟩ := hc2
                have BX := Lib.hid bx; have HX := Lib.hid hx; have HY := Lib.hid hy; have HB9 := Lib.hid hc7
                have WR : Hid (∀ w' v, Frac w' v c.1 c.2.1 c.2.2 → Calls Try.prog 62 #[v] w' (OutS w' (out3 c))) := fun w' v h => write_num h (by omega) (by omega)
                have HO : Hid (∀ e w', OutS w (out3 c) e w' → OutS w (comT L) e w') := fun _ _ h => by rw [HT.out, HCF.out]; exact h
                clear hinv hc1 hc3 hc4 hc5 hc6 hc7 bx hx hy hbel HCF
                obtain ⟨c0, c1, c2, f0, f1, f2⟩ := Box3.facts BX.out
                go_wp2_with fail
                refine (WR.out _ _ ⟨_, _, rfl, HX.out, HY.out⟩).mono ?_; rintro e w5 ⟨rfl, hb5⟩
                have HB10 := Lib.hid (bstep HB9.out hb5)
                clear hb5 c0 c1 c2 f0 f1 f2
                go_wp2_with fail
                go_ret2
                exact HO.out _ _ ⟨rfl, HB10.out⟩
          · have hn2 : 1 < n := by omega
            go_wp2_with fail
            rw [← HB8e.out]
            generalize wr.alloc (.cells #[.bool q.1, .slice o1 k1 c1', .slice o2 k2 c2'] 55) = w3 at *
            clear x0 x1 x2 HB8e
            go_loopw [38] (fun vi wr => ∃ i : Nat, i ≤ n - 1 ∧ vi = .int .i64 i ∧ Hid (ComI q l w B8 i wr) ∧ Hid (Below w2.heap.size w2 wr)) (fun vi _ => n - 1 - (intOf vi).toNat)
            case atStart => exact ⟨0, Nat.zero_le _, rfl, HCI.out, HB8.out⟩
            case round =>
              clear HCI HB8
              obtain ⟨i, hi, rfl, hinv, hbel⟩ := hrel
              by_cases hlt : i < n - 1
              · obtain ⟨c, hc1, hc2, hc3, hc4, hc5, hc6, hc7⟩ := hinv.out
                have hlq : i < l.length := by rw [HLL.out]; exact hlt
                have hil : l[i]? = some l[i] := List.getElem?_eq_getElem hlq
                have HRW := (HROW.out.go hbel.out).get (i := i + 1) (by omega) (by simp; omega)
                rw [List.getElem_cons_succ, show (i + 1) * 3 = 3 + i * 3 from by omega] at HRW
                obtain ⟨o1, k1, c1', o2, k2, c2', x0, x1, x2, hn, hd⟩ := HRW
                have HAL := HALL.out l[i] (by simp)
                have hcs : comFold q (l.take (i + 1)) = if fitQ (comStep c l[i]).2.1 (comStep c l[i]).2.2 then some (comStep c l[i]) else none := by
                  rw [List.take_add_one, hil]
                  show comFold q (l.take i ++ [l[i]]) = _
                  rw [comFold_snoc, hc1]; rfl
                have hsplit : l = l.take (i + 1) ++ l.drop (i + 1) := (List.take_append_drop _ _).symm
                generalize l[i] = a at *
                obtain ⟨a1, a2, a3, a4⟩ := HAL
                have la1 := len_dig a1; have la2 := len_dig a2; have lc1 := len_dig hc5; have lc2 := len_dig hc6
                obtain ⟨p1, q1, z1, p2, q2, z2, bx, hx, hy⟩ := hc2
                have bb := below_alloc wr (.cells #[.bool a.1, .slice o1 k1 c1', .slice o2 k2 c2'] 55)
                have BA := Lib.hid (Box3.new wr (.bool a.1) (.slice o1 k1 c1') (.slice o2 k2 c2'))
                have BC := Lib.hid (bx.go bb); have CN := Lib.hid (hx.go bb); have CD := Lib.hid (hy.go bb); have AN := Lib.hid (hn.go bb); have AD := Lib.hid (hd.go bb)
                have HBW := Lib.hid (bstep hc7 bb); have hBEL := Lib.hid (hbel.out.trans (bb.mono hbel.out.size))
                have GD : Hid (∀ w', Num w' (.slice p1 q1 z1) c.2.1 → Num w' (.slice o1 k1 c1') a.2.1 → Calls Try.prog 89 #[.slice p1 q1 z1, .slice o1 k1 c1'] w' (Ret1 w' (Nat.gcd c.2.1 a.2.1))) := fun w' h k => divisor_num h k (by omega) (by omega)
                have MU : Hid (∀ w', Num w' (.slice p2 q2 z2) c.2.2 → Num w' (.slice o2 k2 c2') a.2.2 → Calls Try.prog 90 #[.slice p2 q2 z2, .slice o2 k2 c2'] w' (Ret1 w' (c.2.2 * (a.2.2 / Nat.gcd c.2.2 a.2.2)))) := fun w' h k => multiple_num h k (by omega) (by omega) hc4
                have lN : Len (Nat.gcd c.2.1 a.2.1) ≤ 34 := Nat.le_trans (len_mono (Nat.gcd_le_left _ hc3)) lc1
                have lD : Len (c.2.2 * (a.2.2 / Nat.gcd c.2.2 a.2.2)) ≤ 68 := by
                  have h1 := len_mul c.2.2 (a.2.2 / Nat.gcd c.2.2 a.2.2)
                  have h2 := len_div a.2.2 (Nat.gcd c.2.2 a.2.2)
                  omega
                have HNOFIT : Hid (fitQ (Nat.gcd c.2.1 a.2.1) (c.2.2 * (a.2.2 / Nat.gcd c.2.2 a.2.2)) = false → ∀ e w', OutS w (⟨#[]⟩, 2) e w' → OutS w (comT L) e w') := fun hf e w' h => by
                  have hnone : comFold q l = none := by
                    rw [hsplit]
                    refine comFold_none _ _ _ ?_
                    rw [hcs]
                    have : fitQ (comStep c a).2.1 (comStep c a).2.2 = false := hf
                    rw [this]; rfl
                  have hcf : comF (q :: l) = (⟨#[]⟩, 2) := by rw [comF_cons, if_neg (by rw [HPOS.out]; exact Bool.false_ne_true), hnone]
                  rw [HT.out, hcf]; exact h
                have HYESFIT : Hid (fitQ (Nat.gcd c.2.1 a.2.1) (c.2.2 * (a.2.2 / Nat.gcd c.2.2 a.2.2)) = true → ∀ W {p3 q3 z3 p4 q4 z4}, Box3 W B8 (.bool false) (.slice p3 q3 z3) (.slice p4 q4 z4) → Num W (.slice p3 q3 z3) (Nat.gcd c.2.1 a.2.1) → Num W (.slice p4 q4 z4) (c.2.2 * (a.2.2 / Nat.gcd c.2.2 a.2.2)) → Below w.heap.size w W → ComI q l w B8 (i + 1) W) := fun hf W {_ _ _ _ _ _} hb h1 h2 h3 => by
                  have hf' : fitQ (comStep c a).2.1 (comStep c a).2.2 = true := hf
                  rw [hf'] at hcs
                  have hfd := of_decide_eq_true hf
                  have hgp : 0 < Nat.gcd c.2.2 a.2.2 := Nat.gcd_pos_of_pos_left _ hc4
                  exact ⟨_, hcs, ⟨_, _, _, _, _, _, hb, h1, h2⟩, Nat.gcd_pos_of_pos_left _ hc3, Nat.mul_pos hc4 (Nat.div_pos (Nat.gcd_le_right _ a4) hgp), hfd.1, hfd.2, h3⟩
                clear hinv hc1 hc7 bx hx hy hn hd bb hcs hsplit hil hbel
                go_wp2_with fail
                generalize wr.alloc (.cells #[.bool a.1, .slice o1 k1 c1', .slice o2 k2 c2'] 55) = wa at *
                clear x0 x1 x2
                go_wp2_with fail
                refine region_inv 11 61 [(42, Is (.pointer (some ⟨B8, 1, none⟩))), (43, Is (.slice p1 q1 z1)), (44, Is (.pointer (some ⟨wr.heap.size, 1, none⟩))), (45, Is (.slice o1 k1 c1')), (46, IsNum (Nat.gcd c.2.1 a.2.1)), (47, Is (.pointer (some ⟨B8, 2, none⟩))), (48, Is (.slice p2 q2 z2)), (49, Is (.pointer (some ⟨wr.heap.size, 2, none⟩))), (50, Is (.slice o2 k2 c2')), (51, IsNum (c.2.2 * (a.2.2 / Nat.gcd c.2.2 a.2.2))), (52, IsFrac false (Nat.gcd c.2.1 a.2.1) (c.2.2 * (a.2.2 / Nat.gcd c.2.2 a.2.2)))] (by kernel_rfl) rfl (by kernel_rfl) ?_ ?_
                · refine steps_cons rfl (fun a_ W hb hr hg K hK => ?_) <| steps_cons rfl (fun a_ W hb hr hg K hK => ?_) <| steps_cons rfl (fun a_ W hb hr hg K hK => ?_) <| steps_cons rfl (fun a_ W hb hr hg K hK => ?_) <| steps_cons rfl (fun a_ W hb hr hg K hK => ?_) <| steps_cons rfl (fun a_ W hb hr hg K hK => ?_) <| steps_cons rfl (fun a_ W hb hr hg K hK => ?_) <| steps_cons rfl (fun a_ W hb hr hg K hK => ?_) <| steps_cons rfl (fun a_ W hb hr hg K hK => ?_) <| steps_cons rfl (fun a_ W hb hr hg K hK => ?_) <| steps_cons rfl (fun a_ W hb hr hg K hK => ?_) trivial
                  · have e : a_.tmps[8]?.getD undef = .pointer (some ⟨B8, 0, none⟩) := hb 8 (by kernel_rfl)
                    clear hb hr; go_simp; exact hK _ _ (Below.refl _ _) rfl
                  · have e : a_.tmps[42]?.getD undef = _ := hr 42 (by kernel_rfl)
                    have c0 := (BC.out.go hg).c1
                    clear hb hr; go_simp; exact hK _ _ (Below.refl _ _) rfl
                  · have e : a_.tmps[10]?.getD undef = .pointer (some ⟨wr.heap.size, 0, none⟩) := hb 10 (by kernel_rfl)
                    clear hb hr; go_simp; exact hK _ _ (Below.refl _ _) rfl
                  · have e : a_.tmps[44]?.getD undef = _ := hr 44 (by kernel_rfl)
                    have c0 := (BA.out.go hg).c1
                    clear hb hr; go_simp; exact hK _ _ (Below.refl _ _) rfl
                  · have e1 : a_.tmps[43]?.getD undef = _ := hr 43 (by kernel_rfl)
                    have e2 : a_.tmps[45]?.getD undef = _ := hr 45 (by kernel_rfl)
                    clear hb hr; go_simp
                    refine (GD.out _ (CN.out.go hg) (AN.out.go hg)).mono ?_; rintro e w5 ⟨v5, rfl, hv5, hb5⟩
                    exact hK _ _ hb5 hv5
                  · have e : a_.tmps[8]?.getD undef = .pointer (some ⟨B8, 0, none⟩) := hb 8 (by kernel_rfl)
                    clear hb hr; go_simp; exact hK _ _ (Below.refl _ _) rfl
                  · have e : a_.tmps[47]?.getD undef = _ := hr 47 (by kernel_rfl)
                    have c0 := (BC.out.go hg).c2
                    clear hb hr; go_simp; exact hK _ _ (Below.refl _ _) rfl
                  · have e : a_.tmps[10]?.getD undef = .pointer (some ⟨wr.heap.size, 0, none⟩) := hb 10 (by kernel_rfl)
                    clear hb hr; go_simp; exact hK _ _ (Below.refl _ _) rfl
                  · have e : a_.tmps[49]?.getD undef = _ := hr 49 (by kernel_rfl)
                    have c0 := (BA.out.go hg).c2
                    clear hb hr; go_simp; exact hK _ _ (Below.refl _ _) rfl
                  · have e1 : a_.tmps[48]?.getD undef = _ := hr 48 (by kernel_rfl)
                    have e2 : a_.tmps[50]?.getD undef = _ := hr 50 (by kernel_rfl)
                    clear hb hr; go_simp
                    refine (MU.out _ (CD.out.go hg) (AD.out.go hg)).mono ?_; rintro e w5 ⟨v5, rfl, hv5, hb5⟩
                    exact hK _ _ hb5 hv5
                  · have e1 : Num W (a_.tmps[46]?.getD undef) (Nat.gcd c.2.1 a.2.1) := hr 46 (by kernel_rfl)
                    have e2 : Num W (a_.tmps[51]?.getD undef) (c.2.2 * (a.2.2 / Nat.gcd c.2.2 a.2.2)) := hr 51 (by kernel_rfl)
                    obtain ⟨o11, k11, c11', e3⟩ := e1.shape
                    obtain ⟨o12, k12, c12', e4⟩ := e2.shape
                    rw [e3] at e1; rw [e4] at e2
                    have E1 := Lib.hid e1; have E2 := Lib.hid e2
                    clear hb hr e1 e2; go_simp
                    exact hK _ _ (Below.refl _ _) ⟨_, _, rfl, E1.out, E2.out⟩
                · rintro g3 w9 hb9 ⟨-, -, -, -, -, -, -, -, -, -, h52, -⟩
                  simp only [List.drop_succ_cons, List.drop_zero, List.take_succ_cons, List.take_zero, putHead, Option.getD_some, Act.put, List.setIfInBounds_toArray, List.set_cons_zero, List.set_cons_succ]
                  replace h52 : Frac w9 (g3 52) false (Nat.gcd c.2.1 a.2.1) (c.2.2 * (a.2.2 / Nat.gcd c.2.2 a.2.2)) := h52
                  generalize g3 52 = v52 at *
                  obtain ⟨o7, k7, c7', o8, k8, c8', rfl, hZN, hZD⟩ := h52.box
                  have BC9 := Lib.hid (BC.out.go hb9)
                  have HB9 := Lib.hid (three_below (g := B8) (.bool false) (.slice o7 k7 c7') (.slice o8 k8 c8') (bstep HBW.out hb9) (by omega))
                  have HBB9 := Lib.hid (three_below (g := B8) (.bool false) (.slice o7 k7 c7') (.slice o8 k8 c8') (hBEL.out.trans (hb9.mono hBEL.out.size)) (by omega))
                  have ZN := Lib.hid (hZN.set3 BC9.out (.bool false) (.slice o7 k7 c7') (.slice o8 k8 c8'))
                  have ZD := Lib.hid (hZD.set3 BC9.out (.bool false) (.slice o7 k7 c7') (.slice o8 k8 c8'))
                  have BX9 := Lib.hid (BC9.out.set (.bool false) (.slice o7 k7 c7') (.slice o8 k8 c8'))
                  clear h52 hZN hZD hb9 BC BA GD MU CN CD AN AD
                  obtain ⟨r0, r1, r2, f0, f1, f2⟩ := Box3.facts BC9.out
                  generalize hN : Nat.gcd c.2.1 a.2.1 = N at *
                  generalize hD : c.2.2 * (a.2.2 / Nat.gcd c.2.2 a.2.2) = D at *
                  have FT := Lib.hid (fun w' v h => fits_num (w := w') (v := v) (s := false) (n := N) (d := D) h (by omega) (by omega))
                  have HFIT : Hid (∀ b, fitQ N D = b → decide (Dig N ≤ 300 ∧ Dig D ≤ 300) = b) := fun b h => h
                  cases hf : fitQ N D
                  · have HCN := Lib.hid (HNOFIT.out hf)
                    have hfd := Lib.hid (HFIT.out _ hf)
                    rw [hfd.out] at FT
                    clear hf hfd HFIT HYESFIT HNOFIT hN hD
                    go_wp2_with fail
                    clear r0 r1 r2 f0 f1 f2
                    generalize (((w9.setCell ⟨B8, 0, none⟩ (.bool false)).setCell ⟨B8, 1, none⟩ (.slice o7 k7 c7')).setCell ⟨B8, 2, none⟩ (.slice o8 k8 c8')) = w10 at *
                    obtain ⟨r0, r1, r2, f0, f1, f2⟩ := Box3.facts BX9.out
                    refine (FT.out _ _ ⟨_, _, rfl, ZN.out, ZD.out⟩).mono ?_; rintro e w11 ⟨rfl, hb11⟩
                    have HB11 := Lib.hid (bstep HB9.out hb11)
                    clear hb11 r0 r1 r2 f0 f1 f2
                    go_wp2_with fail
                    go_ret2
                    exact HCN.out _ _ ⟨rfl, HB11.out⟩
                  · have HCY := Lib.hid (HYESFIT.out hf)
                    have hfd := Lib.hid (HFIT.out _ hf)
                    rw [hfd.out] at FT
                    have HDG := Lib.hid (of_decide_eq_true hfd.out)
                    clear hf hfd HFIT HYESFIT HNOFIT
                    have HNN := Lib.hid hN; have HDD := Lib.hid hD
                    clear hN hD
                    go_wp2_with fail
                    clear r0 r1 r2 f0 f1 f2
                    generalize (((w9.setCell ⟨B8, 0, none⟩ (.bool false)).setCell ⟨B8, 1, none⟩ (.slice o7 k7 c7')).setCell ⟨B8, 2, none⟩ (.slice o8 k8 c8')) = w10 at *
                    obtain ⟨r0, r1, r2, f0, f1, f2⟩ := Box3.facts BX9.out
                    refine (FT.out _ _ ⟨_, _, rfl, ZN.out, ZD.out⟩).mono ?_; rintro e w11 ⟨rfl, hb11⟩
                    have HB11 := Lib.hid (bstep HB9.out hb11); have HBB11 := Lib.hid (HBB9.out.trans (hb11.mono HBB9.out.size))
                    have BX11 := Lib.hid (BX9.out.go hb11); have ZN11 := Lib.hid (ZN.out.go hb11); have ZD11 := Lib.hid (ZD.out.go hb11)
                    clear hb11 r0 r1 r2 f0 f1 f2
                    go_wp2_with fail
                    go_roundw
                    case rel => exact ⟨i + 1, hlt, by go_num, HCY.out _ BX11.out ZN11.out ZD11.out HB11.out, HBB11.out⟩
                    case measure => simp [intOf]; omega
              · obtain ⟨rfl⟩ : n - 1 = i := by omega
                obtain ⟨c, hc1, hc2, hc3, hc4, hc5, hc6, hc7⟩ := hinv.out
                have HCF : Hid (comF (q :: l) = out3 c) := by
                  show _ = _
                  have : l.take (n - 1) = l := List.take_of_length_le (by rw [HLL.out]; exact Nat.le_refl _)
                  rw [this] at hc1
                  rw [comF_cons, if_neg (by rw [HPOS.out]; exact Bool.false_ne_true), hc1]
                have l1 := len_dig hc5; have l2 := len_dig hc6
                obtain ⟨p5, q5, z5, p6, q6, z6, bx, hx, hy⟩ := hc2
                have BX := Lib.hid bx; have HX := Lib.hid hx; have HY := Lib.hid hy; have HB9 := Lib.hid hc7
                have WR : Hid (∀ w' v, Frac w' v c.1 c.2.1 c.2.2 → Calls Try.prog 62 #[v] w' (OutS w' (out3 c))) := fun w' v h => write_num h (by omega) (by omega)
                have HO : Hid (∀ e w', OutS w (out3 c) e w' → OutS w (comT L) e w') := fun _ _ h => by rw [HT.out, HCF.out]; exact h
                clear hinv hc1 hc3 hc4 hc5 hc6 hc7 bx hx hy hbel HCF
                obtain ⟨c0, c1, c2, f0, f1, f2⟩ := Box3.facts BX.out
                go_wp2_with fail
                refine (WR.out _ _ ⟨_, _, rfl, HX.out, HY.out⟩).mono ?_; rintro e w5 ⟨rfl, hb5⟩
                have HB10 := Lib.hid (bstep HB9.out hb5)
                clear hb5 c0 c1 c2 f0 f1 f2
                go_wp2_with fail
                go_ret2
                exact HO.out _ _ ⟨rfl, HB10.out⟩
end Go.Proofs.Ytlkdahgfnfdakaa
