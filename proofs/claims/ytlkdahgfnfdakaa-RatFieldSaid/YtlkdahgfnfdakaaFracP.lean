import Derived.Test.YtlkdahgfnfdakaaFracM
namespace Go.Proofs.Ytlkdahgfnfdakaa
open Go.RowKit WN LM

/-- a power, or a number that has too many digits where the power has, too -/
def PowNum (n k N : Nat) : Prop := (N = n ^ k ∨ (300 < Dig N ∧ 300 < Dig (n ^ k))) ∧ Len N ≤ 34 + Len n
/-- a power of a number, or one whose terms have too many digits where the power's have, too -/
def RetP (w : World) (s : Bool) (n d k : Nat) (e : Ending) (w' : World) : Prop :=
  ∃ v N D, e = .returned v ∧ Frac w' v (s && decide (k % 2 = 1)) N D ∧ Below w.heap.size w w' ∧ PowNum n k N ∧ PowNum d k D
def IsPow (n k : Nat) : Rel := ⟨fun v w => ∃ N, Num w v N ∧ PowNum n k N, fun _ _ _ hb ⟨N, h1, h2⟩ => ⟨N, h1.go hb, h2⟩⟩
def IsFracPow (s : Bool) (n d k : Nat) : Rel := ⟨fun v w => ∃ N D, Frac w v s N D ∧ PowNum n k N ∧ PowNum d k D, fun _ _ _ hb ⟨N, D, h1, h2⟩ => ⟨N, D, h1.below hb (Nat.le_refl _), h2⟩⟩
theorem power_pow {w : World} {va : Value} {a : Nat} (ha : Num w va a) (la : Len a ≤ 1000000000) (n : Nat) (hn : n ≤ 1000000000) :
    Calls Try.prog 120 #[va, .int .i64 (n : Nat)] w fun e w' => ∃ v, e = .returned v ∧ (∃ N, Num w' v N ∧ PowNum a n N) ∧ Below w.heap.size w w' :=
  (power_num ha la n hn).mono fun _ _ ⟨v, m, h1, h2, h3, h4, h5⟩ => ⟨v, h1, ⟨m, h2, h4, h5⟩, h3⟩
def wantInt (b : Bool) (k : Nat) : Value := if b then .int .i64 (k : Nat) else undef
def wantBool (b : Bool) (c : Bool) : Value := if b then .bool c else undef

set_option maxHeartbeats 4000000 in
set_option maxRecDepth 100000 in
theorem fracPowerUp_num {w : World} {v : Value} {s : Bool} {n d : Nat} (h : Frac w v s n d) (ln : Len n ≤ 1000000000) (ld : Len d ≤ 1000000000) (k : Nat) (hk : k ≤ 1000000) :
    Calls Try.prog 84 #[v, .int .i64 (k : Nat)] w (RetP w s n d k) := by
  obtain ⟨o1, k1, c1', o2, k2, c2', rfl, hn, hd⟩ := h.box
  clear h
  obtain ⟨B1, bA, bR⟩ := boxes2 w (.bool s) (.slice o1 k1 c1') (.slice o2 k2 c2') (.bool false) (.slice none 0 0) (.slice none 0 0)
  have Hn := Lib.hid (hn.go B1); have Hd := Lib.hid (hd.go B1)
  clear hn hd
  have BR := Lib.hid bR; have HB1 := Lib.hid B1; have BA := Lib.hid bA
  clear bA bR B1
  have P1 := Lib.hid (fun w' a => power_pow (w := w') (va := .slice o1 k1 c1') (a := n) a ln k (by omega))
  have P2 := Lib.hid (fun w' a => power_pow (w := w') (va := .slice o2 k2 c2') (a := d) a ld k (by omega))
  go_enter Try.func84, Try.ntmps84
  go_wp2_with fail
  generalize (w.alloc (.cells #[.bool s, .slice o1 k1 c1', .slice o2 k2 c2'] 55)).alloc (.cells #[.bool false, .slice none 0 0, .slice none 0 0] 55) = w1 at *

  have HT := Lib.hid (show ((k : Int).tmod 2) = ((k % 2 : Nat) : Int) from by rw [Int.tmod_eq_emod_of_nonneg (by omega)]; omega)
  have hdk : Hid (∀ x : Nat, x = k % 2 → (((x : Nat) : Int) == 1) = decide (k % 2 = 1)) := by show ∀ _, _ → _; rintro x rfl; rcases Nat.mod_two_eq_zero_or_one k with h | h <;> simp [h]
  refine region_inv 16 27 [(11, Is (.pointer (some ⟨w.heap.size, 0, none⟩))), (12, Is (.bool s)), (13, Is (.bool s)), (14, Is (wantInt s k)), (15, Is (wantInt s (k % 2))), (16, Is (wantBool s (decide (k % 2 = 1)))), (17, Is (.bool (s && decide (k % 2 = 1)))),
    (18, Is (.pointer (some ⟨w.heap.size, 1, none⟩))), (19, Is (.slice o1 k1 c1')), (20, Is (.int .i64 k)), (21, IsPow n k), (22, Is (.pointer (some ⟨w.heap.size, 2, none⟩))), (23, Is (.slice o2 k2 c2')), (24, Is (.int .i64 k)), (25, IsPow d k),
    (26, IsFracPow (s && decide (k % 2 = 1)) n d k)] (by kernel_rfl) rfl (by kernel_rfl) ?_ ?_
  · refine steps_cons rfl (fun a W hb hr hg K hK => ?_) <| steps_cons rfl (fun a W hb hr hg K hK => ?_) <| steps_cons rfl (fun a W hb hr hg K hK => ?_) <| steps_guard (fun a W hb hr hg K hK => ?_) <|
      steps_guard (fun a W hb hr hg K hK => ?_) <| steps_guard (fun a W hb hr hg K hK => ?_) <| steps_cons rfl (fun a W hb hr hg K hK => ?_) <| steps_cons rfl (fun a W hb hr hg K hK => ?_) <|
      steps_cons rfl (fun a W hb hr hg K hK => ?_) <| steps_cons rfl (fun a W hb hr hg K hK => ?_) <| steps_cons rfl (fun a W hb hr hg K hK => ?_) <| steps_cons rfl (fun a W hb hr hg K hK => ?_) <|
      steps_cons rfl (fun a W hb hr hg K hK => ?_) <| steps_cons rfl (fun a W hb hr hg K hK => ?_) <| steps_cons rfl (fun a W hb hr hg K hK => ?_) <| steps_cons rfl (fun a W hb hr hg K hK => ?_) trivial
    · have e : a.tmps[2]?.getD undef = .pointer (some ⟨w.heap.size, 0, none⟩) := hb 2 (by kernel_rfl)
      clear hb hr; go_simp; exact hK _ _ (Below.refl _ _) rfl
    · have e : a.tmps[11]?.getD undef = _ := hr 11 (by kernel_rfl)
      have c0 := (BA.out.go hg).c0
      clear hb hr; go_simp; exact hK _ _ (Below.refl _ _) rfl
    · have e : a.tmps[12]?.getD undef = _ := hr 12 (by kernel_rfl)
      clear hb hr; go_simp; exact hK _ _ (Below.refl _ _) rfl
    · have e : a.tmps[13]?.getD undef = .bool s := hr 13 (by kernel_rfl)
      have e1 : a.tmps[1]?.getD undef = .int .i64 k := hb 1 (by kernel_rfl)
      rw [wanted_slot rfl (by kernel_rfl) e]
      clear hb hr e
      cases s
      · rw [if_neg (by simp)]; exact hK _ _ (Below.refl _ _) rfl
      · rw [if_pos (show (true == true) = true from rfl)]; go_simp; exact hK _ _ (Below.refl _ _) rfl
    · have e : a.tmps[13]?.getD undef = .bool s := hr 13 (by kernel_rfl)
      have e1 : a.tmps[14]?.getD undef = wantInt s k := hr 14 (by kernel_rfl)
      rw [wanted_slot rfl (by kernel_rfl) e]
      clear hb hr e
      cases s
      · rw [if_neg (by simp)]; exact hK _ _ (Below.refl _ _) rfl
      · rw [if_pos (show (true == true) = true from rfl)]; replace e1 : a.tmps[14]?.getD undef = .int .i64 k := e1
        go_simp; rw [HT.out]; exact hK _ _ (Below.refl _ _) rfl
    · have e : a.tmps[13]?.getD undef = .bool s := hr 13 (by kernel_rfl)
      have e1 : a.tmps[15]?.getD undef = wantInt s (k % 2) := hr 15 (by kernel_rfl)
      rw [wanted_slot rfl (by kernel_rfl) e]
      clear hb hr e
      cases s
      · rw [if_neg (by simp)]; exact hK _ _ (Below.refl _ _) rfl
      · rw [if_pos (show (true == true) = true from rfl)]; replace e1 : a.tmps[15]?.getD undef = .int .i64 (k % 2 : Nat) := e1
        generalize hx : k % 2 = x at e1
        have hz := hdk.out x hx.symm
        clear hx
        go_simp; exact hK _ _ (Below.refl _ _) rfl
    · have e : a.tmps[13]?.getD undef = .bool s := hr 13 (by kernel_rfl)
      have e1 : a.tmps[16]?.getD undef = wantBool s (decide (k % 2 = 1)) := hr 16 (by kernel_rfl)
      clear hb hr
      cases s
      · go_simp; exact hK _ _ (Below.refl _ _) rfl
      · replace e1 : a.tmps[16]?.getD undef = .bool (decide (k % 2 = 1)) := e1
        generalize decide (k % 2 = 1) = od at *
        go_simp; exact hK _ _ (Below.refl _ _) rfl
    · have e : a.tmps[2]?.getD undef = .pointer (some ⟨w.heap.size, 0, none⟩) := hb 2 (by kernel_rfl)
      clear hb hr; go_simp; exact hK _ _ (Below.refl _ _) rfl
    · have e : a.tmps[18]?.getD undef = _ := hr 18 (by kernel_rfl)
      have c0 := (BA.out.go hg).c1
      clear hb hr; go_simp; exact hK _ _ (Below.refl _ _) rfl
    · have e : a.tmps[1]?.getD undef = .int .i64 k := hb 1 (by kernel_rfl)
      clear hb hr; go_simp; exact hK _ _ (Below.refl _ _) rfl
    · have e : a.tmps[19]?.getD undef = .slice o1 k1 c1' := hr 19 (by kernel_rfl)
      have e' : a.tmps[20]?.getD undef = .int .i64 k := hr 20 (by kernel_rfl)
      clear hb hr; go_simp
      refine (P1.out _ (Hn.out.go hg)).mono ?_; rintro e w5 ⟨v5, rfl, hv5, hb5⟩
      exact hK _ _ hb5 hv5
    · have e : a.tmps[2]?.getD undef = .pointer (some ⟨w.heap.size, 0, none⟩) := hb 2 (by kernel_rfl)
      clear hb hr; go_simp; exact hK _ _ (Below.refl _ _) rfl
    · have e : a.tmps[22]?.getD undef = _ := hr 22 (by kernel_rfl)
      have c0 := (BA.out.go hg).c2
      clear hb hr; go_simp; exact hK _ _ (Below.refl _ _) rfl
    · have e : a.tmps[1]?.getD undef = .int .i64 k := hb 1 (by kernel_rfl)
      clear hb hr; go_simp; exact hK _ _ (Below.refl _ _) rfl
    · have e : a.tmps[23]?.getD undef = .slice o2 k2 c2' := hr 23 (by kernel_rfl)
      have e' : a.tmps[24]?.getD undef = .int .i64 k := hr 24 (by kernel_rfl)
      clear hb hr; go_simp
      refine (P2.out _ (Hd.out.go hg)).mono ?_; rintro e w5 ⟨v5, rfl, hv5, hb5⟩
      exact hK _ _ hb5 hv5
    · have e : a.tmps[17]?.getD undef = .bool (s && decide (k % 2 = 1)) := hr 17 (by kernel_rfl)
      have e1 : ∃ N, Num W (a.tmps[21]?.getD undef) N ∧ PowNum n k N := hr 21 (by kernel_rfl)
      have e2 : ∃ N, Num W (a.tmps[25]?.getD undef) N ∧ PowNum d k N := hr 25 (by kernel_rfl)
      obtain ⟨N, e1, pN⟩ := e1
      obtain ⟨D, e2, pD⟩ := e2
      obtain ⟨o11, k11, c11', e3⟩ := e1.shape
      obtain ⟨o12, k12, c12', e4⟩ := e2.shape
      rw [e3] at e1; rw [e4] at e2
      have E1 := Lib.hid e1; have E2 := Lib.hid e2; have PN := Lib.hid pN; have PD := Lib.hid pD
      generalize (s && decide (k % 2 = 1)) = od at *
      clear hb hr e1 e2 pN pD; go_simp
      exact hK _ _ (Below.refl _ _) ⟨N, D, ⟨_, _, rfl, E1.out, E2.out⟩, PN.out, PD.out⟩
  · rintro g3 w9 hb9 ⟨-, -, -, -, -, -, -, -, -, -, -, -, -, -, -, h26, -⟩
    simp only [List.drop_succ_cons, List.drop_zero, List.take_succ_cons, List.take_zero, putHead, Option.getD_some, Act.put, List.setIfInBounds_toArray, List.set_cons_zero, List.set_cons_succ]
    replace h26 : ∃ N D, Frac w9 (g3 26) (s && decide (k % 2 = 1)) N D ∧ PowNum n k N ∧ PowNum d k D := h26
    obtain ⟨N, D, h26, pN, pD⟩ := h26
    have PN := Lib.hid pN; have PD := Lib.hid pD
    clear pN pD hdk HT P1 P2
    generalize g3 26 = v26 at *
    obtain ⟨p5, q5, z5, p6, q6, z6, rfl, hx5, hx6⟩ := h26.box
    have BR9 := Lib.hid (BR.out.go hb9)
    have Hx5 := Lib.hid hx5; have Hx6 := Lib.hid hx6; have B9 := Lib.hid (bstep HB1.out hb9)
    clear h26 hx5 hx6 hb9 BA Hn Hd BR HB1
    obtain ⟨r0, r1, r2, f0, f1, f2⟩ := Box3.facts BR9.out
    have HR : Hid (∀ v w', RetF w (s && decide (k % 2 = 1)) N D v w' → RetP w s n d k v w') := fun v w' ⟨v', h1, h2, h3⟩ => ⟨v', N, D, h1, h2, h3, PN.out, PD.out⟩
    generalize (s && decide (k % 2 = 1)) = od at *
    go_wp2_with fail
    obtain ⟨e0, e1, e2, hret⟩ := box_ret (t := od) BR9.out Hx5.out Hx6.out B9.out (by omega)
    refine bodyPost_ret ?_ rfl (HR.out _ _ hret)
    simp [results, Try.f84, go_sem, e0, e1, e2]

set_option maxHeartbeats 4000000 in
set_option maxRecDepth 100000 in
theorem fracPowerDown_num {w : World} {v : Value} {s : Bool} {n d : Nat} (h : Frac w v s n d) (ln : Len n ≤ 1000000000) (ld : Len d ≤ 1000000000) (k : Nat) (hk : k ≤ 1000000) (hk0 : 0 < k) :
    Calls Try.prog 84 #[v, .int .i64 (-(k : Int))] w (RetP w s d n k) := by
  obtain ⟨o1, k1, c1', o2, k2, c2', rfl, hn, hd⟩ := h.box
  clear h
  obtain ⟨B1, bA, bR⟩ := boxes2 w (.bool s) (.slice o1 k1 c1') (.slice o2 k2 c2') (.bool false) (.slice none 0 0) (.slice none 0 0)
  have Hn := Lib.hid (hn.go B1); have Hd := Lib.hid (hd.go B1)
  clear hn hd
  have BR := Lib.hid bR; have HB1 := Lib.hid B1; have BA := Lib.hid bA
  clear bA bR B1
  have P1 := Lib.hid (fun w' vv a => power_pow (w := w') (va := vv) (a := d) a ld k (by omega))
  have P2 := Lib.hid (fun w' vv a => power_pow (w := w') (va := vv) (a := n) a ln k (by omega))
  have hneg : decide (-(k : Int) < 0) = true := by simp; omega
  have hng : - -(k : Int) = k := by omega
  have hwr : IntKind.i64.wrap (k : Int) = k := IntWalk.i64_in _ ⟨by omega, by omega⟩
  go_enter Try.func84, Try.ntmps84
  obtain ⟨c0, c1, c2, f0, f1, f2⟩ := Box3.facts BA.out
  go_wp2_with fail
  have INV := inverse_num (w := (w.alloc (.cells #[.bool s, .slice o1 k1 c1', .slice o2 k2 c2'] 55)).alloc (.cells #[.bool false, .slice none 0 0, .slice none 0 0] 55)) (v := .agg #[.bool s, .slice o1 k1 c1', .slice o2 k2 c2']) (s := s) (n := n) (d := d) ⟨_, _, rfl, Hn.out, Hd.out⟩
  generalize (w.alloc (.cells #[.bool s, .slice o1 k1 c1', .slice o2 k2 c2'] 55)).alloc (.cells #[.bool false, .slice none 0 0, .slice none 0 0] 55) = w1 at *
  refine INV.mono ?_; rintro e w2 ⟨v2, rfl, hv2, hb2⟩
  obtain ⟨o3, k3, c3', o4, k4, c4', rfl, hx3, hx4⟩ := hv2.box
  have BA2 := Lib.hid (BA.out.go hb2); have BR2 := Lib.hid (BR.out.go hb2); have HB2 := Lib.hid (bstep HB1.out hb2)
  have BX3 := Lib.hid (BA2.out.set (.bool s) (.slice o3 k3 c3') (.slice o4 k4 c4'))
  have BR3 := Lib.hid (BR2.out.far (q := w.heap.size) (x := .bool s) (y := .slice o3 k3 c3') (z := .slice o4 k4 c4') (by omega))
  have HN3 := Lib.hid (hx3.set3 BA2.out (.bool s) (.slice o3 k3 c3') (.slice o4 k4 c4'))
  have HD3 := Lib.hid (hx4.set3 BA2.out (.bool s) (.slice o3 k3 c3') (.slice o4 k4 c4'))
  have HB3 := Lib.hid (three_below (g := w.heap.size) (.bool s) (.slice o3 k3 c3') (.slice o4 k4 c4') HB2.out (Nat.le_refl _))
  clear c0 c1 c2 f0 f1 f2 INV hv2 hx3 hx4
  obtain ⟨c0, c1, c2, f0, f1, f2⟩ := Box3.facts BA2.out
  clear hb2
  go_wp2_with fail
  clear c0 c1 c2 f0 f1 f2
  generalize (((w2.setCell ⟨w.heap.size, 0, none⟩ (.bool s)).setCell ⟨w.heap.size, 1, none⟩ (.slice o3 k3 c3')).setCell ⟨w.heap.size, 2, none⟩ (.slice o4 k4 c4')) = w3 at *

  have HT := Lib.hid (show ((k : Int).tmod 2) = ((k % 2 : Nat) : Int) from by rw [Int.tmod_eq_emod_of_nonneg (by omega)]; omega)
  have hdk : Hid (∀ x : Nat, x = k % 2 → (((x : Nat) : Int) == 1) = decide (k % 2 = 1)) := by show ∀ _, _ → _; rintro x rfl; rcases Nat.mod_two_eq_zero_or_one k with h | h <;> simp [h]
  refine region_inv 16 27 [(11, Is (.pointer (some ⟨w.heap.size, 0, none⟩))), (12, Is (.bool s)), (13, Is (.bool s)), (14, Is (wantInt s k)), (15, Is (wantInt s (k % 2))), (16, Is (wantBool s (decide (k % 2 = 1)))), (17, Is (.bool (s && decide (k % 2 = 1)))),
    (18, Is (.pointer (some ⟨w.heap.size, 1, none⟩))), (19, Is (.slice o3 k3 c3')), (20, Is (.int .i64 k)), (21, IsPow d k), (22, Is (.pointer (some ⟨w.heap.size, 2, none⟩))), (23, Is (.slice o4 k4 c4')), (24, Is (.int .i64 k)), (25, IsPow n k),
    (26, IsFracPow (s && decide (k % 2 = 1)) d n k)] (by kernel_rfl) rfl (by kernel_rfl) ?_ ?_
  · refine steps_cons rfl (fun a W hb hr hg K hK => ?_) <| steps_cons rfl (fun a W hb hr hg K hK => ?_) <| steps_cons rfl (fun a W hb hr hg K hK => ?_) <| steps_guard (fun a W hb hr hg K hK => ?_) <|
      steps_guard (fun a W hb hr hg K hK => ?_) <| steps_guard (fun a W hb hr hg K hK => ?_) <| steps_cons rfl (fun a W hb hr hg K hK => ?_) <| steps_cons rfl (fun a W hb hr hg K hK => ?_) <|
      steps_cons rfl (fun a W hb hr hg K hK => ?_) <| steps_cons rfl (fun a W hb hr hg K hK => ?_) <| steps_cons rfl (fun a W hb hr hg K hK => ?_) <| steps_cons rfl (fun a W hb hr hg K hK => ?_) <|
      steps_cons rfl (fun a W hb hr hg K hK => ?_) <| steps_cons rfl (fun a W hb hr hg K hK => ?_) <| steps_cons rfl (fun a W hb hr hg K hK => ?_) <| steps_cons rfl (fun a W hb hr hg K hK => ?_) trivial
    · have e : a.tmps[2]?.getD undef = .pointer (some ⟨w.heap.size, 0, none⟩) := hb 2 (by kernel_rfl)
      clear hb hr; go_simp; exact hK _ _ (Below.refl _ _) rfl
    · have e : a.tmps[11]?.getD undef = _ := hr 11 (by kernel_rfl)
      have c0 := (BX3.out.go hg).c0
      clear hb hr; go_simp; exact hK _ _ (Below.refl _ _) rfl
    · have e : a.tmps[12]?.getD undef = _ := hr 12 (by kernel_rfl)
      clear hb hr; go_simp; exact hK _ _ (Below.refl _ _) rfl
    · have e : a.tmps[13]?.getD undef = .bool s := hr 13 (by kernel_rfl)
      have e1 : a.tmps[1]?.getD undef = .int .i64 k := hb 1 (by kernel_rfl)
      rw [wanted_slot rfl (by kernel_rfl) e]
      clear hb hr e
      cases s
      · rw [if_neg (by simp)]; exact hK _ _ (Below.refl _ _) rfl
      · rw [if_pos (show (true == true) = true from rfl)]; go_simp; exact hK _ _ (Below.refl _ _) rfl
    · have e : a.tmps[13]?.getD undef = .bool s := hr 13 (by kernel_rfl)
      have e1 : a.tmps[14]?.getD undef = wantInt s k := hr 14 (by kernel_rfl)
      rw [wanted_slot rfl (by kernel_rfl) e]
      clear hb hr e
      cases s
      · rw [if_neg (by simp)]; exact hK _ _ (Below.refl _ _) rfl
      · rw [if_pos (show (true == true) = true from rfl)]; replace e1 : a.tmps[14]?.getD undef = .int .i64 k := e1
        go_simp; rw [HT.out]; exact hK _ _ (Below.refl _ _) rfl
    · have e : a.tmps[13]?.getD undef = .bool s := hr 13 (by kernel_rfl)
      have e1 : a.tmps[15]?.getD undef = wantInt s (k % 2) := hr 15 (by kernel_rfl)
      rw [wanted_slot rfl (by kernel_rfl) e]
      clear hb hr e
      cases s
      · rw [if_neg (by simp)]; exact hK _ _ (Below.refl _ _) rfl
      · rw [if_pos (show (true == true) = true from rfl)]; replace e1 : a.tmps[15]?.getD undef = .int .i64 (k % 2 : Nat) := e1
        generalize hx : k % 2 = x at e1
        have hz := hdk.out x hx.symm
        clear hx
        go_simp; exact hK _ _ (Below.refl _ _) rfl
    · have e : a.tmps[13]?.getD undef = .bool s := hr 13 (by kernel_rfl)
      have e1 : a.tmps[16]?.getD undef = wantBool s (decide (k % 2 = 1)) := hr 16 (by kernel_rfl)
      clear hb hr
      cases s
      · go_simp; exact hK _ _ (Below.refl _ _) rfl
      · replace e1 : a.tmps[16]?.getD undef = .bool (decide (k % 2 = 1)) := e1
        generalize decide (k % 2 = 1) = od at *
        go_simp; exact hK _ _ (Below.refl _ _) rfl
    · have e : a.tmps[2]?.getD undef = .pointer (some ⟨w.heap.size, 0, none⟩) := hb 2 (by kernel_rfl)
      clear hb hr; go_simp; exact hK _ _ (Below.refl _ _) rfl
    · have e : a.tmps[18]?.getD undef = _ := hr 18 (by kernel_rfl)
      have c0 := (BX3.out.go hg).c1
      clear hb hr; go_simp; exact hK _ _ (Below.refl _ _) rfl
    · have e : a.tmps[1]?.getD undef = .int .i64 k := hb 1 (by kernel_rfl)
      clear hb hr; go_simp; exact hK _ _ (Below.refl _ _) rfl
    · have e : a.tmps[19]?.getD undef = .slice o3 k3 c3' := hr 19 (by kernel_rfl)
      have e' : a.tmps[20]?.getD undef = .int .i64 k := hr 20 (by kernel_rfl)
      clear hb hr; go_simp
      refine (P1.out _ _ (HN3.out.go hg)).mono ?_; rintro e w5 ⟨v5, rfl, hv5, hb5⟩
      exact hK _ _ hb5 hv5
    · have e : a.tmps[2]?.getD undef = .pointer (some ⟨w.heap.size, 0, none⟩) := hb 2 (by kernel_rfl)
      clear hb hr; go_simp; exact hK _ _ (Below.refl _ _) rfl
    · have e : a.tmps[22]?.getD undef = _ := hr 22 (by kernel_rfl)
      have c0 := (BX3.out.go hg).c2
      clear hb hr; go_simp; exact hK _ _ (Below.refl _ _) rfl
    · have e : a.tmps[1]?.getD undef = .int .i64 k := hb 1 (by kernel_rfl)
      clear hb hr; go_simp; exact hK _ _ (Below.refl _ _) rfl
    · have e : a.tmps[23]?.getD undef = .slice o4 k4 c4' := hr 23 (by kernel_rfl)
      have e' : a.tmps[24]?.getD undef = .int .i64 k := hr 24 (by kernel_rfl)
      clear hb hr; go_simp
      refine (P2.out _ _ (HD3.out.go hg)).mono ?_; rintro e w5 ⟨v5, rfl, hv5, hb5⟩
      exact hK _ _ hb5 hv5
    · have e : a.tmps[17]?.getD undef = .bool (s && decide (k % 2 = 1)) := hr 17 (by kernel_rfl)
      have e1 : ∃ N, Num W (a.tmps[21]?.getD undef) N ∧ PowNum d k N := hr 21 (by kernel_rfl)
      have e2 : ∃ N, Num W (a.tmps[25]?.getD undef) N ∧ PowNum n k N := hr 25 (by kernel_rfl)
      obtain ⟨N, e1, pN⟩ := e1
      obtain ⟨D, e2, pD⟩ := e2
      obtain ⟨o11, k11, c11', e3⟩ := e1.shape
      obtain ⟨o12, k12, c12', e4⟩ := e2.shape
      rw [e3] at e1; rw [e4] at e2
      have E1 := Lib.hid e1; have E2 := Lib.hid e2; have PN := Lib.hid pN; have PD := Lib.hid pD
      generalize (s && decide (k % 2 = 1)) = od at *
      clear hb hr e1 e2 pN pD; go_simp
      exact hK _ _ (Below.refl _ _) ⟨N, D, ⟨_, _, rfl, E1.out, E2.out⟩, PN.out, PD.out⟩
  · rintro g3 w9 hb9 ⟨-, -, -, -, -, -, -, -, -, -, -, -, -, -, -, h26, -⟩
    simp only [List.drop_succ_cons, List.drop_zero, List.take_succ_cons, List.take_zero, putHead, Option.getD_some, Act.put, List.setIfInBounds_toArray, List.set_cons_zero, List.set_cons_succ]
    replace h26 : ∃ N D, Frac w9 (g3 26) (s && decide (k % 2 = 1)) N D ∧ PowNum d k N ∧ PowNum n k D := h26
    obtain ⟨N, D, h26, pN, pD⟩ := h26
    have PN := Lib.hid pN; have PD := Lib.hid pD
    clear pN pD hdk HT P1 P2
    generalize g3 26 = v26 at *
    obtain ⟨p5, q5, z5, p6, q6, z6, rfl, hx5, hx6⟩ := h26.box
    have BR9 := Lib.hid (BR3.out.go hb9)
    have Hx5 := Lib.hid hx5; have Hx6 := Lib.hid hx6; have B9 := Lib.hid (bstep HB3.out hb9)
    clear h26 hx5 hx6 hb9 BX3 HN3 HD3 BR3 HB3
    obtain ⟨r0, r1, r2, f0, f1, f2⟩ := Box3.facts BR9.out
    have HR : Hid (∀ v w', RetF w (s && decide (k % 2 = 1)) N D v w' → RetP w s d n k v w') := fun v w' ⟨v', h1, h2, h3⟩ => ⟨v', N, D, h1, h2, h3, PN.out, PD.out⟩
    generalize (s && decide (k % 2 = 1)) = od at *
    go_wp2_with fail
    obtain ⟨e0, e1, e2, hret⟩ := box_ret (t := od) BR9.out Hx5.out Hx6.out B9.out (by omega)
    refine bodyPost_ret ?_ rfl (HR.out _ _ hret)
    simp [results, Try.f84, go_sem, e0, e1, e2]
end Go.Proofs.Ytlkdahgfnfdakaa
