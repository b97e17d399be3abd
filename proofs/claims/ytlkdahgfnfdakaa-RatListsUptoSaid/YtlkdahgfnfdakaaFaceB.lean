import Derived.Test.YtlkdahgfnfdakaaCalc
namespace Go.Proofs.Ytlkdahgfnfdakaa
open Go.RowKit Go.Shelf WN LM

set_option maxHeartbeats 1000000 in
set_option maxRecDepth 100000 in
theorem change_floor (w : World) (a : ByteArray) (ha : a.size ≤ 140737488355328) : Calls Try.prog 79 #[.func (.func 80) #[] #[], .string a] w (OutS w (oneT (fun p => out3 (floorQ p)) a)) := by
  have PS := Lib.hid (parse_num (Strs.new1 w a) (by simp) (by intro s hs; simp at hs; subst hs; assumption))
  have HB1 := Lib.hid (below_alloc w (.cells #[.string a] 9))
  have HA := Lib.hid ha; clear ha
  go_enter Try.func79, Try.ntmps79
  go_wp2_with fail
  generalize w.alloc (.cells #[.string a] 9) = w1 at *
  refine PS.out.mono ?_; rintro e w2 ⟨hb2, hm⟩
  have HB2 := Lib.hid (bstep HB1.out hb2)
  clear hb2 PS
  rw [readAll_one] at hm
  cases hp : readQ a.data.toList with
  | none =>
    rw [hp] at hm
    have HR : Hid (oneT (fun p => out3 (floorQ p)) a = (⟨#[]⟩, 1)) := by show _ = _; unfold oneT; rw [hp]
    obtain rfl : e = _ := hm
    clear hp
    go_wp2_with fail
    go_ret2
    exact ⟨by rw [HR.out]; rfl, HB2.out⟩
  | some p =>
    rw [hp] at hm
    have HR : Hid (oneT (fun p => out3 (floorQ p)) a = out3 (floorQ p)) := by show _ = _; unfold oneT; rw [hp]
    obtain ⟨g, cap, rfl, hrow⟩ := hm
    obtain ⟨p1, p2, p3, -, -, -⟩ := readQ_q hp
    have lp1 := len_dig p1; have lp2 := len_dig p2
    obtain ⟨o1, k1, c1', o2, k2, c2', x0, x1, x2, hn, hd⟩ := hrow.one
    have CF : Hid (∀ w' v, Frac w' v p.1 p.2.1 p.2.2 → Calls Try.prog 80 #[v] w' (RetF w' (floorQ p).1 (floorQ p).2.1 (floorQ p).2.2)) := fun w' v h => floor_num h (by omega) (by omega) p3
    have LB : Hid (Len (floorQ p).2.1 ≤ 10000000000 ∧ Len (floorQ p).2.2 ≤ 10000000000) := by show _ ∧ _; have h1 := floorN_len p.1 p.2.1 p.2.2; have h2 := len_small (show 1 < 1000000000 by omega); exact ⟨by show Len (floorN _ _ _) ≤ _; omega, by show Len 1 ≤ _; omega⟩
    have WR := Lib.hid (fun w' v h => write_num (w := w') (v := v) (s := (floorQ p).1) (n := (floorQ p).2.1) (d := (floorQ p).2.2) h LB.out.1 LB.out.2)
    have HN := Lib.hid hn; have HD := Lib.hid hd
    have HOO : Hid (∀ e w', OutS w (out3 (floorQ p)) e w' → OutS w (oneT (fun p => out3 (floorQ p)) a) e w') := fun _ _ h => by rw [HR.out]; exact h
    clear hp hrow hn hd p1 p2 p3 HR LB
    change ∀ w' v h, Calls Try.prog 62 #[v] w' (OutS w' (out3 (floorQ p))) at WR
    have WR := Lib.hid WR
    generalize hz : floorQ p = z at *
    clear hz
    go_wp2_with fail
    refine (CF.out _ _ ⟨_, _, rfl, HN.out, HD.out⟩).mono ?_; rintro e w3 ⟨v3, rfl, hv3, hb3⟩
    have HV3 := Lib.hid hv3; have HB3 := Lib.hid (bstep HB2.out hb3)
    clear hv3 hb3 x0 x1 x2
    go_wp2_with fail
    refine (WR.out _ _ HV3.out).mono ?_; rintro e w4 ⟨rfl, hb4⟩
    have HB4 := Lib.hid (bstep HB3.out hb4)
    clear hb4
    go_wp2_with fail
    go_ret2
    exact HOO.out _ _ ⟨rfl, HB4.out⟩

set_option maxHeartbeats 1000000 in
set_option maxRecDepth 100000 in
theorem change_round (w : World) (a : ByteArray) (ha : a.size ≤ 140737488355328) : Calls Try.prog 79 #[.func (.func 82) #[] #[], .string a] w (OutS w (oneT (fun p => out3 (roundQ p)) a)) := by
  have PS := Lib.hid (parse_num (Strs.new1 w a) (by simp) (by intro s hs; simp at hs; subst hs; assumption))
  have HB1 := Lib.hid (below_alloc w (.cells #[.string a] 9))
  have HA := Lib.hid ha; clear ha
  go_enter Try.func79, Try.ntmps79
  go_wp2_with fail
  generalize w.alloc (.cells #[.string a] 9) = w1 at *
  refine PS.out.mono ?_; rintro e w2 ⟨hb2, hm⟩
  have HB2 := Lib.hid (bstep HB1.out hb2)
  clear hb2 PS
  rw [readAll_one] at hm
  cases hp : readQ a.data.toList with
  | none =>
    rw [hp] at hm
    have HR : Hid (oneT (fun p => out3 (roundQ p)) a = (⟨#[]⟩, 1)) := by show _ = _; unfold oneT; rw [hp]
    obtain rfl : e = _ := hm
    clear hp
    go_wp2_with fail
    go_ret2
    exact ⟨by rw [HR.out]; rfl, HB2.out⟩
  | some p =>
    rw [hp] at hm
    have HR : Hid (oneT (fun p => out3 (roundQ p)) a = out3 (roundQ p)) := by show _ = _; unfold oneT; rw [hp]
    obtain ⟨g, cap, rfl, hrow⟩ := hm
    obtain ⟨p1, p2, p3, -, -, -⟩ := readQ_q hp
    have lp1 := len_dig p1; have lp2 := len_dig p2
    obtain ⟨o1, k1, c1', o2, k2, c2', x0, x1, x2, hn, hd⟩ := hrow.one
    have CF : Hid (∀ w' v, Frac w' v p.1 p.2.1 p.2.2 → Calls Try.prog 82 #[v] w' (RetF w' (roundQ p).1 (roundQ p).2.1 (roundQ p).2.2)) := fun w' v h => round_num h (by omega) (by omega) p3
    have LB : Hid (Len (roundQ p).2.1 ≤ 10000000000 ∧ Len (roundQ p).2.2 ≤ 10000000000) := by show _ ∧ _; have h1 := roundN_len p.2.1 p.2.2; have h2 := len_small (show 1 < 1000000000 by omega); exact ⟨by show Len (roundN _ _) ≤ _; omega, by show Len 1 ≤ _; omega⟩
    have WR := Lib.hid (fun w' v h => write_num (w := w') (v := v) (s := (roundQ p).1) (n := (roundQ p).2.1) (d := (roundQ p).2.2) h LB.out.1 LB.out.2)
    have HN := Lib.hid hn; have HD := Lib.hid hd
    have HOO : Hid (∀ e w', OutS w (out3 (roundQ p)) e w' → OutS w (oneT (fun p => out3 (roundQ p)) a) e w') := fun _ _ h => by rw [HR.out]; exact h
    clear hp hrow hn hd p1 p2 p3 HR LB
    change ∀ w' v h, Calls Try.prog 62 #[v] w' (OutS w' (out3 (roundQ p))) at WR
    have WR := Lib.hid WR
    generalize hz : roundQ p = z at *
    clear hz
    go_wp2_with fail
    refine (CF.out _ _ ⟨_, _, rfl, HN.out, HD.out⟩).mono ?_; rintro e w3 ⟨v3, rfl, hv3, hb3⟩
    have HV3 := Lib.hid hv3; have HB3 := Lib.hid (bstep HB2.out hb3)
    clear hv3 hb3 x0 x1 x2
    go_wp2_with fail
    refine (WR.out _ _ HV3.out).mono ?_; rintro e w4 ⟨rfl, hb4⟩
    have HB4 := Lib.hid (bstep HB3.out hb4)
    clear hb4
    go_wp2_with fail
    go_ret2
    exact HOO.out _ _ ⟨rfl, HB4.out⟩

set_option maxHeartbeats 1000000 in
set_option maxRecDepth 100000 in
theorem add_any (w : World) (a b : ByteArray) (ha : a.size ≤ 140737488355328) (hb : b.size ≤ 140737488355328) : Calls Try.prog 23 #[.string a, .string b] w (OutS w (two (fun p q => out3 (addQ p q)) a b)) := by
  have C := Lib.hid (calc_plus w a b ha hb)
  clear ha hb
  generalize two (fun p q => out3 (addQ p q)) a b = r at *
  go_enter Try.func23, Try.ntmps23
  go_wp2_with fail
  refine C.out.mono ?_; rintro e w2 ⟨rfl, hb2⟩
  go_wp2_with fail
  go_ret2
  exact ⟨rfl, hb2⟩

set_option maxHeartbeats 1000000 in
set_option maxRecDepth 100000 in
theorem sub_any (w : World) (a b : ByteArray) (ha : a.size ≤ 140737488355328) (hb : b.size ≤ 140737488355328) : Calls Try.prog 25 #[.string a, .string b] w (OutS w (two (fun p q => out3 (subQ p q)) a b)) := by
  have C := Lib.hid (calc_minus w a b ha hb)
  clear ha hb
  generalize two (fun p q => out3 (subQ p q)) a b = r at *
  go_enter Try.func25, Try.ntmps25
  go_wp2_with fail
  refine C.out.mono ?_; rintro e w2 ⟨rfl, hb2⟩
  go_wp2_with fail
  go_ret2
  exact ⟨rfl, hb2⟩

set_option maxHeartbeats 1000000 in
set_option maxRecDepth 100000 in
theorem mul_any (w : World) (a b : ByteArray) (ha : a.size ≤ 140737488355328) (hb : b.size ≤ 140737488355328) : Calls Try.prog 27 #[.string a, .string b] w (OutS w (two (fun p q => out3 (mulQ p q)) a b)) := by
  have C := Lib.hid (calc_times w a b ha hb)
  clear ha hb
  generalize two (fun p q => out3 (mulQ p q)) a b = r at *
  go_enter Try.func27, Try.ntmps27
  go_wp2_with fail
  refine C.out.mono ?_; rintro e w2 ⟨rfl, hb2⟩
  go_wp2_with fail
  go_ret2
  exact ⟨rfl, hb2⟩

set_option maxHeartbeats 1000000 in
set_option maxRecDepth 100000 in
theorem floor_any (w : World) (a : ByteArray) (ha : a.size ≤ 140737488355328) : Calls Try.prog 33 #[.string a] w (OutS w (oneT (fun p => out3 (floorQ p)) a)) := by
  have C := Lib.hid (change_floor w a ha)
  clear ha
  generalize oneT (fun p => out3 (floorQ p)) a = r at *
  go_enter Try.func33, Try.ntmps33
  go_wp2_with fail
  refine C.out.mono ?_; rintro e w2 ⟨rfl, hb2⟩
  go_wp2_with fail
  go_ret2
  exact ⟨rfl, hb2⟩

set_option maxHeartbeats 1000000 in
set_option maxRecDepth 100000 in
theorem round_any (w : World) (a : ByteArray) (ha : a.size ≤ 140737488355328) : Calls Try.prog 35 #[.string a] w (OutS w (oneT (fun p => out3 (roundQ p)) a)) := by
  have C := Lib.hid (change_round w a ha)
  clear ha
  generalize oneT (fun p => out3 (roundQ p)) a = r at *
  go_enter Try.func35, Try.ntmps35
  go_wp2_with fail
  refine C.out.mono ?_; rintro e w2 ⟨rfl, hb2⟩
  go_wp2_with fail
  go_ret2
  exact ⟨rfl, hb2⟩

set_option maxHeartbeats 1000000 in
set_option maxRecDepth 100000 in
theorem is_any (w : World) (a : ByteArray) (ha : a.size ≤ 140737488355328) : Calls Try.prog 18 #[.string a] w fun e w' => e = .returned (.bool (readQ a.data.toList).isSome) ∧ Below w.heap.size w w' := by
  have C := Lib.hid (read_num a w ha)
  clear ha
  cases hq : readQ a.data.toList with
  | none =>
    rw [hq] at C
    clear hq
    go_enter Try.func18, Try.ntmps18
    go_wp2_with fail
    refine C.out.mono ?_; rintro e w2 ⟨v2, hb2, rfl, rfl⟩
    go_wp2_with fail
    go_ret
    exact ⟨rfl, bstep hb2 (below_alloc _ _)⟩
  | some q =>
    rw [hq] at C
    obtain ⟨s, n, d⟩ := q
    clear hq
    go_enter Try.func18, Try.ntmps18
    go_wp2_with fail
    refine C.out.mono ?_; rintro e w2 ⟨v2, hb2, rfl, hf⟩
    obtain ⟨o1, k1, c1', o2, k2, c2', rfl, -, -⟩ := hf.box
    clear hf
    go_wp2_with fail
    go_ret
    exact ⟨rfl, bstep hb2 (below_alloc _ _)⟩
end Go.Proofs.Ytlkdahgfnfdakaa

namespace Go.Proofs.Ytlkdahgfnfdakaa
open Go.RowKit Go.Shelf WN LM

def twoG {α : Type} (bad : α) (f : Q3 → Q3 → α) (a b : ByteArray) : α :=
  match readQ a.data.toList, readQ b.data.toList with
  | some p, some q => f p q
  | _, _ => bad
def oneG {α : Type} (bad : α) (f : Q3 → α) (a : ByteArray) : α :=
  match readQ a.data.toList with
  | some p => f p
  | none => bad
def OutI (w : World) (x : Int × Int) (e : Ending) (w' : World) : Prop := e = .returned (.tuple #[.int .i64 x.1, .int .i64 x.2]) ∧ Below w.heap.size w w'
def OutB (w : World) (x : Bool × Int) (e : Ending) (w' : World) : Prop := e = .returned (.tuple #[.bool x.1, .int .i64 x.2]) ∧ Below w.heap.size w w'
def signQ (q : Q3) : Int := sgn q.1 q.2.1
def invQ (q : Q3) : Q3 := (q.1, q.2.2, q.2.1)
def divQ (p q : Q3) : Q3 := mulQ p (invQ q)
def cmpQ (p q : Q3) : Int :=
  sgn (addS (p.1 && decide (p.2.1 * q.2.2 ≠ 0)) (p.2.1 * q.2.2) (!q.1 && decide (q.2.1 * p.2.2 ≠ 0)) (q.2.1 * p.2.2) && decide (addN (p.1 && decide (p.2.1 * q.2.2 ≠ 0)) (p.2.1 * q.2.2) (!q.1 && decide (q.2.1 * p.2.2 ≠ 0)) (q.2.1 * p.2.2) ≠ 0)) (addN (p.1 && decide (p.2.1 * q.2.2 ≠ 0)) (p.2.1 * q.2.2) (!q.1 && decide (q.2.1 * p.2.2 ≠ 0)) (q.2.1 * p.2.2))
def divF (p q : Q3) : ByteArray × Int := if signQ q = 0 then (⟨#[]⟩, 12) else out3 (divQ p q)
def cmpF (p q : Q3) : Int × Int := (cmpQ p q, 0)
def simQ (p q : Q3) : Q3 :=
  if p.1 && q.1 then (decide ((simpl q.2.1 q.2.2 p.2.1 p.2.2).1 ≠ 0), (simpl q.2.1 q.2.2 p.2.1 p.2.2).1, (simpl q.2.1 q.2.2 p.2.1 p.2.2).2)
  else if signQ p ≤ 0 then (false, 0, 1) else (false, (simpl p.2.1 p.2.2 q.2.1 q.2.2).1, (simpl p.2.1 p.2.2 q.2.1 q.2.2).2)
def simF (p q : Q3) : ByteArray × Int := if 0 < cmpQ p q then (⟨#[]⟩, 3) else out3 (simQ p q)
def multF (p q : Q3) : Bool × Int := if signQ q ≤ 0 then (false, 3) else (!(divQ p q).1 && decide ((divQ p q).2.2 = 1), 0)
theorem sgn_zero {s : Bool} {n : Nat} (h : s = true → n ≠ 0) : sgn s n = 0 ↔ n = 0 := by
  unfold sgn
  cases s
  · simp
  · simp; exact h rfl
theorem sgn_pos {s : Bool} {n : Nat} : 0 < sgn s n ↔ s = false ∧ n ≠ 0 := by
  unfold sgn
  cases s
  · by_cases h : n = 0 <;> simp [h]
  · simp

set_option maxHeartbeats 1000000 in
set_option maxRecDepth 100000 in
theorem cmp_any (w : World) (a b : ByteArray) (ha : a.size ≤ 140737488355328) (hb : b.size ≤ 140737488355328) : Calls Try.prog 31 #[.string a, .string b] w (OutI w (twoG ((0 : Int), (1 : Int)) cmpF a b)) := by
  have PS := Lib.hid (parse_num (Strs.new2 w a b) (by simp) (by intro s hs; simp at hs; rcases hs with rfl | rfl <;> assumption))
  have HB1 := Lib.hid (below_alloc w (.cells #[.string a, .string b] 9))
  have HA := Lib.hid ha; have HBB := Lib.hid hb; clear ha hb
  go_enter Try.func31, Try.ntmps31
  go_wp2_with fail
  generalize w.alloc (.cells #[.string a, .string b] 9) = w1 at *
  refine PS.out.mono ?_; rintro e w2 ⟨hb2, hm⟩
  have HB2 := Lib.hid (bstep HB1.out hb2)
  clear hb2 PS
  rw [readAll_two] at hm
  cases hp : readQ a.data.toList with
  | none =>
    rw [hp] at hm
    have HR : Hid (twoG ((0 : Int), (1 : Int)) cmpF a b = ((0 : Int), (1 : Int))) := by show _ = _; unfold twoG; rw [hp]
    obtain rfl : e = _ := hm
    clear hp
    go_wp2_with fail
    go_ret2
    exact ⟨by rw [HR.out]; rfl, HB2.out⟩
  | some p =>
    cases hq : readQ b.data.toList with
    | none =>
      rw [hp, hq] at hm
      have HR : Hid (twoG ((0 : Int), (1 : Int)) cmpF a b = ((0 : Int), (1 : Int))) := by show _ = _; unfold twoG; rw [hp, hq]
      obtain rfl : e = _ := hm
      clear hp hq
      go_wp2_with fail
      go_ret2
      exact ⟨by rw [HR.out]; rfl, HB2.out⟩
    | some q =>
      rw [hp, hq] at hm
      have HR : Hid (twoG ((0 : Int), (1 : Int)) cmpF a b = cmpF p q) := by show _ = _; unfold twoG; rw [hp, hq]
      obtain ⟨g, cap, rfl, hrow⟩ := hm
      obtain ⟨p1, p2, p3, -, p5, -⟩ := readQ_q hp
      obtain ⟨q1, q2, q3, -, q5, -⟩ := readQ_q hq
      have lp1 := len_dig p1; have lp2 := len_dig p2; have lq1 := len_dig q1; have lq2 := len_dig q2
      obtain ⟨⟨o1, k1, c1', o2, k2, c2', x0, x1, x2, hn, hd⟩, ⟨o3, k3, c3', o4, k4, c4', y0, y1, y2, hm, hc⟩⟩ := hrow.two
      have HN := Lib.hid hn; have HD := Lib.hid hd; have HM := Lib.hid hm; have HC := Lib.hid hc
      have HX : Hid (w2.cell? ⟨g, 0, none⟩ = some (.bool p.1) ∧ w2.cell? ⟨g, 1, none⟩ = some (.slice o1 k1 c1') ∧ w2.cell? ⟨g, 2, none⟩ = some (.slice o2 k2 c2')) := ⟨x0, x1, x2⟩
      have HY : Hid (w2.cell? ⟨g, 3, none⟩ = some (.bool q.1) ∧ w2.cell? ⟨g, 4, none⟩ = some (.slice o3 k3 c3') ∧ w2.cell? ⟨g, 5, none⟩ = some (.slice o4 k4 c4')) := ⟨y0, y1, y2⟩
      have P3 := Lib.hid p3; have Q3' := Lib.hid q3; have P5 := Lib.hid p5; have Q5 := Lib.hid q5
      have HOO : Hid (∀ e w', OutI w (cmpF p q) e w' → OutI w (twoG ((0 : Int), (1 : Int)) cmpF a b) e w') := fun _ _ h => by rw [HR.out]; exact h
      clear hp hq hrow hn hd hm hc p1 p2 p3 q1 q2 q3 p5 q5 HR
      have CF : Hid (∀ w' v u, Frac w' v p.1 p.2.1 p.2.2 → Frac w' u q.1 q.2.1 q.2.2 → Calls Try.prog 77 #[v, u] w' fun e w'' => e = .returned (.int .i64 (cmpQ p q)) ∧ Below w'.heap.size w' w'') := fun w' v u h k => fracCompare_num h k (by omega) (by omega) (by omega) (by omega)
      unfold cmpF at HOO
      generalize cmpQ p q = z at *
      clear x0 x1 x2 y0 y1 y2
      go_wp2_with fail
      refine region_inv 7 25 [(18, Is (.slice (some ⟨g, 0, none⟩) 2 cap)), (19, Is (.pointer (some ⟨g, 0, none⟩))), (20, Is (.agg #[.bool p.1, .slice o1 k1 c1', .slice o2 k2 c2'])), (21, Is (.slice (some ⟨g, 0, none⟩) 2 cap)), (22, Is (.pointer (some ⟨g, 3, none⟩))), (23, Is (.agg #[.bool q.1, .slice o3 k3 c3', .slice o4 k4 c4'])), (24, Is (.int .i64 z))] (by kernel_rfl) rfl (by kernel_rfl) ?_ ?_
      · refine steps_cons rfl (fun a W hb hr hg K hK => ?_) <| steps_cons rfl (fun a W hb hr hg K hK => ?_) <| steps_cons rfl (fun a W hb hr hg K hK => ?_) <| steps_cons rfl (fun a W hb hr hg K hK => ?_) <| steps_cons rfl (fun a W hb hr hg K hK => ?_) <| steps_cons rfl (fun a W hb hr hg K hK => ?_) <| steps_cons rfl (fun a W hb hr hg K hK => ?_) trivial
        · have e : a.tmps[6]?.getD undef = .slice (some ⟨g, 0, none⟩) 2 cap := hb 6 (by kernel_rfl)
          clear hb hr; go_simp; exact hK _ _ (Below.refl _ _) rfl
        · have e : a.tmps[18]?.getD undef = .slice (some ⟨g, 0, none⟩) 2 cap := hr 18 (by kernel_rfl)
          clear hb hr; go_simp; exact hK _ _ (Below.refl _ _) rfl
        · have e : a.tmps[19]?.getD undef = _ := hr 19 (by kernel_rfl)
          obtain ⟨c0, c1, c2⟩ := keep3 HX.out hg
          clear hb hr; go_simp; exact hK _ _ (Below.refl _ _) rfl
        · have e : a.tmps[6]?.getD undef = .slice (some ⟨g, 0, none⟩) 2 cap := hb 6 (by kernel_rfl)
          clear hb hr; go_simp; exact hK _ _ (Below.refl _ _) rfl
        · have e : a.tmps[21]?.getD undef = .slice (some ⟨g, 0, none⟩) 2 cap := hr 21 (by kernel_rfl)
          clear hb hr; go_simp; exact hK _ _ (Below.refl _ _) rfl
        · have e : a.tmps[22]?.getD undef = _ := hr 22 (by kernel_rfl)
          obtain ⟨c0, c1, c2⟩ := keep3 HY.out hg
          clear hb hr; go_simp; exact hK _ _ (Below.refl _ _) rfl
        · have e1 : a.tmps[20]?.getD undef = _ := hr 20 (by kernel_rfl)
          have e2 : a.tmps[23]?.getD undef = _ := hr 23 (by kernel_rfl)
          clear hb hr; go_simp
          refine (CF.out _ _ _ ⟨_, _, rfl, HN.out.go hg, HD.out.go hg⟩ ⟨_, _, rfl, HM.out.go hg, HC.out.go hg⟩).mono ?_; rintro e w5 ⟨rfl, hb5⟩
          exact hK _ _ hb5 rfl
      · rintro g3 w9 hb9 ⟨-, -, -, -, -, -, h24, -⟩
        simp only [List.drop_succ_cons, List.drop_zero, List.take_succ_cons, List.take_zero, putHead, Option.getD_some, Act.put, List.setIfInBounds_toArray, List.set_cons_zero, List.set_cons_succ]
        replace h24 : g3 24 = .int .i64 z := h24
        have HB9 := Lib.hid (bstep HB2.out hb9)
        clear hb9
        go_wp2_with fail
        go_ret2
        exact HOO.out _ _ ⟨by show Ending.returned (.tuple #[g3 24, .int .i64 0]) = _; rw [h24], HB9.out⟩

set_option maxHeartbeats 1000000 in
set_option maxRecDepth 100000 in
theorem div_any (w : World) (a b : ByteArray) (ha : a.size ≤ 140737488355328) (hb : b.size ≤ 140737488355328) : Calls Try.prog 29 #[.string a, .string b] w (OutS w (twoG ((⟨#[]⟩ : ByteArray), (1 : Int)) divF a b)) := by
  have PS := Lib.hid (parse_num (Strs.new2 w a b) (by simp) (by intro s hs; simp at hs; rcases hs with rfl | rfl <;> assumption))
  have HB1 := Lib.hid (below_alloc w (.cells #[.string a, .string b] 9))
  have HA := Lib.hid ha; have HBB := Lib.hid hb; clear ha hb
  go_enter Try.func29, Try.ntmps29
  go_wp2_with fail
  generalize w.alloc (.cells #[.string a, .string b] 9) = w1 at *
  refine PS.out.mono ?_; rintro e w2 ⟨hb2, hm⟩
  have HB2 := Lib.hid (bstep HB1.out hb2)
  clear hb2 PS
  rw [readAll_two] at hm
  cases hp : readQ a.data.toList with
  | none =>
    rw [hp] at hm
    have HR : Hid (twoG ((⟨#[]⟩ : ByteArray), (1 : Int)) divF a b = ((⟨#[]⟩ : ByteArray), (1 : Int))) := by show _ = _; unfold twoG; rw [hp]
    obtain rfl : e = _ := hm
    clear hp
    go_wp2_with fail
    go_ret2
    exact ⟨by rw [HR.out]; rfl, HB2.out⟩
  | some p =>
    cases hq : readQ b.data.toList with
    | none =>
      rw [hp, hq] at hm
      have HR : Hid (twoG ((⟨#[]⟩ : ByteArray), (1 : Int)) divF a b = ((⟨#[]⟩ : ByteArray), (1 : Int))) := by show _ = _; unfold twoG; rw [hp, hq]
      obtain rfl : e = _ := hm
      clear hp hq
      go_wp2_with fail
      go_ret2
      exact ⟨by rw [HR.out]; rfl, HB2.out⟩
    | some q =>
      rw [hp, hq] at hm
      have HR : Hid (twoG ((⟨#[]⟩ : ByteArray), (1 : Int)) divF a b = divF p q) := by show _ = _; unfold twoG; rw [hp, hq]
      obtain ⟨g, cap, rfl, hrow⟩ := hm
      obtain ⟨p1, p2, p3, -, p5, -⟩ := readQ_q hp
      obtain ⟨q1, q2, q3, -, q5, -⟩ := readQ_q hq
      have lp1 := len_dig p1; have lp2 := len_dig p2; have lq1 := len_dig q1; have lq2 := len_dig q2
      obtain ⟨⟨o1, k1, c1', o2, k2, c2', x0, x1, x2, hn, hd⟩, ⟨o3, k3, c3', o4, k4, c4', y0, y1, y2, hm, hc⟩⟩ := hrow.two
      have HN := Lib.hid hn; have HD := Lib.hid hd; have HM := Lib.hid hm; have HC := Lib.hid hc
      have HX : Hid (w2.cell? ⟨g, 0, none⟩ = some (.bool p.1) ∧ w2.cell? ⟨g, 1, none⟩ = some (.slice o1 k1 c1') ∧ w2.cell? ⟨g, 2, none⟩ = some (.slice o2 k2 c2')) := ⟨x0, x1, x2⟩
      have HY : Hid (w2.cell? ⟨g, 3, none⟩ = some (.bool q.1) ∧ w2.cell? ⟨g, 4, none⟩ = some (.slice o3 k3 c3') ∧ w2.cell? ⟨g, 5, none⟩ = some (.slice o4 k4 c4')) := ⟨y0, y1, y2⟩
      have P3 := Lib.hid p3; have Q3' := Lib.hid q3; have P5 := Lib.hid p5; have Q5 := Lib.hid q5
      have HOO : Hid (∀ e w', OutS w (divF p q) e w' → OutS w (twoG ((⟨#[]⟩ : ByteArray), (1 : Int)) divF a b) e w') := fun _ _ h => by rw [HR.out]; exact h
      clear hp hq hrow hn hd hm hc p1 p2 p3 q1 q2 q3 p5 q5 HR
      have SG := Lib.hid (fun w' v h => sign_num (w := w') (v := v) (s := q.1) (n := q.2.1) (d := q.2.2) h (by omega))
      by_cases hz : signQ q = 0
      · have hzz : sgn q.1 q.2.1 = 0 := hz
        have HZ : Hid (divF p q = (⟨#[]⟩, 12)) := by show _ = _; unfold divF; rw [if_pos hz]
        rw [hzz] at SG
        clear hz hzz
        go_wp2_with fail
        refine (SG.out _ _ ⟨_, _, rfl, HM.out, HC.out⟩).mono ?_; rintro e w3 ⟨rfl, hb3⟩
        have HB3 := Lib.hid (bstep HB2.out hb3)
        clear hb3 x0 x1 x2 y0 y1 y2
        go_wp2_with fail
        go_ret2
        exact HOO.out _ _ ⟨by rw [HZ.out]; rfl, HB3.out⟩
      · have hq0 : q.2.1 ≠ 0 := fun h => hz ((sgn_zero Q5.out).2 h)
        have HZ : Hid (divF p q = out3 (divQ p q)) := by show _ = _; unfold divF; rw [if_neg hz]
        have hsz : (sgn q.1 q.2.1 == 0) = false := by rw [beq_eq_false_iff_ne]; exact hz
        have CF : Hid (∀ w' v u, Frac w' v p.1 p.2.1 p.2.2 → Frac w' u q.1 q.2.2 q.2.1 → Calls Try.prog 64 #[v, u] w' (RetF w' (divQ p q).1 (divQ p q).2.1 (divQ p q).2.2)) := fun w' v u h k => fracTimes_num (m := q.2.2) (c := q.2.1) h k (by omega) (by omega) (by omega) (by omega) P3.out (Nat.pos_of_ne_zero hq0)
        have LB : Hid (Len (divQ p q).2.1 ≤ 10000000000 ∧ Len (divQ p q).2.2 ≤ 10000000000) := by
          show _ ∧ _
          have h := mulQ_len p (invQ q)
          have e1 : (invQ q).2.1 = q.2.2 := rfl
          have e2 : (invQ q).2.2 = q.2.1 := rfl
          rw [e1, e2] at h
          unfold divQ; omega
        have WR : Hid (∀ w' v, Frac w' v (divQ p q).1 (divQ p q).2.1 (divQ p q).2.2 → Calls Try.prog 62 #[v] w' (OutS w' (out3 (divQ p q)))) := fun w' v h => write_num h LB.out.1 LB.out.2
        rw [HZ.out] at HOO
        clear hz hq0 LB HZ
        generalize divQ p q = z at *
        have HSG : Hid (∀ w' v, Frac w' v q.1 q.2.1 q.2.2 → Calls Try.prog 75 #[v] w' fun e w'' => e = .returned (.int .i64 (sgn q.1 q.2.1)) ∧ Below w'.heap.size w' w'') := fun w' v h => SG.out w' v h
        clear SG
        generalize sgn q.1 q.2.1 = sg at *
        go_wp2_with fail
        refine (HSG.out _ _ ⟨_, _, rfl, HM.out, HC.out⟩).mono ?_; rintro e w3 ⟨rfl, hb3⟩
        have HX3 := Lib.hid (keep3 HX.out hb3); have HY3 := Lib.hid (keep3 HY.out hb3)
        have HN3 := Lib.hid (HN.out.go hb3); have HD3 := Lib.hid (HD.out.go hb3); have HM3 := Lib.hid (HM.out.go hb3); have HC3 := Lib.hid (HC.out.go hb3)
        have HB3 := Lib.hid (bstep HB2.out hb3)
        clear hb3 x0 x1 x2 y0 y1 y2 HX HY HN HD HM HC
        go_wp2_with fail
        refine region_inv 11 34 [(23, Is (.slice (some ⟨g, 0, none⟩) 2 cap)), (24, Is (.pointer (some ⟨g, 0, none⟩))), (25, Is (.agg #[.bool p.1, .slice o1 k1 c1', .slice o2 k2 c2'])), (26, Is (.slice (some ⟨g, 0, none⟩) 2 cap)), (27, Is (.pointer (some ⟨g, 3, none⟩))), (28, Is (.agg #[.bool q.1, .slice o3 k3 c3', .slice o4 k4 c4'])), (29, IsFrac q.1 q.2.2 q.2.1), (30, IsFrac z.1 z.2.1 z.2.2), (31, Is (.tuple #[.string (out3 z).1, .int .i64 (out3 z).2])), (32, Is (.string (out3 z).1)), (33, Is (.int .i64 (out3 z).2))] (by kernel_rfl) rfl (by kernel_rfl) ?_ ?_
        · refine steps_cons rfl (fun a W hb hr hg K hK => ?_) <| steps_cons rfl (fun a W hb hr hg K hK => ?_) <| steps_cons rfl (fun a W hb hr hg K hK => ?_) <| steps_cons rfl (fun a W hb hr hg K hK => ?_) <| steps_cons rfl (fun a W hb hr hg K hK => ?_) <| steps_cons rfl (fun a W hb hr hg K hK => ?_) <| steps_cons rfl (fun a W hb hr hg K hK => ?_) <| steps_cons rfl (fun a W hb hr hg K hK => ?_) <| steps_cons rfl (fun a W hb hr hg K hK => ?_) <| steps_cons rfl (fun a W hb hr hg K hK => ?_) <| steps_cons rfl (fun a W hb hr hg K hK => ?_) trivial
          · have e : a.tmps[6]?.getD undef = .slice (some ⟨g, 0, none⟩) 2 cap := hb 6 (by kernel_rfl)
            clear hb hr; go_simp; exact hK _ _ (Below.refl _ _) rfl
          · have e : a.tmps[23]?.getD undef = .slice (some ⟨g, 0, none⟩) 2 cap := hr 23 (by kernel_rfl)
            clear hb hr; go_simp; exact hK _ _ (Below.refl _ _) rfl
          · have e : a.tmps[24]?.getD undef = _ := hr 24 (by kernel_rfl)
            obtain ⟨c0, c1, c2⟩ := keep3 HX3.out hg
            clear hb hr; go_simp; exact hK _ _ (Below.refl _ _) rfl
          · have e : a.tmps[6]?.getD undef = .slice (some ⟨g, 0, none⟩) 2 cap := hb 6 (by kernel_rfl)
            clear hb hr; go_simp; exact hK _ _ (Below.refl _ _) rfl
          · have e : a.tmps[26]?.getD undef = .slice (some ⟨g, 0, none⟩) 2 cap := hr 26 (by kernel_rfl)
            clear hb hr; go_simp; exact hK _ _ (Below.refl _ _) rfl
          · have e : a.tmps[27]?.getD undef = _ := hr 27 (by kernel_rfl)
            obtain ⟨c0, c1, c2⟩ := keep3 HY3.out hg
            clear hb hr; go_simp; exact hK _ _ (Below.refl _ _) rfl
          · have e : a.tmps[28]?.getD undef = _ := hr 28 (by kernel_rfl)
            clear hb hr; go_simp
            refine (inverse_num ⟨_, _, rfl, HM3.out.go hg, HC3.out.go hg⟩).mono ?_; rintro e w5 ⟨v5, rfl, hv5, hb5⟩
            exact hK _ _ hb5 hv5
          · have e : a.tmps[25]?.getD undef = _ := hr 25 (by kernel_rfl)
            have e2 : Frac W (a.tmps[29]?.getD undef) q.1 q.2.2 q.2.1 := hr 29 (by kernel_rfl)
            have E2 := Lib.hid e2
            clear hb hr e2; go_simp
            refine (CF.out _ _ _ ⟨_, _, rfl, HN3.out.go hg, HD3.out.go hg⟩ E2.out).mono ?_; rintro e w5 ⟨v5, rfl, hv5, hb5⟩
            exact hK _ _ hb5 hv5
          · have e : Frac W (a.tmps[30]?.getD undef) z.1 z.2.1 z.2.2 := hr 30 (by kernel_rfl)
            have E := Lib.hid e
            clear hb hr e; go_simp
            refine (WR.out _ _ E.out).mono ?_; rintro e w5 ⟨rfl, hb5⟩
            exact hK _ _ hb5 rfl
          · have e : a.tmps[31]?.getD undef = .tuple #[.string (out3 z).1, .int .i64 (out3 z).2] := hr 31 (by kernel_rfl)
            clear hb hr; go_simp; exact hK _ _ (Below.refl _ _) rfl
          · have e : a.tmps[31]?.getD undef = .tuple #[.string (out3 z).1, .int .i64 (out3 z).2] := hr 31 (by kernel_rfl)
            clear hb hr; go_simp; exact hK _ _ (Below.refl _ _) rfl
        · rintro g3 w9 hb9 ⟨-, -, -, -, -, -, -, -, -, h32, h33, -⟩
          simp only [List.drop_succ_cons, List.drop_zero, List.take_succ_cons, List.take_zero, putHead, Option.getD_some, Act.put, List.setIfInBounds_toArray, List.set_cons_zero, List.set_cons_succ]
          replace h32 : g3 32 = .string (out3 z).1 := h32
          replace h33 : g3 33 = .int .i64 (out3 z).2 := h33
          have HB9 := Lib.hid (bstep HB3.out hb9)
          clear hb9
          go_wp2_with fail
          go_ret2
          exact HOO.out _ _ ⟨by show Ending.returned (.tuple #[g3 32, g3 33]) = _; rw [h32, h33], HB9.out⟩

set_option maxHeartbeats 1000000 in
set_option maxRecDepth 100000 in
theorem sign_any (w : World) (a : ByteArray) (ha : a.size ≤ 140737488355328) : Calls Try.prog 39 #[.string a] w (OutI w (oneG ((0 : Int), (1 : Int)) (fun p => (signQ p, 0)) a)) := by
  have PS := Lib.hid (parse_num (Strs.new1 w a) (by simp) (by intro s hs; simp at hs; subst hs; assumption))
  have HB1 := Lib.hid (below_alloc w (.cells #[.string a] 9))
  have HA := Lib.hid ha; clear ha
  go_enter Try.func39, Try.ntmps39
  go_wp2_with fail
  generalize w.alloc (.cells #[.string a] 9) = w1 at *
  refine PS.out.mono ?_; rintro e w2 ⟨hb2, hm⟩
  have HB2 := Lib.hid (bstep HB1.out hb2)
  clear hb2 PS
  rw [readAll_one] at hm
  cases hp : readQ a.data.toList with
  | none =>
    rw [hp] at hm
    have HR : Hid (oneG ((0 : Int), (1 : Int)) (fun p => (signQ p, (0 : Int))) a = ((0 : Int), (1 : Int))) := by show _ = _; unfold oneG; rw [hp]
    obtain rfl : e = _ := hm
    clear hp
    go_wp2_with fail
    go_ret2
    exact ⟨by rw [HR.out]; rfl, HB2.out⟩
  | some p =>
    rw [hp] at hm
    have HR : Hid (oneG ((0 : Int), (1 : Int)) (fun p => (signQ p, (0 : Int))) a = (signQ p, 0)) := by show _ = _; unfold oneG; rw [hp]
    obtain ⟨g, cap, rfl, hrow⟩ := hm
    obtain ⟨p1, p2, p3, -, -, -⟩ := readQ_q hp
    have lp1 := len_dig p1
    obtain ⟨o1, k1, c1', o2, k2, c2', x0, x1, x2, hn, hd⟩ := hrow.one
    have CF : Hid (∀ w' v, Frac w' v p.1 p.2.1 p.2.2 → Calls Try.prog 75 #[v] w' fun e w'' => e = .returned (.int .i64 (signQ p)) ∧ Below w'.heap.size w' w'') := fun w' v h => sign_num h (by omega)
    have HN := Lib.hid hn; have HD := Lib.hid hd
    have HOO : Hid (∀ e w', OutI w (signQ p, 0) e w' → OutI w (oneG ((0 : Int), (1 : Int)) (fun p => (signQ p, (0 : Int))) a) e w') := fun _ _ h => by rw [HR.out]; exact h
    clear hp hrow hn hd p1 p2 p3 HR
    generalize signQ p = z at *
    go_wp2_with fail
    refine (CF.out _ _ ⟨_, _, rfl, HN.out, HD.out⟩).mono ?_; rintro e w3 ⟨rfl, hb3⟩
    have HB3 := Lib.hid (bstep HB2.out hb3)
    clear hb3 x0 x1 x2
    go_wp2_with fail
    go_ret2
    exact HOO.out _ _ ⟨rfl, HB3.out⟩
end Go.Proofs.Ytlkdahgfnfdakaa
