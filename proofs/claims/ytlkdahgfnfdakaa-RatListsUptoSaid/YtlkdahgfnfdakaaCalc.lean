import Derived.Test.YtlkdahgfnfdakaaA9
namespace Go.Proofs.Ytlkdahgfnfdakaa
open Go.RowKit Go.Shelf WN LM

/-- a calculation with two texts -/
def two (f : Q3 → Q3 → ByteArray × Int) (a b : ByteArray) : ByteArray × Int :=
  match readQ a.data.toList, readQ b.data.toList with
  | some p, some q => f p q
  | _, _ => (⟨#[]⟩, 1)
def oneT (f : Q3 → ByteArray × Int) (a : ByteArray) : ByteArray × Int :=
  match readQ a.data.toList with
  | some p => f p
  | none => (⟨#[]⟩, 1)
def out3 (q : Q3) : ByteArray × Int := outQ q.1 q.2.1 q.2.2
def addQ (p q : Q3) : Q3 := (sumS p.1 p.2.1 p.2.2 q.1 q.2.1 q.2.2, sumN p.1 p.2.1 p.2.2 q.1 q.2.1 q.2.2, sumD p.1 p.2.1 p.2.2 q.1 q.2.1 q.2.2)
def negQ (q : Q3) : Q3 := (!q.1 && decide (q.2.1 ≠ 0), q.2.1, q.2.2)
def subQ (p q : Q3) : Q3 := addQ p (negQ q)
def mulQ (p q : Q3) : Q3 :=
  (((p.1 && decide (p.2.1 ≠ 0)) != (q.1 && decide (q.2.1 ≠ 0))) && decide (p.2.1 / Nat.gcd p.2.1 q.2.2 * (q.2.1 / Nat.gcd q.2.1 p.2.2) ≠ 0), p.2.1 / Nat.gcd p.2.1 q.2.2 * (q.2.1 / Nat.gcd q.2.1 p.2.2), q.2.2 / Nat.gcd p.2.1 q.2.2 * (p.2.2 / Nat.gcd q.2.1 p.2.2))
def floorQ (p : Q3) : Q3 := (p.1 && decide (floorN p.1 p.2.1 p.2.2 ≠ 0), floorN p.1 p.2.1 p.2.2, 1)
def roundQ (p : Q3) : Q3 := (p.1 && decide (roundN p.2.1 p.2.2 ≠ 0), roundN p.2.1 p.2.2, 1)

theorem readQ_q {l : List UInt8} {q : Q3} (h : readQ l = some q) : Dig q.2.1 ≤ 300 ∧ Dig q.2.2 ≤ 300 ∧ 0 < q.2.2 ∧ Nat.gcd q.2.1 q.2.2 = 1 ∧ (q.1 = true → q.2.1 ≠ 0) ∧ l = ratText q.1 q.2.1 q.2.2 := readQ_spec (s := q.1) (n := q.2.1) (d := q.2.2) h
theorem len_div (a b : Nat) : Len (a / b) ≤ Len a := len_mono (Nat.div_le_self a b)
theorem mulQ_len (p q : Q3) : Len (mulQ p q).2.1 ≤ Len p.2.1 + Len q.2.1 ∧ Len (mulQ p q).2.2 ≤ Len q.2.2 + Len p.2.2 := by
  unfold mulQ
  have h1 := len_mul (p.2.1 / Nat.gcd p.2.1 q.2.2) (q.2.1 / Nat.gcd q.2.1 p.2.2)
  have h2 := len_mul (q.2.2 / Nat.gcd p.2.1 q.2.2) (p.2.2 / Nat.gcd q.2.1 p.2.2)
  have h3 := len_div p.2.1 (Nat.gcd p.2.1 q.2.2)
  have h4 := len_div q.2.1 (Nat.gcd q.2.1 p.2.2)
  have h5 := len_div q.2.2 (Nat.gcd p.2.1 q.2.2)
  have h6 := len_div p.2.2 (Nat.gcd q.2.1 p.2.2)
  exact ⟨by show Len (_ * _) ≤ _; omega, by show Len (_ * _) ≤ _; omega⟩
theorem addQ_len (p q : Q3) (h : 0 < p.2.2) : Len (addQ p q).2.1 ≤ max (Len p.2.1 + Len q.2.2) (Len q.2.1 + Len p.2.2) + 1 ∧ Len (addQ p q).2.2 ≤ Len p.2.2 + Len p.2.2 + Len q.2.2 + 1 := by
  have hg : 0 < Nat.gcd p.2.2 q.2.2 := Nat.gcd_pos_of_pos_left _ h
  have lg : Len (Nat.gcd p.2.2 q.2.2) ≤ Len p.2.2 := len_mono (Nat.gcd_le_left _ h)
  have lp : Len (plusN p.1 p.2.1 p.2.2 q.1 q.2.1 q.2.2) ≤ max (Len p.2.1 + Len q.2.2) (Len q.2.1 + Len p.2.2) + 1 := by
    unfold plusN plusX plusY
    have h1 := addN_len (p.1 && decide (p.2.1 * (q.2.2 / Nat.gcd p.2.2 q.2.2) ≠ 0)) (p.2.1 * (q.2.2 / Nat.gcd p.2.2 q.2.2)) (q.1 && decide (q.2.1 * (p.2.2 / Nat.gcd p.2.2 q.2.2) ≠ 0)) (q.2.1 * (p.2.2 / Nat.gcd p.2.2 q.2.2))
    have h2 := len_mul p.2.1 (q.2.2 / Nat.gcd p.2.2 q.2.2)
    have h3 := len_mul q.2.1 (p.2.2 / Nat.gcd p.2.2 q.2.2)
    have h4 := len_div q.2.2 (Nat.gcd p.2.2 q.2.2)
    have h5 := len_div p.2.2 (Nat.gcd p.2.2 q.2.2)
    omega
  unfold addQ sumN sumD
  refine ⟨Nat.le_trans (len_div _ _) lp, ?_⟩
  show Len (if _ then 1 else _) ≤ _
  split
  · have := len_small (show 1 < 1000000000 by omega); omega
  · have h1 := len_mul (Nat.gcd p.2.2 q.2.2 / Nat.gcd (plusN p.1 p.2.1 p.2.2 q.1 q.2.1 q.2.2) (Nat.gcd p.2.2 q.2.2) * (p.2.2 / Nat.gcd p.2.2 q.2.2)) (q.2.2 / Nat.gcd p.2.2 q.2.2)
    have h2 := len_mul (Nat.gcd p.2.2 q.2.2 / Nat.gcd (plusN p.1 p.2.1 p.2.2 q.1 q.2.1 q.2.2) (Nat.gcd p.2.2 q.2.2)) (p.2.2 / Nat.gcd p.2.2 q.2.2)
    have h3 := len_div (Nat.gcd p.2.2 q.2.2) (Nat.gcd (plusN p.1 p.2.1 p.2.2 q.1 q.2.1 q.2.2) (Nat.gcd p.2.2 q.2.2))
    have h4 := len_div q.2.2 (Nat.gcd p.2.2 q.2.2)
    have h5 := len_div p.2.2 (Nat.gcd p.2.2 q.2.2)
    omega
theorem floorN_len (s : Bool) (n d : Nat) : Len (floorN s n d) ≤ Len n + 2 := by
  have h1 := len_add (n / d) 1
  have h2 := len_div n d
  have h3 := len_small (show 1 < 1000000000 by omega)
  unfold floorN; split <;> omega
theorem roundN_len (n d : Nat) : Len (roundN n d) ≤ Len n + 2 := by
  have h1 := len_add (n / d) 1
  have h2 := len_div n d
  have h3 := len_small (show 1 < 1000000000 by omega)
  unfold roundN; split <;> omega

set_option maxHeartbeats 1000000 in
set_option maxRecDepth 100000 in
theorem calc_plus (w : World) (a b : ByteArray) (ha : a.size ≤ 140737488355328) (hb : b.size ≤ 140737488355328) : Calls Try.prog 69 #[.func (.func 70) #[] #[], .string a, .string b] w (OutS w (two (fun p q => out3 (addQ p q)) a b)) := by
  have PS := Lib.hid (parse_num (Strs.new2 w a b) (by simp) (by intro s hs; simp at hs; rcases hs with rfl | rfl <;> assumption))
  have HB1 := Lib.hid (below_alloc w (.cells #[.string a, .string b] 9))
  have HA := Lib.hid ha; have HBB := Lib.hid hb; clear ha hb
  go_enter Try.func69, Try.ntmps69
  go_wp2_with fail
  generalize w.alloc (.cells #[.string a, .string b] 9) = w1 at *
  refine PS.out.mono ?_; rintro e w2 ⟨hb2, hm⟩
  have HB2 := Lib.hid (bstep HB1.out hb2)
  clear hb2 PS
  rw [readAll_two] at hm
  cases hp : readQ a.data.toList with
  | none =>
    rw [hp] at hm
    have HR : Hid (two (fun p q => out3 (addQ p q)) a b = (⟨#[]⟩, 1)) := by show _ = _; unfold two; rw [hp]
    obtain rfl : e = _ := hm
    clear hp
    go_wp2_with fail
    go_ret2
    exact ⟨by rw [HR.out]; rfl, HB2.out⟩
  | some p =>
    cases hq : readQ b.data.toList with
    | none =>
      rw [hp, hq] at hm
      have HR : Hid (two (fun p q => out3 (addQ p q)) a b = (⟨#[]⟩, 1)) := by show _ = _; unfold two; rw [hp, hq]
      obtain rfl : e = _ := hm
      clear hp hq
      go_wp2_with fail
      go_ret2
      exact ⟨by rw [HR.out]; rfl, HB2.out⟩
    | some q =>
      rw [hp, hq] at hm
      have HR : Hid (two (fun p q => out3 (addQ p q)) a b = out3 (addQ p q)) := by show _ = _; unfold two; rw [hp, hq]
      obtain ⟨g, cap, rfl, hrow⟩ := hm
      obtain ⟨p1, p2, p3, -, -, -⟩ := readQ_q hp
      obtain ⟨q1, q2, q3, -, -, -⟩ := readQ_q hq
      have lp1 := len_dig p1; have lp2 := len_dig p2; have lq1 := len_dig q1; have lq2 := len_dig q2
      obtain ⟨⟨o1, k1, c1', o2, k2, c2', x0, x1, x2, hn, hd⟩, ⟨o3, k3, c3', o4, k4, c4', y0, y1, y2, hm, hc⟩⟩ := hrow.two
      have CF : Hid (∀ w' v u, Frac w' v p.1 p.2.1 p.2.2 → Frac w' u q.1 q.2.1 q.2.2 → Calls Try.prog 70 #[v, u] w' (RetF w' (addQ p q).1 (addQ p q).2.1 (addQ p q).2.2)) := fun w' v u h k => fracSum_num (w := w') (v := v) (u := u) (s := p.1) (n := p.2.1) (d := p.2.2) (t := q.1) (m := q.2.1) (c := q.2.2) h k (by omega) (by omega) (by omega) (by omega) p3
      have LB : Hid (Len (addQ p q).2.1 ≤ 10000000000 ∧ Len (addQ p q).2.2 ≤ 10000000000) := by show _ ∧ _; have := addQ_len p q p3; omega
      have WR := Lib.hid (fun w' v h => write_num (w := w') (v := v) (s := (addQ p q).1) (n := (addQ p q).2.1) (d := (addQ p q).2.2) h LB.out.1 LB.out.2)
      have HN := Lib.hid hn; have HD := Lib.hid hd; have HM := Lib.hid hm; have HC := Lib.hid hc
      have HX : Hid (w2.cell? ⟨g, 0, none⟩ = some (.bool p.1) ∧ w2.cell? ⟨g, 1, none⟩ = some (.slice o1 k1 c1') ∧ w2.cell? ⟨g, 2, none⟩ = some (.slice o2 k2 c2')) := ⟨x0, x1, x2⟩
      have HY : Hid (w2.cell? ⟨g, 3, none⟩ = some (.bool q.1) ∧ w2.cell? ⟨g, 4, none⟩ = some (.slice o3 k3 c3') ∧ w2.cell? ⟨g, 5, none⟩ = some (.slice o4 k4 c4')) := ⟨y0, y1, y2⟩
      have HOO : Hid (∀ e w', OutS w (out3 (addQ p q)) e w' → OutS w (two (fun p q => out3 (addQ p q)) a b) e w') := fun _ _ h => by rw [HR.out]; exact h
      clear hp hq hrow x0 x1 x2 y0 y1 y2 hn hd hm hc p1 p2 p3 q1 q2 q3 HR LB
      change ∀ w' v h, Calls Try.prog 62 #[v] w' (OutS w' (out3 (addQ p q))) at WR
      have WR := Lib.hid WR
      generalize hz : addQ p q = z at *
      clear hz
      go_wp2_with fail
      refine region_inv 11 31 [(20, Is (.func (.func 70) #[] #[])), (21, Is (.slice (some ⟨g, 0, none⟩) 2 cap)), (22, Is (.pointer (some ⟨g, 0, none⟩))), (23, Is (.agg #[.bool p.1, .slice o1 k1 c1', .slice o2 k2 c2'])),
        (24, Is (.slice (some ⟨g, 0, none⟩) 2 cap)), (25, Is (.pointer (some ⟨g, 3, none⟩))), (26, Is (.agg #[.bool q.1, .slice o3 k3 c3', .slice o4 k4 c4'])), (27, IsFrac z.1 z.2.1 z.2.2),
        (28, Is (.tuple #[.string (out3 z).1, .int .i64 (out3 z).2])), (29, Is (.string (out3 z).1)), (30, Is (.int .i64 (out3 z).2))] (by kernel_rfl) rfl (by kernel_rfl) ?_ ?_
      · refine steps_cons rfl (fun a W hb hr hg K hK => ?_) <| steps_cons rfl (fun a W hb hr hg K hK => ?_) <| steps_cons rfl (fun a W hb hr hg K hK => ?_) <| steps_cons rfl (fun a W hb hr hg K hK => ?_) <|
          steps_cons rfl (fun a W hb hr hg K hK => ?_) <| steps_cons rfl (fun a W hb hr hg K hK => ?_) <| steps_cons rfl (fun a W hb hr hg K hK => ?_) <| steps_cons rfl (fun a W hb hr hg K hK => ?_) <|
          steps_cons rfl (fun a W hb hr hg K hK => ?_) <| steps_cons rfl (fun a W hb hr hg K hK => ?_) <| steps_cons rfl (fun a W hb hr hg K hK => ?_) trivial
        · have e : a.tmps[0]?.getD undef = .func (.func 70) #[] #[] := hb 0 (by kernel_rfl)
          clear hb hr; go_simp; exact hK _ _ (Below.refl _ _) rfl
        · have e : a.tmps[8]?.getD undef = .slice (some ⟨g, 0, none⟩) 2 cap := hb 8 (by kernel_rfl)
          clear hb hr; go_simp; exact hK _ _ (Below.refl _ _) rfl
        · have e : a.tmps[21]?.getD undef = .slice (some ⟨g, 0, none⟩) 2 cap := hr 21 (by kernel_rfl)
          clear hb hr; go_simp; exact hK _ _ (Below.refl _ _) rfl
        · have e : a.tmps[22]?.getD undef = _ := hr 22 (by kernel_rfl)
          obtain ⟨c0, c1, c2⟩ := keep3 HX.out hg
          clear hb hr; go_simp; exact hK _ _ (Below.refl _ _) rfl
        · have e : a.tmps[8]?.getD undef = .slice (some ⟨g, 0, none⟩) 2 cap := hb 8 (by kernel_rfl)
          clear hb hr; go_simp; exact hK _ _ (Below.refl _ _) rfl
        · have e : a.tmps[24]?.getD undef = .slice (some ⟨g, 0, none⟩) 2 cap := hr 24 (by kernel_rfl)
          clear hb hr; go_simp; exact hK _ _ (Below.refl _ _) rfl
        · have e : a.tmps[25]?.getD undef = _ := hr 25 (by kernel_rfl)
          obtain ⟨c0, c1, c2⟩ := keep3 HY.out hg
          clear hb hr; go_simp; exact hK _ _ (Below.refl _ _) rfl
        · have e : a.tmps[20]?.getD undef = .func (.func 70) #[] #[] := hr 20 (by kernel_rfl)
          have e1 : a.tmps[23]?.getD undef = _ := hr 23 (by kernel_rfl)
          have e2 : a.tmps[26]?.getD undef = _ := hr 26 (by kernel_rfl)
          clear hb hr; go_simp
          refine (CF.out _ _ _ ⟨_, _, rfl, HN.out.go hg, HD.out.go hg⟩ ⟨_, _, rfl, HM.out.go hg, HC.out.go hg⟩).mono ?_; rintro e w5 ⟨v5, rfl, hv5, hb5⟩
          exact hK _ _ hb5 hv5
        · have e : Frac W (a.tmps[27]?.getD undef) z.1 z.2.1 z.2.2 := hr 27 (by kernel_rfl)
          have E := Lib.hid e
          clear hb hr e; go_simp
          refine (WR.out _ _ E.out).mono ?_; rintro e w5 ⟨rfl, hb5⟩
          exact hK _ _ hb5 rfl
        · have e : a.tmps[28]?.getD undef = .tuple #[.string (out3 z).1, .int .i64 (out3 z).2] := hr 28 (by kernel_rfl)
          clear hb hr; go_simp; exact hK _ _ (Below.refl _ _) rfl
        · have e : a.tmps[28]?.getD undef = .tuple #[.string (out3 z).1, .int .i64 (out3 z).2] := hr 28 (by kernel_rfl)
          clear hb hr; go_simp; exact hK _ _ (Below.refl _ _) rfl
      · rintro g3 w9 hb9 ⟨-, -, -, -, -, -, -, -, -, h29, h30, -⟩
        simp only [List.drop_succ_cons, List.drop_zero, List.take_succ_cons, List.take_zero, putHead, Option.getD_some, Act.put, List.setIfInBounds_toArray, List.set_cons_zero, List.set_cons_succ]
        replace h29 : g3 29 = .string (out3 z).1 := h29
        replace h30 : g3 30 = .int .i64 (out3 z).2 := h30
        have HB9 := Lib.hid (bstep HB2.out hb9)
        clear hb9
        go_wp2_with fail
        go_ret2
        exact HOO.out _ _ ⟨by show Ending.returned (.tuple #[g3 29, g3 30]) = _; rw [h29, h30], HB9.out⟩
end Go.Proofs.Ytlkdahgfnfdakaa

namespace Go.Proofs.Ytlkdahgfnfdakaa
open Go.RowKit Go.Shelf WN LM

set_option maxHeartbeats 1000000 in
set_option maxRecDepth 100000 in
theorem calc_minus (w : World) (a b : ByteArray) (ha : a.size ≤ 140737488355328) (hb : b.size ≤ 140737488355328) : Calls Try.prog 69 #[.func (.func 72) #[] #[], .string a, .string b] w (OutS w (two (fun p q => out3 (subQ p q)) a b)) := by
  have PS := Lib.hid (parse_num (Strs.new2 w a b) (by simp) (by intro s hs; simp at hs; rcases hs with rfl | rfl <;> assumption))
  have HB1 := Lib.hid (below_alloc w (.cells #[.string a, .string b] 9))
  have HA := Lib.hid ha; have HBB := Lib.hid hb; clear ha hb
  go_enter Try.func69, Try.ntmps69
  go_wp2_with fail
  generalize w.alloc (.cells #[.string a, .string b] 9) = w1 at *
  refine PS.out.mono ?_; rintro e w2 ⟨hb2, hm⟩
  have HB2 := Lib.hid (bstep HB1.out hb2)
  clear hb2 PS
  rw [readAll_two] at hm
  cases hp : readQ a.data.toList with
  | none =>
    rw [hp] at hm
    have HR : Hid (two (fun p q => out3 (subQ p q)) a b = (⟨#[]⟩, 1)) := by show _ = _; unfold two; rw [hp]
    obtain rfl : e = _ := hm
    clear hp
    go_wp2_with fail
    go_ret2
    exact ⟨by rw [HR.out]; rfl, HB2.out⟩
  | some p =>
    cases hq : readQ b.data.toList with
    | none =>
      rw [hp, hq] at hm
      have HR : Hid (two (fun p q => out3 (subQ p q)) a b = (⟨#[]⟩, 1)) := by show _ = _; unfold two; rw [hp, hq]
      obtain rfl : e = _ := hm
      clear hp hq
      go_wp2_with fail
      go_ret2
      exact ⟨by rw [HR.out]; rfl, HB2.out⟩
    | some q =>
      rw [hp, hq] at hm
      have HR : Hid (two (fun p q => out3 (subQ p q)) a b = out3 (subQ p q)) := by show _ = _; unfold two; rw [hp, hq]
      obtain ⟨g, cap, rfl, hrow⟩ := hm
      obtain ⟨p1, p2, p3, -, -, -⟩ := readQ_q hp
      obtain ⟨q1, q2, q3, -, -, -⟩ := readQ_q hq
      have lp1 := len_dig p1; have lp2 := len_dig p2; have lq1 := len_dig q1; have lq2 := len_dig q2
      obtain ⟨⟨o1, k1, c1', o2, k2, c2', x0, x1, x2, hn, hd⟩, ⟨o3, k3, c3', o4, k4, c4', y0, y1, y2, hm, hc⟩⟩ := hrow.two
      have CF : Hid (∀ w' v u, Frac w' v p.1 p.2.1 p.2.2 → Frac w' u q.1 q.2.1 q.2.2 → Calls Try.prog 72 #[v, u] w' (RetF w' (subQ p q).1 (subQ p q).2.1 (subQ p q).2.2)) := fun w' v u h k => fracMinus_num (w := w') (v := v) (u := u) (s := p.1) (n := p.2.1) (d := p.2.2) (t := q.1) (m := q.2.1) (c := q.2.2) h k (by omega) (by omega) (by omega) (by omega) p3
      have LB : Hid (Len (subQ p q).2.1 ≤ 10000000000 ∧ Len (subQ p q).2.2 ≤ 10000000000) := by show _ ∧ _; have := addQ_len p (negQ q) p3; have e1 : (negQ q).2.1 = q.2.1 := rfl; have e2 : (negQ q).2.2 = q.2.2 := rfl; unfold subQ; rw [e1, e2] at this; omega
      have WR := Lib.hid (fun w' v h => write_num (w := w') (v := v) (s := (subQ p q).1) (n := (subQ p q).2.1) (d := (subQ p q).2.2) h LB.out.1 LB.out.2)
      have HN := Lib.hid hn; have HD := Lib.hid hd; have HM := Lib.hid hm; have HC := Lib.hid hc
      have HX : Hid (w2.cell? ⟨g, 0, none⟩ = some (.bool p.1) ∧ w2.cell? ⟨g, 1, none⟩ = some (.slice o1 k1 c1') ∧ w2.cell? ⟨g, 2, none⟩ = some (.slice o2 k2 c2')) := ⟨x0, x1, x2⟩
      have HY : Hid (w2.cell? ⟨g, 3, none⟩ = some (.bool q.1) ∧ w2.cell? ⟨g, 4, none⟩ = some (.slice o3 k3 c3') ∧ w2.cell? ⟨g, 5, none⟩ = some (.slice o4 k4 c4')) := ⟨y0, y1, y2⟩
      have HOO : Hid (∀ e w', OutS w (out3 (subQ p q)) e w' → OutS w (two (fun p q => out3 (subQ p q)) a b) e w') := fun _ _ h => by rw [HR.out]; exact h
      clear hp hq hrow x0 x1 x2 y0 y1 y2 hn hd hm hc p1 p2 p3 q1 q2 q3 HR LB
      change ∀ w' v h, Calls Try.prog 62 #[v] w' (OutS w' (out3 (subQ p q))) at WR
      have WR := Lib.hid WR
      generalize hz : subQ p q = z at *
      clear hz
      go_wp2_with fail
      refine region_inv 11 31 [(20, Is (.func (.func 72) #[] #[])), (21, Is (.slice (some ⟨g, 0, none⟩) 2 cap)), (22, Is (.pointer (some ⟨g, 0, none⟩))), (23, Is (.agg #[.bool p.1, .slice o1 k1 c1', .slice o2 k2 c2'])),
        (24, Is (.slice (some ⟨g, 0, none⟩) 2 cap)), (25, Is (.pointer (some ⟨g, 3, none⟩))), (26, Is (.agg #[.bool q.1, .slice o3 k3 c3', .slice o4 k4 c4'])), (27, IsFrac z.1 z.2.1 z.2.2),
        (28, Is (.tuple #[.string (out3 z).1, .int .i64 (out3 z).2])), (29, Is (.string (out3 z).1)), (30, Is (.int .i64 (out3 z).2))] (by kernel_rfl) rfl (by kernel_rfl) ?_ ?_
      · refine steps_cons rfl (fun a W hb hr hg K hK => ?_) <| steps_cons rfl (fun a W hb hr hg K hK => ?_) <| steps_cons rfl (fun a W hb hr hg K hK => ?_) <| steps_cons rfl (fun a W hb hr hg K hK => ?_) <|
          steps_cons rfl (fun a W hb hr hg K hK => ?_) <| steps_cons rfl (fun a W hb hr hg K hK => ?_) <| steps_cons rfl (fun a W hb hr hg K hK => ?_) <| steps_cons rfl (fun a W hb hr hg K hK => ?_) <|
          steps_cons rfl (fun a W hb hr hg K hK => ?_) <| steps_cons rfl (fun a W hb hr hg K hK => ?_) <| steps_cons rfl (fun a W hb hr hg K hK => ?_) trivial
        · have e : a.tmps[0]?.getD undef = .func (.func 72) #[] #[] := hb 0 (by kernel_rfl)
          clear hb hr; go_simp; exact hK _ _ (Below.refl _ _) rfl
        · have e : a.tmps[8]?.getD undef = .slice (some ⟨g, 0, none⟩) 2 cap := hb 8 (by kernel_rfl)
          clear hb hr; go_simp; exact hK _ _ (Below.refl _ _) rfl
        · have e : a.tmps[21]?.getD undef = .slice (some ⟨g, 0, none⟩) 2 cap := hr 21 (by kernel_rfl)
          clear hb hr; go_simp; exact hK _ _ (Below.refl _ _) rfl
        · have e : a.tmps[22]?.getD undef = _ := hr 22 (by kernel_rfl)
          obtain ⟨c0, c1, c2⟩ := keep3 HX.out hg
          clear hb hr; go_simp; exact hK _ _ (Below.refl _ _) rfl
        · have e : a.tmps[8]?.getD undef = .slice (some ⟨g, 0, none⟩) 2 cap := hb 8 (by kernel_rfl)
          clear hb hr; go_simp; exact hK _ _ (Below.refl _ _) rfl
        · have e : a.tmps[24]?.getD undef = .slice (some ⟨g, 0, none⟩) 2 cap := hr 24 (by kernel_rfl)
          clear hb hr; go_simp; exact hK _ _ (Below.refl _ _) rfl
        · have e : a.tmps[25]?.getD undef = _ := hr 25 (by kernel_rfl)
          obtain ⟨c0, c1, c2⟩ := keep3 HY.out hg
          clear hb hr; go_simp; exact hK _ _ (Below.refl _ _) rfl
        · have e : a.tmps[20]?.getD undef = .func (.func 72) #[] #[] := hr 20 (by kernel_rfl)
          have e1 : a.tmps[23]?.getD undef = _ := hr 23 (by kernel_rfl)
          have e2 : a.tmps[26]?.getD undef = _ := hr 26 (by kernel_rfl)
          clear hb hr; go_simp
          refine (CF.out _ _ _ ⟨_, _, rfl, HN.out.go hg, HD.out.go hg⟩ ⟨_, _, rfl, HM.out.go hg, HC.out.go hg⟩).mono ?_; rintro e w5 ⟨v5, rfl, hv5, hb5⟩
          exact hK _ _ hb5 hv5
        · have e : Frac W (a.tmps[27]?.getD undef) z.1 z.2.1 z.2.2 := hr 27 (by kernel_rfl)
          have E := Lib.hid e
          clear hb hr e; go_simp
          refine (WR.out _ _ E.out).mono ?_; rintro e w5 ⟨rfl, hb5⟩
          exact hK _ _ hb5 rfl
        · have e : a.tmps[28]?.getD undef = .tuple #[.string (out3 z).1, .int .i64 (out3 z).2] := hr 28 (by kernel_rfl)
          clear hb hr; go_simp; exact hK _ _ (Below.refl _ _) rfl
        · have e : a.tmps[28]?.getD undef = .tuple #[.string (out3 z).1, .int .i64 (out3 z).2] := hr 28 (by kernel_rfl)
          clear hb hr; go_simp; exact hK _ _ (Below.refl _ _) rfl
      · rintro g3 w9 hb9 ⟨-, -, -, -, -, -, -, -, -, h29, h30, -⟩
        simp only [List.drop_succ_cons, List.drop_zero, List.take_succ_cons, List.take_zero, putHead, Option.getD_some, Act.put, List.setIfInBounds_toArray, List.set_cons_zero, List.set_cons_succ]
        replace h29 : g3 29 = .string (out3 z).1 := h29
        replace h30 : g3 30 = .int .i64 (out3 z).2 := h30
        have HB9 := Lib.hid (bstep HB2.out hb9)
        clear hb9
        go_wp2_with fail
        go_ret2
        exact HOO.out _ _ ⟨by show Ending.returned (.tuple #[g3 29, g3 30]) = _; rw [h29, h30], HB9.out⟩

set_option maxHeartbeats 1000000 in
set_option maxRecDepth 100000 in
theorem calc_times (w : World) (a b : ByteArray) (ha : a.size ≤ 140737488355328) (hb : b.size ≤ 140737488355328) : Calls Try.prog 69 #[.func (.func 64) #[] #[], .string a, .string b] w (OutS w (two (fun p q => out3 (mulQ p q)) a b)) := by
  have PS := Lib.hid (parse_num (Strs.new2 w a b) (by simp) (by intro s hs; simp at hs; rcases hs with rfl | rfl <;> assumption))
  have HB1 := Lib.hid (below_alloc w (.cells #[.string a, .string b] 9))
  have HA := Lib.hid ha; have HBB := Lib.hid hb; clear ha hb
  go_enter Try.func69, Try.ntmps69
  go_wp2_with fail
  generalize w.alloc (.cells #[.string a, .string b] 9) = w1 at *
  refine PS.out.mono ?_; rintro e w2 ⟨hb2, hm⟩
  have HB2 := Lib.hid (bstep HB1.out hb2)
  clear hb2 PS
  rw [readAll_two] at hm
  cases hp : readQ a.data.toList with
  | none =>
    rw [hp] at hm
    have HR : Hid (two (fun p q => out3 (mulQ p q)) a b = (⟨#[]⟩, 1)) := by show _ = _; unfold two; rw [hp]
    obtain rfl : e = _ := hm
    clear hp
    go_wp2_with fail
    go_ret2
    exact ⟨by rw [HR.out]; rfl, HB2.out⟩
  | some p =>
    cases hq : readQ b.data.toList with
    | none =>
      rw [hp, hq] at hm
      have HR : Hid (two (fun p q => out3 (mulQ p q)) a b = (⟨#[]⟩, 1)) := by show _ = _; unfold two; rw [hp, hq]
      obtain rfl : e = _ := hm
      clear hp hq
      go_wp2_with fail
      go_ret2
      exact ⟨by rw [HR.out]; rfl, HB2.out⟩
    | some q =>
      rw [hp, hq] at hm
      have HR : Hid (two (fun p q => out3 (mulQ p q)) a b = out3 (mulQ p q)) := by show _ = _; unfold two; rw [hp, hq]
      obtain ⟨g, cap, rfl, hrow⟩ := hm
      obtain ⟨p1, p2, p3, -, -, -⟩ := readQ_q hp
      obtain ⟨q1, q2, q3, -, -, -⟩ := readQ_q hq
      have lp1 := len_dig p1; have lp2 := len_dig p2; have lq1 := len_dig q1; have lq2 := len_dig q2
      obtain ⟨⟨o1, k1, c1', o2, k2, c2', x0, x1, x2, hn, hd⟩, ⟨o3, k3, c3', o4, k4, c4', y0, y1, y2, hm, hc⟩⟩ := hrow.two
      have CF : Hid (∀ w' v u, Frac w' v p.1 p.2.1 p.2.2 → Frac w' u q.1 q.2.1 q.2.2 → Calls Try.prog 64 #[v, u] w' (RetF w' (mulQ p q).1 (mulQ p q).2.1 (mulQ p q).2.2)) := fun w' v u h k => fracTimes_num (w := w') (v := v) (u := u) (s := p.1) (n := p.2.1) (d := p.2.2) (t := q.1) (m := q.2.1) (c := q.2.2) h k (by omega) (by omega) (by omega) (by omega) p3 q3
      have LB : Hid (Len (mulQ p q).2.1 ≤ 10000000000 ∧ Len (mulQ p q).2.2 ≤ 10000000000) := by show _ ∧ _; have := mulQ_len p q; omega
      have WR := Lib.hid (fun w' v h => write_num (w := w') (v := v) (s := (mulQ p q).1) (n := (mulQ p q).2.1) (d := (mulQ p q).2.2) h LB.out.1 LB.out.2)
      have HN := Lib.hid hn; have HD := Lib.hid hd; have HM := Lib.hid hm; have HC := Lib.hid hc
      have HX : Hid (w2.cell? ⟨g, 0, none⟩ = some (.bool p.1) ∧ w2.cell? ⟨g, 1, none⟩ = some (.slice o1 k1 c1') ∧ w2.cell? ⟨g, 2, none⟩ = some (.slice o2 k2 c2')) := ⟨x0, x1, x2⟩
      have HY : Hid (w2.cell? ⟨g, 3, none⟩ = some (.bool q.1) ∧ w2.cell? ⟨g, 4, none⟩ = some (.slice o3 k3 c3') ∧ w2.cell? ⟨g, 5, none⟩ = some (.slice o4 k4 c4')) := ⟨y0, y1, y2⟩
      have HOO : Hid (∀ e w', OutS w (out3 (mulQ p q)) e w' → OutS w (two (fun p q => out3 (mulQ p q)) a b) e w') := fun _ _ h => by rw [HR.out]; exact h
      clear hp hq hrow x0 x1 x2 y0 y1 y2 hn hd hm hc p1 p2 p3 q1 q2 q3 HR LB
      change ∀ w' v h, Calls Try.prog 62 #[v] w' (OutS w' (out3 (mulQ p q))) at WR
      have WR := Lib.hid WR
      generalize hz : mulQ p q = z at *
      clear hz
      go_wp2_with fail
      refine region_inv 11 31 [(20, Is (.func (.func 64) #[] #[])), (21, Is (.slice (some ⟨g, 0, none⟩) 2 cap)), (22, Is (.pointer (some ⟨g, 0, none⟩))), (23, Is (.agg #[.bool p.1, .slice o1 k1 c1', .slice o2 k2 c2'])),
        (24, Is (.slice (some ⟨g, 0, none⟩) 2 cap)), (25, Is (.pointer (some ⟨g, 3, none⟩))), (26, Is (.agg #[.bool q.1, .slice o3 k3 c3', .slice o4 k4 c4'])), (27, IsFrac z.1 z.2.1 z.2.2),
        (28, Is (.tuple #[.string (out3 z).1, .int .i64 (out3 z).2])), (29, Is (.string (out3 z).1)), (30, Is (.int .i64 (out3 z).2))] (by kernel_rfl) rfl (by kernel_rfl) ?_ ?_
      · refine steps_cons rfl (fun a W hb hr hg K hK => ?_) <| steps_cons rfl (fun a W hb hr hg K hK => ?_) <| steps_cons rfl (fun a W hb hr hg K hK => ?_) <| steps_cons rfl (fun a W hb hr hg K hK => ?_) <|
          steps_cons rfl (fun a W hb hr hg K hK => ?_) <| steps_cons rfl (fun a W hb hr hg K hK => ?_) <| steps_cons rfl (fun a W hb hr hg K hK => ?_) <| steps_cons rfl (fun a W hb hr hg K hK => ?_) <|
          steps_cons rfl (fun a W hb hr hg K hK => ?_) <| steps_cons rfl (fun a W hb hr hg K hK => ?_) <| steps_cons rfl (fun a W hb hr hg K hK => ?_) trivial
        · have e : a.tmps[0]?.getD undef = .func (.func 64) #[] #[] := hb 0 (by kernel_rfl)
          clear hb hr; go_simp; exact hK _ _ (Below.refl _ _) rfl
        · have e : a.tmps[8]?.getD undef = .slice (some ⟨g, 0, none⟩) 2 cap := hb 8 (by kernel_rfl)
          clear hb hr; go_simp; exact hK _ _ (Below.refl _ _) rfl
        · have e : a.tmps[21]?.getD undef = .slice (some ⟨g, 0, none⟩) 2 cap := hr 21 (by kernel_rfl)
          clear hb hr; go_simp; exact hK _ _ (Below.refl _ _) rfl
        · have e : a.tmps[22]?.getD undef = _ := hr 22 (by kernel_rfl)
          obtain ⟨c0, c1, c2⟩ := keep3 HX.out hg
          clear hb hr; go_simp; exact hK _ _ (Below.refl _ _) rfl
        · have e : a.tmps[8]?.getD undef = .slice (some ⟨g, 0, none⟩) 2 cap := hb 8 (by kernel_rfl)
          clear hb hr; go_simp; exact hK _ _ (Below.refl _ _) rfl
        · have e : a.tmps[24]?.getD undef = .slice (some ⟨g, 0, none⟩) 2 cap := hr 24 (by kernel_rfl)
          clear hb hr; go_simp; exact hK _ _ (Below.refl _ _) rfl
        · have e : a.tmps[25]?.getD undef = _ := hr 25 (by kernel_rfl)
          obtain ⟨c0, c1, c2⟩ := keep3 HY.out hg
          clear hb hr; go_simp; exact hK _ _ (Below.refl _ _) rfl
        · have e : a.tmps[20]?.getD undef = .func (.func 64) #[] #[] := hr 20 (by kernel_rfl)
          have e1 : a.tmps[23]?.getD undef = _ := hr 23 (by kernel_rfl)
          have e2 : a.tmps[26]?.getD undef = _ := hr 26 (by kernel_rfl)
          clear hb hr; go_simp
          refine (CF.out _ _ _ ⟨_, _, rfl, HN.out.go hg, HD.out.go hg⟩ ⟨_, _, rfl, HM.out.go hg, HC.out.go hg⟩).mono ?_; rintro e w5 ⟨v5, rfl, hv5, hb5⟩
          exact hK _ _ hb5 hv5
        · have e : Frac W (a.tmps[27]?.getD undef) z.1 z.2.1 z.2.2 := hr 27 (by kernel_rfl)
          have E := Lib.hid e
          clear hb hr e; go_simp
          refine (WR.out _ _ E.out).mono ?_; rintro e w5 ⟨rfl, hb5⟩
          exact hK _ _ hb5 rfl
        · have e : a.tmps[28]?.getD undef = .tuple #[.string (out3 z).1, .int .i64 (out3 z).2] := hr 28 (by kernel_rfl)
          clear hb hr; go_simp; exact hK _ _ (Below.refl _ _) rfl
        · have e : a.tmps[28]?.getD undef = .tuple #[.string (out3 z).1, .int .i64 (out3 z).2] := hr 28 (by kernel_rfl)
          clear hb hr; go_simp; exact hK _ _ (Below.refl _ _) rfl
      · rintro g3 w9 hb9 ⟨-, -, -, -, -, -, -, -, -, h29, h30, -⟩
        simp only [List.drop_succ_cons, List.drop_zero, List.take_succ_cons, List.take_zero, putHead, Option.getD_some, Act.put, List.setIfInBounds_toArray, List.set_cons_zero, List.set_cons_succ]
        replace h29 : g3 29 = .string (out3 z).1 := h29
        replace h30 : g3 30 = .int .i64 (out3 z).2 := h30
        have HB9 := Lib.hid (bstep HB2.out hb9)
        clear hb9
        go_wp2_with fail
        go_ret2
        exact HOO.out _ _ ⟨by show Ending.returned (.tuple #[g3 29, g3 30]) = _; rw [h29, h30], HB9.out⟩
end Go.Proofs.Ytlkdahgfnfdakaa
