/- The reference's Pow of texts. -/
import Derived.Test.YtlkdahgfnfdakaaRefZ1
namespace Go.Proofs.Ytlkdahgfnfdakaa
open Go Go.RowKit Go.Shelf WN LM

theorem RNum.set1 {w : World} {v : Value} {n p : Nat} (h : RNum w v n) {s : Bool} {o1 o2 : Option Addr} {k1 k2 c1 c2 : Nat} (hb : BoxQ w p (.bool s) (.slice o1 k1 c1) (.slice o2 k2 c2)) (k : Nat) (x : Value) :
    RNum (w.setCell ⟨p, k, none⟩ x) v n := by
  obtain ⟨l, ⟨oa, ca, rfl, hc, hcell⟩, hl⟩ := h
  refine ⟨l, ⟨oa, ca, rfl, hc, fun i hi => ?_⟩, hl⟩
  obtain ⟨b, off, rfl, e⟩ := hcell i hi
  refine ⟨b, off, rfl, ?_⟩
  have hne : p ≠ b := by
    rintro rfl
    rw [cell_of_row _ _ _ _ _ _ hb] at e
    rcases Nat.lt_or_ge (off + i) 3 with h | h
    · rcases (show off + i = 0 ∨ off + i = 1 ∨ off + i = 2 by omega) with h | h | h <;> (rw [h] at e; simp at e)
    · rw [Array.getElem?_eq_none (by simpa using h)] at e; cases e
  rw [World.cell?_setCell_far _ _ _ _ hne]
  exact e
theorem BoxQ.far {w : World} {p q : Nat} {a b c : Value} (h : BoxQ w p a b c) (hq : p ≠ q) (k : Nat) (x : Value) : BoxQ (w.setCell ⟨q, k, none⟩ x) p a b c := (heap_setCell_other w ⟨q, k, none⟩ p x hq).trans h
theorem BoxQ.set1 {w : World} {p : Nat} {a b c : Value} (h : BoxQ w p a b c) (x : Value) : BoxQ (w.setCell ⟨p, 1, none⟩ x) p a x c := heap_setCell_same w p 1 _ 60 x h
theorem BoxQ.set2 {w : World} {p : Nat} {a b c : Value} (h : BoxQ w p a b c) (x : Value) : BoxQ (w.setCell ⟨p, 2, none⟩ x) p a b x := heap_setCell_same w p 2 _ 60 x h
theorem QB.put {w W : World} {B : Nat} {q r : Q3} {o1 o2 : Option Addr} {k1 c1 k2 c2 : Nat} (h : QB W B q) (hn : RNum W (.slice o1 k1 c1) r.2.1) (hd : RNum W (.slice o2 k2 c2) r.2.2) (hb : Below w.heap.size w W) (hp : w.heap.size ≤ B) :
    QB (((W.setCell ⟨B, 0, none⟩ (.bool r.1)).setCell ⟨B, 1, none⟩ (.slice o1 k1 c1)).setCell ⟨B, 2, none⟩ (.slice o2 k2 c2)) B r ∧ Below w.heap.size w (((W.setCell ⟨B, 0, none⟩ (.bool r.1)).setCell ⟨B, 1, none⟩ (.slice o1 k1 c1)).setCell ⟨B, 2, none⟩ (.slice o2 k2 c2)) := by
  obtain ⟨_, _, _, _, _, _, bx, -, -⟩ := h
  exact ⟨⟨_, _, _, _, _, _, bx.set _ _ _, hn.set3 bx _ _ _, hd.set3 bx _ _ _⟩, three_below _ _ _ hb hp⟩
theorem QB.all {W : World} {B : Nat} {q : Q3} (h : QB W B q) : ∃ o1 k1 c1 o2 k2 c2, (W.cell? ⟨B, 0, none⟩ = some (.bool q.1) ∧ W.cell? ⟨B, 1, none⟩ = some (.slice o1 k1 c1) ∧ W.cell? ⟨B, 2, none⟩ = some (.slice o2 k2 c2) ∧ W.frozen? ⟨B, 0, none⟩ = false ∧ W.frozen? ⟨B, 1, none⟩ = false ∧ W.frozen? ⟨B, 2, none⟩ = false) ∧ RNum W (.slice o1 k1 c1) q.2.1 ∧ RNum W (.slice o2 k2 c2) q.2.2 := by
  obtain ⟨o1, k1, c1, o2, k2, c2, h1, h2, h3⟩ := h
  exact ⟨_, _, _, _, _, _, h1.facts, h2, h3⟩
/-- where the loop of Pow stands -/
def PowI (w : World) (A B : Nat) (x : Q3) (sg : Bool) (i j : Nat) (W : World) : Prop := QB W A x ∧ QB W B (sg, x.2.1 ^ i, x.2.2 ^ j) ∧ Below w.heap.size w W
theorem PowI.go {w : World} {A B : Nat} {x : Q3} {sg : Bool} {i j : Nat} {W W' : World} (h : PowI w A B x sg i j W) (hb : Below W.heap.size W W') : PowI w A B x sg i j W' := ⟨h.1.go hb, h.2.1.go hb, bstep h.2.2 hb⟩
theorem PowI.num {w : World} {A B : Nat} {x : Q3} {sg : Bool} {i j : Nat} {W : World} (h : PowI w A B x sg i j W) (hB : w.heap.size ≤ B) (hA : A ≠ B) {o : Option Addr} {k c : Nat} (hv : RNum W (.slice o k c) (x.2.1 ^ i * x.2.1)) : PowI w A B x sg (i + 1) j (W.setCell ⟨B, 1, none⟩ (.slice o k c)) := by
  obtain ⟨⟨_, _, _, _, _, _, b1, n1, d1⟩, ⟨_, _, _, _, _, _, b2, n2, d2⟩, hb⟩ := h
  refine ⟨⟨_, _, _, _, _, _, b1.far hA _ _, n1.set1 b2 _ _, d1.set1 b2 _ _⟩, ⟨_, _, _, _, _, _, b2.set1 _, ?_, d2.set1 b2 _ _⟩, hb.setCell (p := ⟨B, 1, none⟩) hB _⟩
  show RNum _ _ (x.2.1 ^ (i + 1))
  rw [Nat.pow_succ]
  exact hv.set1 b2 _ _
theorem PowI.den {w : World} {A B : Nat} {x : Q3} {sg : Bool} {i j : Nat} {W : World} (h : PowI w A B x sg i j W) (hB : w.heap.size ≤ B) (hA : A ≠ B) {o : Option Addr} {k c : Nat} (hv : RNum W (.slice o k c) (x.2.2 ^ j * x.2.2)) : PowI w A B x sg i (j + 1) (W.setCell ⟨B, 2, none⟩ (.slice o k c)) := by
  obtain ⟨⟨_, _, _, _, _, _, b1, n1, d1⟩, ⟨_, _, _, _, _, _, b2, n2, d2⟩, hb⟩ := h
  refine ⟨⟨_, _, _, _, _, _, b1.far hA _ _, n1.set1 b2 _ _, d1.set1 b2 _ _⟩, ⟨_, _, _, _, _, _, b2.set2 _, n2.set1 b2 _ _, ?_⟩, hb.setCell (p := ⟨B, 2, none⟩) hB _⟩
  show RNum _ _ (x.2.2 ^ (j + 1))
  rw [Nat.pow_succ]
  exact hv.set1 b2 _ _
theorem rlen_npow {n k : Nat} (h : RLen n ≤ k) : ∀ i, RLen (n ^ i) ≤ k * i + 1
  | 0 => by rw [Nat.pow_zero, rlen_one]; omega
  | i + 1 => by
    have h1 := rlen_npow h i
    have h2 := rlen_mul (n ^ i) n
    rw [Nat.pow_succ, Nat.mul_succ]; omega
theorem one_over {p : Q3} (hp : Can p) (h0 : p.2.1 ≠ 0) : divQ oneQ p = invQ p := by
  obtain ⟨h1, h2⟩ := divQ_spec can_oneQ hp h0
  obtain ⟨h3, h4⟩ := invQ_spec hp h0
  refine toR_inj h1 h3 ?_
  rw [h2, h4]
  have : toR oneQ = 1 := rfl
  rw [this, Rat.div_def, Rat.one_mul]

set_option maxHeartbeats 8000000 in
set_option maxRecDepth 100000 in
theorem rPow_any (w : World) (a : ByteArray) (n : Int) (ha : a.size ≤ 140737488355328) : Calls Try.prog 38 #[.string a, .int .i64 n] w (OutS w (powT a n)) := by
  have RA := Lib.hid (rread_any a w ha)
  clear ha
  go_enter Try.func38, Try.ntmps38
  go_wp2_with fail
  refine RA.out.mono ?_; rintro e w1 ⟨v1, hb1, h⟩
  have HB1 := Lib.hid hb1; clear hb1
  cases hp : readQ a.data.toList with
  | none =>
    rw [hp] at h
    have HR : Hid (powT a n = ((⟨#[]⟩ : ByteArray), (1 : Int))) := by show _ = _; unfold powT oneG; rw [hp]
    obtain ⟨rfl, rfl⟩ := h
    clear hp
    have HB2 := Lib.hid (bstep HB1.out (below_alloc w1 (.cells #[.bool false, .slice none 0 0, .slice none 0 0] 60)))
    go_wp2_with fail
    go_ret2
    exact ⟨by rw [HR.out]; rfl, HB2.out⟩
  | some p =>
    rw [hp] at h
    obtain ⟨rfl, o1, k1, c1, o2, k2, c2, rfl, hn, hd⟩ := h
    obtain ⟨qb, b1⟩ := QB.new (W := w1) (q := p) hn hd
    have HB2 := Lib.hid (bstep HB1.out b1); have QP0 := Lib.hid qb
    have FP : Hid (RFrac (w1.alloc (.cells #[.bool p.1, .slice o1 k1 c1, .slice o2 k2 c2] 60)) (.agg #[.bool p.1, .slice o1 k1 c1, .slice o2 k2 c2]) p.1 p.2.1 p.2.2) := ⟨_, _, _, _, _, _, rfl, hn.go b1, hd.go b1⟩
    obtain ⟨x0, x1, x2, -, -, -⟩ := (BoxQ.new w1 (.bool p.1) (.slice o1 k1 c1) (.slice o2 k2 c2)).facts
    have cp := readQ_can hp
    clear hn hd b1 qb
    have kp : Ok 100 p := ok_read hp
    have N1 : Hid (∀ W, Calls Try.prog 58 #[.int .u64 1] W (RRet W 1)) := fun W => natOf_any 1 (by omega) W
    have HR : Hid (powT a n = powF n p) := by show _ = _; unfold powT oneG; rw [hp]
    by_cases hr : n < -100 ∨ 100 < n
    · have HOO : Hid (∀ e w', OutS w (⟨#[]⟩, 3) e w' → OutS w (powT a n) e w') := fun _ _ h => by rw [HR.out]; unfold powF; rw [if_pos hr]; exact h
      have hd1 : (decide (n < -100) || decide (100 < n)) = true := by simpa using hr
      clear hp HR hr cp kp N1
      rcases Bool.eq_false_or_eq_true (decide (n < -100)) with t1 | t1
      · clear hd1
        go_wp2_with fail
        go_ret2
        exact HOO.out _ _ ⟨rfl, HB2.out⟩
      · have t2 : decide (100 < n) = true := by rw [t1] at hd1; simpa using hd1
        clear hd1
        go_wp2_with fail
        go_ret2
        exact HOO.out _ _ ⟨rfl, HB2.out⟩
    · have t1 : decide (n < -100) = false := decide_eq_false (by omega)
      have t2 : decide (100 < n) = false := decide_eq_false (by omega)
      have ZE : Hid (∀ W v, RFrac W v p.1 p.2.1 p.2.2 → Calls Try.prog 76 #[v] W (RetB W (decide (p.2.1 = 0)))) := fun W v h => cZero h
      have sz : signQ p = 0 ↔ p.2.1 = 0 := sgn_zero cp.2.2
      obtain ⟨B4, hB4⟩ : ∃ b, b = w1.heap.size := ⟨_, rfl⟩
      have LE4 : Hid (w.heap.size ≤ B4) := by show _ ≤ _; rw [hB4]; exact HB1.out.size
      by_cases h0 : p.2.1 = 0
      · rw [decide_eq_true h0] at ZE
        rcases Bool.eq_false_or_eq_true (decide (n < 0)) with t3 | t3
        · have HOO : Hid (∀ e w', OutS w (⟨#[]⟩, 12) e w' → OutS w (powT a n) e w') := fun _ _ h => by rw [HR.out]; unfold powF; rw [if_neg hr, if_pos ⟨of_decide_eq_true t3, sz.2 h0⟩]; exact h
          clear hp HR hr cp kp N1 sz h0 hB4
          go_wp2_with fail
          refine (ZE.out _ _ FP.out).mono ?_; rintro e w3 ⟨rfl, hb3⟩
          have HB3 := Lib.hid (bstep HB2.out hb3); clear hb3
          go_wp2_with fail
          go_ret2
          exact HOO.out _ _ ⟨rfl, HB3.out⟩
        · have h3 : ¬ n < 0 := of_decide_eq_false t3
          have HOO : Hid (∀ e w', OutS w (out3 (powQ p n)) e w' → OutS w (powT a n) e w') := fun _ _ h => by rw [HR.out]; unfold powF; rw [if_neg hr, if_neg (fun h => h3 h.1)]; exact h
          obtain ⟨k, rfl⟩ := Int.eq_ofNat_of_zero_le (show 0 ≤ n by omega)
          obtain ⟨xs, xn, xd⟩ := p
          have hxs : xs = false := by
            cases xs
            · rfl
            · exact absurd h0 (cp.2.2 rfl)
          have hk : k ≤ 100 := by omega
          have hz : powQ (xs, xn, xd) (k : Int) = (xs && decide (k % 2 = 1), xn ^ k, xd ^ k) := by unfold powQ; rw [if_pos (by omega)]; rfl
          have ln : RLen xn ≤ 101 := Nat.le_trans kp.2.1 (by omega)
          have ld : RLen xd ≤ 101 := Nat.le_trans kp.2.2 (by omega)
          have MU : Hid (∀ i, i ≤ k → ∀ W v u, RNum W v (xn ^ i) → RNum W u xn → Calls Try.prog 85 #[v, u] W (RRet W (xn ^ i * xn))) := fun i hi W v u h1 h2 => by
            have h3 := rlen_npow ln i
            have h4 : 101 * i ≤ 101 * 100 := Nat.mul_le_mul_left _ (by omega)
            exact rmul_any h1 h2 (by omega) (by omega)
          have MD : Hid (∀ i, i ≤ k → ∀ W v u, RNum W v (xd ^ i) → RNum W u xd → Calls Try.prog 85 #[v, u] W (RRet W (xd ^ i * xd))) := fun i hi W v u h1 h2 => by
            have h3 := rlen_npow ld i
            have h4 : 101 * i ≤ 101 * 100 := Nat.mul_le_mul_left _ (by omega)
            exact rmul_any h1 h2 (by omega) (by omega)
          have OT0 : Hid (∀ W v sg, RFrac W v sg (xn ^ k) (xd ^ k) → (xs && decide (k % 2 = 1)) = sg → Calls Try.prog 68 #[v] W (OutS W (out3 (powQ (xs, xn, xd) (k : Int))))) := fun W v sg h hs => by
            have h3 := rlen_npow ln k
            have h5 := rlen_npow ld k
            have h4 : 101 * k ≤ 101 * 100 := Nat.mul_le_mul_left _ hk
            rw [hz, hs]
            exact rout_any (q := (sg, xn ^ k, xd ^ k)) h (by show RLen (xn ^ k) ≤ _; omega) (by show RLen (xd ^ k) ≤ _; omega)
          have HK : Hid (k ≤ 100) := hk
          clear ln ld hk hz
          generalize out3 (powQ (xs, xn, xd) (k : Int)) = z at *
          clear hp HR hr cp kp sz h0 h3
          subst hxs
          go_wp2_with fail
          refine (ZE.out _ _ FP.out).mono ?_; rintro e w3 ⟨rfl, hb3⟩
          have HB := Lib.hid (bstep HB2.out hb3); have QX := Lib.hid (QP0.out.go hb3)
          rw [← hB4] at QX ⊢
          clear hb3 hB4 x0 x1 x2 FP QP0 HB1 HB2 ZE
          have OT : Hid (∀ W v, RFrac W v false (xn ^ k) (xd ^ k) → Calls Try.prog 68 #[v] W (OutS W z)) := fun W v h => OT0.out W v false h rfl
          clear OT0
          obtain ⟨o3, k3, c3, o4, k4, c4, ⟨y0, y1, y2, -, -, -⟩, -, -⟩ := QX.out.all
          go_wp2_with fail
          refine (N1.out _).mono ?_; rintro e w5 ⟨v5, rfl, hv5, hb5⟩
          have HB5 := Lib.hid (bstep HB.out hb5); have QX5 := Lib.hid (QX.out.go hb5); have HV5 := Lib.hid hv5
          clear hb5 hv5
          go_wp2_with fail
          refine (N1.out _).mono ?_; rintro e w6 ⟨v6, rfl, hv6, hb6⟩
          have HB6 := Lib.hid (bstep HB5.out hb6); have QX6 := Lib.hid (QX5.out.go hb6); have hv56 := HV5.out.go hb6
          obtain ⟨o5, c5, rfl⟩ := hv56.shape
          obtain ⟨o6, c6, rfl⟩ := hv6.shape
          have b1 := below_alloc w6 (.cells #[.bool false, .slice o5 (RLen 1) c5, .slice o6 (RLen 1) c6] 60)
          have I0 : Hid (PowI w B4 w6.heap.size (false, xn, xd) false 0 0 (w6.alloc (.cells #[.bool false, .slice o5 (RLen 1) c5, .slice o6 (RLen 1) c6] 60))) :=
            ⟨QX6.out.go b1, ⟨_, _, _, _, _, _, BoxQ.new .., hv56.go b1, hv6.go b1⟩, bstep HB6.out b1⟩
          have NE : Hid (B4 ≠ w6.heap.size) := by
            obtain ⟨_, _, _, _, _, _, bx, -, -⟩ := QX6.out
            exact Nat.ne_of_lt (lt_of_block bx)
          have LE : Hid (w.heap.size ≤ w6.heap.size) := HB6.out.size
          clear hb6 hv6 hv56 b1 HB5 HB6 QX5 QX6 HV5 QX HB y0 y1 y2
          generalize RLen 1 = R1 at *
          go_wp2_with fail
          generalize w6.alloc (.cells #[.bool false, .slice o5 R1 c5, .slice o6 R1 c6] 60) = w7 at *
          generalize w6.heap.size = B8 at *
          go_loopw [9] (fun v9 wr => ∃ i : Nat, i ≤ k ∧ v9 = .int .i64 (i : Nat) ∧ Hid (PowI w B4 B8 (false, xn, xd) false i i wr)) (fun v9 _ => k - (intOf v9).toNat)
          case atStart => exact ⟨0, Nat.zero_le _, rfl, I0.out⟩
          case round =>
            obtain ⟨i, hi, rfl, hinv⟩ := hrel
            have Inv := Lib.hid hinv; clear hinv
            rename World => wr
            by_cases hlt : i < k
            · have HI := Lib.hid hi; clear hi
              obtain ⟨oa, ka, ca, ob, kb, cb, ⟨-, xa, xb, -, -, -⟩, na, da⟩ := Inv.out.out.1.all
              obtain ⟨oc, kc, cc, od, kd, cd, ⟨-, xc, xd', -, -, -⟩, nc, dc⟩ := Inv.out.out.2.1.all
              have NA := Lib.hid na; have NC := Lib.hid nc
              clear na da nc dc
              go_wp2_with fail
              refine (MU.out i (Nat.le_of_lt hlt) _ _ _ NC.out NA.out).mono ?_; rintro e w8 ⟨v8, rfl, hv8, hb8⟩
              obtain ⟨o8, c8, rfl⟩ := hv8.shape
              have Inv8 := Lib.hid (Inv.out.out.go hb8)
              have Inv9 := Lib.hid (Inv8.out.num LE.out NE.out hv8)
              clear hb8 hv8 xa xb xc xd' NA NC
              generalize RLen (xn ^ i * xn) = R8 at *
              obtain ⟨oc, kc, cc, od, kd, cd, ⟨-, xc, -, -, fc, -⟩, nc, dc⟩ := Inv8.out.2.1.all
              obtain ⟨oa, ka, ca, ob, kb, cb, ⟨-, ya, yb, -, -, -⟩, na, da⟩ := Inv9.out.1.all
              obtain ⟨oc, kc, cc, od, kd, cd, ⟨-, yc, yd, -, -, -⟩, nc2, dc2⟩ := Inv9.out.2.1.all
              have DA := Lib.hid da; have DC := Lib.hid dc2
              clear na da nc dc nc2 dc2 Inv8 Inv
              go_wp2_with fail
              refine (MD.out i (Nat.le_of_lt hlt) _ _ _ DC.out DA.out).mono ?_; rintro e w10 ⟨v10, rfl, hv10, hb10⟩
              obtain ⟨o10, c10, rfl⟩ := hv10.shape
              have Inv10 := Lib.hid (Inv9.out.go hb10)
              have Inv11 := Lib.hid (Inv10.out.den LE.out NE.out hv10)
              clear hb10 hv10 ya yb yc yd DA DC xc fc Inv9
              generalize RLen (xd ^ i * xd) = R10 at *
              obtain ⟨oc, kc, cc, od, kd, cd, ⟨-, -, xc, -, -, fc⟩, nc, dc⟩ := Inv10.out.2.1.all
              have hw : wrap64 ((i : Int) + 1) = ((i + 1 : Nat) : Int) := by unfold wrap64; have := HK.out; omega
              have HW := Lib.hid hw; have HLT := Lib.hid hlt
              clear nc dc Inv10 hw hlt
              go_wp2_with fail
              go_roundw
              case rel => exact ⟨i + 1, HLT.out, by first | exact congrArg (Value.int .i64) HW.out | go_num, Inv11.out⟩
              case measure => have h9 := HLT.out; first | (rw [HW.out]; simp [intOf]; omega) | (simp [intOf]; omega)
            · have hik : i = k := by omega
              subst hik
              clear hi hlt
              obtain ⟨oc, kc, cc, od, kd, cd, ⟨xa, xc, xd', -, -, -⟩, nc, dc⟩ := Inv.out.out.2.1.all
              have HU : Hid (RFrac wr (.agg #[.bool false, .slice oc kc cc, .slice od kd cd]) false (xn ^ i) (xd ^ i)) := ⟨_, _, _, _, _, _, rfl, nc, dc⟩
              have HB9 := Lib.hid Inv.out.out.2.2
              clear nc dc Inv MU MD
              go_wp2_with fail
              refine (OT.out _ _ HU.out).mono ?_; rintro e w20 ⟨rfl, hb20⟩
              have HB20 := Lib.hid (bstep HB9.out hb20); clear hb20
              go_wp2_with fail
              go_ret2
              exact HOO.out _ _ ⟨rfl, HB20.out⟩
      · rw [decide_eq_false h0] at ZE
        rcases Bool.eq_false_or_eq_true (decide (n < 0)) with t3 | t3
        · have h3 : n < 0 := of_decide_eq_true t3
          have HOO : Hid (∀ e w', OutS w (out3 (powQ p n)) e w' → OutS w (powT a n) e w') := fun _ _ h => by rw [HR.out]; unfold powF; rw [if_neg hr, if_neg (fun h => h0 (sz.1 h.2))]; exact h
          obtain ⟨k, hkn⟩ := Int.eq_ofNat_of_zero_le (show 0 ≤ -n by omega)
          have hwn : wrap64 (-n) = (k : Int) := by unfold wrap64; omega
          have hk : k ≤ 100 := by omega
          obtain ⟨xs, xd, xn⟩ := p
          have hz : powQ (xs, xd, xn) n = (xs && decide (k % 2 = 1), xn ^ k, xd ^ k) := by unfold powQ; rw [if_neg (by omega), show n.natAbs = k by omega]
          have ln : RLen xn ≤ 101 := Nat.le_trans kp.2.2 (by omega)
          have ld : RLen xd ≤ 101 := Nat.le_trans kp.2.1 (by omega)
          have MU : Hid (∀ i, i ≤ k → ∀ W v u, RNum W v (xn ^ i) → RNum W u xn → Calls Try.prog 85 #[v, u] W (RRet W (xn ^ i * xn))) := fun i hi W v u h1 h2 => by
            have h3 := rlen_npow ln i
            have h4 : 101 * i ≤ 101 * 100 := Nat.mul_le_mul_left _ (by omega)
            exact rmul_any h1 h2 (by omega) (by omega)
          have MD : Hid (∀ i, i ≤ k → ∀ W v u, RNum W v (xd ^ i) → RNum W u xd → Calls Try.prog 85 #[v, u] W (RRet W (xd ^ i * xd))) := fun i hi W v u h1 h2 => by
            have h3 := rlen_npow ld i
            have h4 : 101 * i ≤ 101 * 100 := Nat.mul_le_mul_left _ (by omega)
            exact rmul_any h1 h2 (by omega) (by omega)
          have OT0 : Hid (∀ W v sg, RFrac W v sg (xn ^ k) (xd ^ k) → (xs && decide (k % 2 = 1)) = sg → Calls Try.prog 68 #[v] W (OutS W (out3 (powQ (xs, xd, xn) n)))) := fun W v sg h hs => by
            have h3 := rlen_npow ln k
            have h5 := rlen_npow ld k
            have h4 : 101 * k ≤ 101 * 100 := Nat.mul_le_mul_left _ hk
            rw [hz, hs]
            exact rout_any (q := (sg, xn ^ k, xd ^ k)) h (by show RLen (xn ^ k) ≤ _; omega) (by show RLen (xd ^ k) ≤ _; omega)
          have HK : Hid (k ≤ 100) := hk
          clear ln ld hk hz
          have OF1 : Hid (∀ W, Calls Try.prog 66 #[.int .i64 1] W (RRetQ W oneQ)) := cOf1
          obtain ⟨p, hpe⟩ : ∃ p : Q3, p = (xs, xd, xn) := ⟨_, rfl⟩
          obtain ⟨x, hxe⟩ : ∃ x : Q3, x = (xs, xn, xd) := ⟨_, rfl⟩
          have OV : Hid (∀ W v u, RFrac W v oneQ.1 oneQ.2.1 oneQ.2.2 → RFrac W u p.1 p.2.1 p.2.2 → Calls Try.prog 67 #[v, u] W (RRetQ W x)) := fun W v u h k => by
            rw [show x = divQ oneQ p from by rw [one_over (by rw [hpe]; exact cp) (by rw [hpe]; exact h0), hpe, hxe]; rfl]
            exact cOver (ok_oneQ.up (by omega)) (by rw [hpe]; exact kp.up (by omega)) (by rw [hpe]; exact h0) h k
          generalize out3 (powQ (xs, xd, xn) n) = z at *
          have HXE := Lib.hid hxe
          clear hr cp kp sz h0 h3 hkn hp HR hxe
          have QP1 : Hid (QB (w1.alloc (.cells #[.bool xs, .slice o1 k1 c1, .slice o2 k2 c2] 60)) B4 p) := by show QB _ _ _; rw [hpe, hB4]; exact QP0.out
          clear hpe
          go_wp2_with fail
          refine (ZE.out _ _ FP.out).mono ?_; rintro e w3 ⟨rfl, hb3⟩
          have HB3 := Lib.hid (bstep HB2.out hb3); have QP := Lib.hid (QP1.out.go hb3)
          clear hb3 x0 x1 x2 FP QP0 QP1 HB1 HB2 ZE t1 t2
          rw [← hB4]
          clear hB4
          go_wp2_with fail
          refine region_inv 3 67 [(31, IsRF oneQ.1 oneQ.2.1 oneQ.2.2), (32, IsRF p.1 p.2.1 p.2.2), (33, IsRF x.1 x.2.1 x.2.2)] (by kernel_rfl) rfl (by kernel_rfl) ?_ ?_
          · refine steps_cons rfl (fun A_ W hb hr hg K hK => ?_) <| steps_cons rfl (fun A_ W hb hr hg K hK => ?_) <| steps_cons rfl (fun A_ W hb hr hg K hK => ?_) trivial
            · clear hb hr; go_simp
              refine (OF1.out W).mono ?_; rintro e w5 ⟨v5, rfl, hv5, hb5⟩
              exact hK _ _ hb5 hv5
            · have e0 : A_.tmps[6]?.getD undef = .pointer (some ⟨B4, 0, none⟩) := hb 6 (by kernel_rfl)
              obtain ⟨o1, k1, c1, o2, k2, c2, ⟨x0, x1, x2⟩, hh⟩ := (QP.out.go hg).open
              have HH := Lib.hid hh
              clear hb hr hh; go_simp; exact hK _ _ (Below.refl _ _) HH.out
            · have h1 : RFrac W (A_.tmps[31]?.getD undef) oneQ.1 oneQ.2.1 oneQ.2.2 := hr 31 (by kernel_rfl)
              have H1 := Lib.hid h1
              have h2 : RFrac W (A_.tmps[32]?.getD undef) p.1 p.2.1 p.2.2 := hr 32 (by kernel_rfl)
              have H2 := Lib.hid h2
              clear hb hr h1 h2; go_simp
              refine (OV.out W _ _ H1.out H2.out).mono ?_; rintro e w5 ⟨v5, rfl, hv5, hb5⟩
              exact hK _ _ hb5 hv5
          rintro g4 w14 hb14 ⟨-, -, h20, -⟩
          simp only [List.drop_succ_cons, List.drop_zero, List.take_succ_cons, List.take_zero, putHead, Option.getD_some, Act.put, List.setIfInBounds_toArray, List.set_cons_zero, List.set_cons_succ]
          have hxe := HXE.out
          clear HXE
          subst hxe
          replace h20 : RFrac w14 (g4 33) xs xn xd := h20
          generalize g4 33 = v20 at *
          obtain ⟨o7, k7, c7, o8, k8, c8, rfl, hqn, hqd⟩ := h20
          have HB9 := Lib.hid (bstep HB3.out hb14)
          have QP9 := Lib.hid (QP.out.go hb14)
          obtain ⟨_, _, _, _, _, _, ⟨x0, x1, x2, f0, f1, f2⟩, -, -⟩ := QP9.out.all
          obtain ⟨qx, hb⟩ : QB (((w14.setCell ⟨B4, 0, none⟩ (.bool xs)).setCell ⟨B4, 1, none⟩ (.slice o7 k7 c7)).setCell ⟨B4, 2, none⟩ (.slice o8 k8 c8)) B4 (xs, xn, xd) ∧ Below w.heap.size w (((w14.setCell ⟨B4, 0, none⟩ (.bool xs)).setCell ⟨B4, 1, none⟩ (.slice o7 k7 c7)).setCell ⟨B4, 2, none⟩ (.slice o8 k8 c8)) := QP9.out.put (r := (xs, xn, xd)) hqn hqd HB9.out LE4.out
          have HB := Lib.hid hb
          have QX := Lib.hid qx
          clear hb14 hqn hqd qx hb QP HB3 HB9 QP9 OF1 OV
          cases xs
          · have OT : Hid (∀ W v, RFrac W v false (xn ^ k) (xd ^ k) → Calls Try.prog 68 #[v] W (OutS W z)) := fun W v h => by have := OT0.out W v false h rfl; exact this
            clear OT0
            obtain ⟨o3, k3, c3, o4, k4, c4, ⟨y0, y1, y2, -, -, -⟩, -, -⟩ := QX.out.all
            go_wp2_with fail
            refine (N1.out _).mono ?_; rintro e w5 ⟨v5, rfl, hv5, hb5⟩
            have HB5 := Lib.hid (bstep HB.out hb5); have QX5 := Lib.hid (QX.out.go hb5); have HV5 := Lib.hid hv5
            clear hb5 hv5
            go_wp2_with fail
            refine (N1.out _).mono ?_; rintro e w6 ⟨v6, rfl, hv6, hb6⟩
            have HB6 := Lib.hid (bstep HB5.out hb6); have QX6 := Lib.hid (QX5.out.go hb6); have hv56 := HV5.out.go hb6
            obtain ⟨o5, c5, rfl⟩ := hv56.shape
            obtain ⟨o6, c6, rfl⟩ := hv6.shape
            have b1 := below_alloc w6 (.cells #[.bool false, .slice o5 (RLen 1) c5, .slice o6 (RLen 1) c6] 60)
            have I0 : Hid (PowI w B4 w6.heap.size (false, xn, xd) false 0 0 (w6.alloc (.cells #[.bool false, .slice o5 (RLen 1) c5, .slice o6 (RLen 1) c6] 60))) :=
              ⟨QX6.out.go b1, ⟨_, _, _, _, _, _, BoxQ.new .., hv56.go b1, hv6.go b1⟩, bstep HB6.out b1⟩
            have NE : Hid (B4 ≠ w6.heap.size) := by
              obtain ⟨_, _, _, _, _, _, bx, -, -⟩ := QX6.out
              exact Nat.ne_of_lt (lt_of_block bx)
            have LE : Hid (w.heap.size ≤ w6.heap.size) := HB6.out.size
            clear hb6 hv6 hv56 b1 HB5 HB6 QX5 QX6 HV5 QX HB y0 y1 y2
            generalize RLen 1 = R1 at *
            go_wp2_with fail
            generalize w6.alloc (.cells #[.bool false, .slice o5 R1 c5, .slice o6 R1 c6] 60) = w7 at *
            generalize w6.heap.size = B8 at *
            go_loopw [9] (fun v9 wr => ∃ i : Nat, i ≤ k ∧ v9 = .int .i64 (i : Nat) ∧ Hid (PowI w B4 B8 (false, xn, xd) false i i wr)) (fun v9 _ => k - (intOf v9).toNat)
            case atStart => exact ⟨0, Nat.zero_le _, rfl, I0.out⟩
            case round =>
              obtain ⟨i, hi, rfl, hinv⟩ := hrel
              have Inv := Lib.hid hinv; clear hinv
              rename World => wr
              by_cases hlt : i < k
              · have HI := Lib.hid hi; clear hi
                obtain ⟨oa, ka, ca, ob, kb, cb, ⟨-, xa, xb, -, -, -⟩, na, da⟩ := Inv.out.out.1.all
                obtain ⟨oc, kc, cc, od, kd, cd, ⟨-, xc, xd', -, -, -⟩, nc, dc⟩ := Inv.out.out.2.1.all
                have NA := Lib.hid na; have NC := Lib.hid nc
                clear na da nc dc
                go_wp2_with fail
                refine (MU.out i (Nat.le_of_lt hlt) _ _ _ NC.out NA.out).mono ?_; rintro e w8 ⟨v8, rfl, hv8, hb8⟩
                obtain ⟨o8, c8, rfl⟩ := hv8.shape
                have Inv8 := Lib.hid (Inv.out.out.go hb8)
                have Inv9 := Lib.hid (Inv8.out.num LE.out NE.out hv8)
                clear hb8 hv8 xa xb xc xd' NA NC
                generalize RLen (xn ^ i * xn) = R8 at *
                obtain ⟨oc, kc, cc, od, kd, cd, ⟨-, xc, -, -, fc, -⟩, nc, dc⟩ := Inv8.out.2.1.all
                obtain ⟨oa, ka, ca, ob, kb, cb, ⟨-, ya, yb, -, -, -⟩, na, da⟩ := Inv9.out.1.all
                obtain ⟨oc, kc, cc, od, kd, cd, ⟨-, yc, yd, -, -, -⟩, nc2, dc2⟩ := Inv9.out.2.1.all
                have DA := Lib.hid da; have DC := Lib.hid dc2
                clear na da nc dc nc2 dc2 Inv8 Inv
                go_wp2_with fail
                refine (MD.out i (Nat.le_of_lt hlt) _ _ _ DC.out DA.out).mono ?_; rintro e w10 ⟨v10, rfl, hv10, hb10⟩
                obtain ⟨o10, c10, rfl⟩ := hv10.shape
                have Inv10 := Lib.hid (Inv9.out.go hb10)
                have Inv11 := Lib.hid (Inv10.out.den LE.out NE.out hv10)
                clear hb10 hv10 ya yb yc yd DA DC xc fc Inv9
                generalize RLen (xd ^ i * xd) = R10 at *
                obtain ⟨oc, kc, cc, od, kd, cd, ⟨-, -, xc, -, -, fc⟩, nc, dc⟩ := Inv10.out.2.1.all
                have hw : wrap64 ((i : Int) + 1) = ((i + 1 : Nat) : Int) := by unfold wrap64; have := HK.out; omega
                have HW := Lib.hid hw; have HLT := Lib.hid hlt
                clear nc dc Inv10 hw hlt
                go_wp2_with fail
                go_roundw
                case rel => exact ⟨i + 1, HLT.out, by first | exact congrArg (Value.int .i64) HW.out | go_num, Inv11.out⟩
                case measure => have h9 := HLT.out; first | (rw [HW.out]; simp [intOf]; omega) | (simp [intOf]; omega)
              · have hik : i = k := by omega
                subst hik
                clear hi hlt
                obtain ⟨oc, kc, cc, od, kd, cd, ⟨xa, xc, xd', -, -, -⟩, nc, dc⟩ := Inv.out.out.2.1.all
                have HU : Hid (RFrac wr (.agg #[.bool false, .slice oc kc cc, .slice od kd cd]) false (xn ^ i) (xd ^ i)) := ⟨_, _, _, _, _, _, rfl, nc, dc⟩
                have HB9 := Lib.hid Inv.out.out.2.2
                clear nc dc Inv MU MD
                go_wp2_with fail
                refine (OT.out _ _ HU.out).mono ?_; rintro e w20 ⟨rfl, hb20⟩
                have HB20 := Lib.hid (bstep HB9.out hb20); clear hb20
                go_wp2_with fail
                go_ret2
                exact HOO.out _ _ ⟨rfl, HB20.out⟩
          · rcases Nat.mod_two_eq_zero_or_one k with hm | hm
            · have OT : Hid (∀ W v, RFrac W v false (xn ^ k) (xd ^ k) → Calls Try.prog 68 #[v] W (OutS W z)) := fun W v h => OT0.out W v false h (by rw [hm]; rfl)
              have ht : Int.tmod (k : Int) 2 = 0 := by rw [Int.tmod_eq_emod_of_nonneg (by omega)]; omega
              have ht2 : (k : Int) % 2 = 0 := by omega
              clear OT0
              obtain ⟨o3, k3, c3, o4, k4, c4, ⟨y0, y1, y2, -, -, -⟩, -, -⟩ := QX.out.all
              go_wp2_with fail
              clear ht ht2 hm
              refine (N1.out _).mono ?_; rintro e w5 ⟨v5, rfl, hv5, hb5⟩
              have HB5 := Lib.hid (bstep HB.out hb5); have QX5 := Lib.hid (QX.out.go hb5); have HV5 := Lib.hid hv5
              clear hb5 hv5
              go_wp2_with fail
              refine (N1.out _).mono ?_; rintro e w6 ⟨v6, rfl, hv6, hb6⟩
              have HB6 := Lib.hid (bstep HB5.out hb6); have QX6 := Lib.hid (QX5.out.go hb6); have hv56 := HV5.out.go hb6
              obtain ⟨o5, c5, rfl⟩ := hv56.shape
              obtain ⟨o6, c6, rfl⟩ := hv6.shape
              have b1 := below_alloc w6 (.cells #[.bool false, .slice o5 (RLen 1) c5, .slice o6 (RLen 1) c6] 60)
              have I0 : Hid (PowI w B4 w6.heap.size (true, xn, xd) false 0 0 (w6.alloc (.cells #[.bool false, .slice o5 (RLen 1) c5, .slice o6 (RLen 1) c6] 60))) :=
                ⟨QX6.out.go b1, ⟨_, _, _, _, _, _, BoxQ.new .., hv56.go b1, hv6.go b1⟩, bstep HB6.out b1⟩
              have NE : Hid (B4 ≠ w6.heap.size) := by
                obtain ⟨_, _, _, _, _, _, bx, -, -⟩ := QX6.out
                exact Nat.ne_of_lt (lt_of_block bx)
              have LE : Hid (w.heap.size ≤ w6.heap.size) := HB6.out.size
              clear hb6 hv6 hv56 b1 HB5 HB6 QX5 QX6 HV5 QX HB y0 y1 y2
              generalize RLen 1 = R1 at *
              go_wp2_with fail
              generalize w6.alloc (.cells #[.bool false, .slice o5 R1 c5, .slice o6 R1 c6] 60) = w7 at *
              generalize w6.heap.size = B8 at *
              go_loopw [9] (fun v9 wr => ∃ i : Nat, i ≤ k ∧ v9 = .int .i64 (i : Nat) ∧ Hid (PowI w B4 B8 (true, xn, xd) false i i wr)) (fun v9 _ => k - (intOf v9).toNat)
              case atStart => exact ⟨0, Nat.zero_le _, rfl, I0.out⟩
              case round =>
                obtain ⟨i, hi, rfl, hinv⟩ := hrel
                have Inv := Lib.hid hinv; clear hinv
                rename World => wr
                by_cases hlt : i < k
                · have HI := Lib.hid hi; clear hi
                  obtain ⟨oa, ka, ca, ob, kb, cb, ⟨-, xa, xb, -, -, -⟩, na, da⟩ := Inv.out.out.1.all
                  obtain ⟨oc, kc, cc, od, kd, cd, ⟨-, xc, xd', -, -, -⟩, nc, dc⟩ := Inv.out.out.2.1.all
                  have NA := Lib.hid na; have NC := Lib.hid nc
                  clear na da nc dc
                  go_wp2_with fail
                  refine (MU.out i (Nat.le_of_lt hlt) _ _ _ NC.out NA.out).mono ?_; rintro e w8 ⟨v8, rfl, hv8, hb8⟩
                  obtain ⟨o8, c8, rfl⟩ := hv8.shape
                  have Inv8 := Lib.hid (Inv.out.out.go hb8)
                  have Inv9 := Lib.hid (Inv8.out.num LE.out NE.out hv8)
                  clear hb8 hv8 xa xb xc xd' NA NC
                  generalize RLen (xn ^ i * xn) = R8 at *
                  obtain ⟨oc, kc, cc, od, kd, cd, ⟨-, xc, -, -, fc, -⟩, nc, dc⟩ := Inv8.out.2.1.all
                  obtain ⟨oa, ka, ca, ob, kb, cb, ⟨-, ya, yb, -, -, -⟩, na, da⟩ := Inv9.out.1.all
                  obtain ⟨oc, kc, cc, od, kd, cd, ⟨-, yc, yd, -, -, -⟩, nc2, dc2⟩ := Inv9.out.2.1.all
                  have DA := Lib.hid da; have DC := Lib.hid dc2
                  clear na da nc dc nc2 dc2 Inv8 Inv
                  go_wp2_with fail
                  refine (MD.out i (Nat.le_of_lt hlt) _ _ _ DC.out DA.out).mono ?_; rintro e w10 ⟨v10, rfl, hv10, hb10⟩
                  obtain ⟨o10, c10, rfl⟩ := hv10.shape
                  have Inv10 := Lib.hid (Inv9.out.go hb10)
                  have Inv11 := Lib.hid (Inv10.out.den LE.out NE.out hv10)
                  clear hb10 hv10 ya yb yc yd DA DC xc fc Inv9
                  generalize RLen (xd ^ i * xd) = R10 at *
                  obtain ⟨oc, kc, cc, od, kd, cd, ⟨-, -, xc, -, -, fc⟩, nc, dc⟩ := Inv10.out.2.1.all
                  have hw : wrap64 ((i : Int) + 1) = ((i + 1 : Nat) : Int) := by unfold wrap64; have := HK.out; omega
                  have HW := Lib.hid hw; have HLT := Lib.hid hlt
                  clear nc dc Inv10 hw hlt
                  go_wp2_with fail
                  go_roundw
                  case rel => exact ⟨i + 1, HLT.out, by first | exact congrArg (Value.int .i64) HW.out | go_num, Inv11.out⟩
                  case measure => have h9 := HLT.out; first | (rw [HW.out]; simp [intOf]; omega) | (simp [intOf]; omega)
                · have hik : i = k := by omega
                  subst hik
                  clear hi hlt
                  obtain ⟨oc, kc, cc, od, kd, cd, ⟨xa, xc, xd', -, -, -⟩, nc, dc⟩ := Inv.out.out.2.1.all
                  have HU : Hid (RFrac wr (.agg #[.bool false, .slice oc kc cc, .slice od kd cd]) false (xn ^ i) (xd ^ i)) := ⟨_, _, _, _, _, _, rfl, nc, dc⟩
                  have HB9 := Lib.hid Inv.out.out.2.2
                  clear nc dc Inv MU MD
                  go_wp2_with fail
                  refine (OT.out _ _ HU.out).mono ?_; rintro e w20 ⟨rfl, hb20⟩
                  have HB20 := Lib.hid (bstep HB9.out hb20); clear hb20
                  go_wp2_with fail
                  go_ret2
                  exact HOO.out _ _ ⟨rfl, HB20.out⟩
            · have OT : Hid (∀ W v, RFrac W v true (xn ^ k) (xd ^ k) → Calls Try.prog 68 #[v] W (OutS W z)) := fun W v h => OT0.out W v true h (by rw [hm]; rfl)
              have ht : Int.tmod (k : Int) 2 = 1 := by rw [Int.tmod_eq_emod_of_nonneg (by omega)]; omega
              have ht2 : (k : Int) % 2 = 1 := by omega
              clear OT0
              obtain ⟨o3, k3, c3, o4, k4, c4, ⟨y0, y1, y2, -, -, -⟩, -, -⟩ := QX.out.all
              go_wp2_with fail
              clear ht ht2 hm
              refine (N1.out _).mono ?_; rintro e w5 ⟨v5, rfl, hv5, hb5⟩
              have HB5 := Lib.hid (bstep HB.out hb5); have QX5 := Lib.hid (QX.out.go hb5); have HV5 := Lib.hid hv5
              clear hb5 hv5
              go_wp2_with fail
              refine (N1.out _).mono ?_; rintro e w6 ⟨v6, rfl, hv6, hb6⟩
              have HB6 := Lib.hid (bstep HB5.out hb6); have QX6 := Lib.hid (QX5.out.go hb6); have hv56 := HV5.out.go hb6
              obtain ⟨o5, c5, rfl⟩ := hv56.shape
              obtain ⟨o6, c6, rfl⟩ := hv6.shape
              have b1 := below_alloc w6 (.cells #[.bool true, .slice o5 (RLen 1) c5, .slice o6 (RLen 1) c6] 60)
              have I0 : Hid (PowI w B4 w6.heap.size (true, xn, xd) true 0 0 (w6.alloc (.cells #[.bool true, .slice o5 (RLen 1) c5, .slice o6 (RLen 1) c6] 60))) :=
                ⟨QX6.out.go b1, ⟨_, _, _, _, _, _, BoxQ.new .., hv56.go b1, hv6.go b1⟩, bstep HB6.out b1⟩
              have NE : Hid (B4 ≠ w6.heap.size) := by
                obtain ⟨_, _, _, _, _, _, bx, -, -⟩ := QX6.out
                exact Nat.ne_of_lt (lt_of_block bx)
              have LE : Hid (w.heap.size ≤ w6.heap.size) := HB6.out.size
              clear hb6 hv6 hv56 b1 HB5 HB6 QX5 QX6 HV5 QX HB y0 y1 y2
              generalize RLen 1 = R1 at *
              go_wp2_with fail
              generalize w6.alloc (.cells #[.bool true, .slice o5 R1 c5, .slice o6 R1 c6] 60) = w7 at *
              generalize w6.heap.size = B8 at *
              go_loopw [9] (fun v9 wr => ∃ i : Nat, i ≤ k ∧ v9 = .int .i64 (i : Nat) ∧ Hid (PowI w B4 B8 (true, xn, xd) true i i wr)) (fun v9 _ => k - (intOf v9).toNat)
              case atStart => exact ⟨0, Nat.zero_le _, rfl, I0.out⟩
              case round =>
                obtain ⟨i, hi, rfl, hinv⟩ := hrel
                have Inv := Lib.hid hinv; clear hinv
                rename World => wr
                by_cases hlt : i < k
                · have HI := Lib.hid hi; clear hi
                  obtain ⟨oa, ka, ca, ob, kb, cb, ⟨-, xa, xb, -, -, -⟩, na, da⟩ := Inv.out.out.1.all
                  obtain ⟨oc, kc, cc, od, kd, cd, ⟨-, xc, xd', -, -, -⟩, nc, dc⟩ := Inv.out.out.2.1.all
                  have NA := Lib.hid na; have NC := Lib.hid nc
                  clear na da nc dc
                  go_wp2_with fail
                  refine (MU.out i (Nat.le_of_lt hlt) _ _ _ NC.out NA.out).mono ?_; rintro e w8 ⟨v8, rfl, hv8, hb8⟩
                  obtain ⟨o8, c8, rfl⟩ := hv8.shape
                  have Inv8 := Lib.hid (Inv.out.out.go hb8)
                  have Inv9 := Lib.hid (Inv8.out.num LE.out NE.out hv8)
                  clear hb8 hv8 xa xb xc xd' NA NC
                  generalize RLen (xn ^ i * xn) = R8 at *
                  obtain ⟨oc, kc, cc, od, kd, cd, ⟨-, xc, -, -, fc, -⟩, nc, dc⟩ := Inv8.out.2.1.all
                  obtain ⟨oa, ka, ca, ob, kb, cb, ⟨-, ya, yb, -, -, -⟩, na, da⟩ := Inv9.out.1.all
                  obtain ⟨oc, kc, cc, od, kd, cd, ⟨-, yc, yd, -, -, -⟩, nc2, dc2⟩ := Inv9.out.2.1.all
                  have DA := Lib.hid da; have DC := Lib.hid dc2
                  clear na da nc dc nc2 dc2 Inv8 Inv
                  go_wp2_with fail
                  refine (MD.out i (Nat.le_of_lt hlt) _ _ _ DC.out DA.out).mono ?_; rintro e w10 ⟨v10, rfl, hv10, hb10⟩
                  obtain ⟨o10, c10, rfl⟩ := hv10.shape
                  have Inv10 := Lib.hid (Inv9.out.go hb10)
                  have Inv11 := Lib.hid (Inv10.out.den LE.out NE.out hv10)
                  clear hb10 hv10 ya yb yc yd DA DC xc fc Inv9
                  generalize RLen (xd ^ i * xd) = R10 at *
                  obtain ⟨oc, kc, cc, od, kd, cd, ⟨-, -, xc, -, -, fc⟩, nc, dc⟩ := Inv10.out.2.1.all
                  have hw : wrap64 ((i : Int) + 1) = ((i + 1 : Nat) : Int) := by unfold wrap64; have := HK.out; omega
                  have HW := Lib.hid hw; have HLT := Lib.hid hlt
                  clear nc dc Inv10 hw hlt
                  go_wp2_with fail
                  go_roundw
                  case rel => exact ⟨i + 1, HLT.out, by first | exact congrArg (Value.int .i64) HW.out | go_num, Inv11.out⟩
                  case measure => have h9 := HLT.out; first | (rw [HW.out]; simp [intOf]; omega) | (simp [intOf]; omega)
                · have hik : i = k := by omega
                  subst hik
                  clear hi hlt
                  obtain ⟨oc, kc, cc, od, kd, cd, ⟨xa, xc, xd', -, -, -⟩, nc, dc⟩ := Inv.out.out.2.1.all
                  have HU : Hid (RFrac wr (.agg #[.bool true, .slice oc kc cc, .slice od kd cd]) true (xn ^ i) (xd ^ i)) := ⟨_, _, _, _, _, _, rfl, nc, dc⟩
                  have HB9 := Lib.hid Inv.out.out.2.2
                  clear nc dc Inv MU MD
                  go_wp2_with fail
                  refine (OT.out _ _ HU.out).mono ?_; rintro e w20 ⟨rfl, hb20⟩
                  have HB20 := Lib.hid (bstep HB9.out hb20); clear hb20
                  go_wp2_with fail
                  go_ret2
                  exact HOO.out _ _ ⟨rfl, HB20.out⟩
        · have h3 : ¬ n < 0 := of_decide_eq_false t3
          have HOO : Hid (∀ e w', OutS w (out3 (powQ p n)) e w' → OutS w (powT a n) e w') := fun _ _ h => by rw [HR.out]; unfold powF; rw [if_neg hr, if_neg (fun h => h3 h.1)]; exact h
          obtain ⟨k, rfl⟩ := Int.eq_ofNat_of_zero_le (show 0 ≤ n by omega)
          obtain ⟨xs, xn, xd⟩ := p
          have hk : k ≤ 100 := by omega
          have hz : powQ (xs, xn, xd) (k : Int) = (xs && decide (k % 2 = 1), xn ^ k, xd ^ k) := by unfold powQ; rw [if_pos (by omega)]; rfl
          have ln : RLen xn ≤ 101 := Nat.le_trans kp.2.1 (by omega)
          have ld : RLen xd ≤ 101 := Nat.le_trans kp.2.2 (by omega)
          have MU : Hid (∀ i, i ≤ k → ∀ W v u, RNum W v (xn ^ i) → RNum W u xn → Calls Try.prog 85 #[v, u] W (RRet W (xn ^ i * xn))) := fun i hi W v u h1 h2 => by
            have h3 := rlen_npow ln i
            have h4 : 101 * i ≤ 101 * 100 := Nat.mul_le_mul_left _ (by omega)
            exact rmul_any h1 h2 (by omega) (by omega)
          have MD : Hid (∀ i, i ≤ k → ∀ W v u, RNum W v (xd ^ i) → RNum W u xd → Calls Try.prog 85 #[v, u] W (RRet W (xd ^ i * xd))) := fun i hi W v u h1 h2 => by
            have h3 := rlen_npow ld i
            have h4 : 101 * i ≤ 101 * 100 := Nat.mul_le_mul_left _ (by omega)
            exact rmul_any h1 h2 (by omega) (by omega)
          have OT0 : Hid (∀ W v sg, RFrac W v sg (xn ^ k) (xd ^ k) → (xs && decide (k % 2 = 1)) = sg → Calls Try.prog 68 #[v] W (OutS W (out3 (powQ (xs, xn, xd) (k : Int))))) := fun W v sg h hs => by
            have h3 := rlen_npow ln k
            have h5 := rlen_npow ld k
            have h4 : 101 * k ≤ 101 * 100 := Nat.mul_le_mul_left _ hk
            rw [hz, hs]
            exact rout_any (q := (sg, xn ^ k, xd ^ k)) h (by show RLen (xn ^ k) ≤ _; omega) (by show RLen (xd ^ k) ≤ _; omega)
          have HK : Hid (k ≤ 100) := hk
          clear ln ld hk hz
          generalize out3 (powQ (xs, xn, xd) (k : Int)) = z at *
          clear hp HR hr cp kp sz h0 h3
          go_wp2_with fail
          refine (ZE.out _ _ FP.out).mono ?_; rintro e w3 ⟨rfl, hb3⟩
          have HB := Lib.hid (bstep HB2.out hb3); have QX := Lib.hid (QP0.out.go hb3)
          rw [← hB4] at QX
          clear hb3 x0 x1 x2 FP QP0 HB1 HB2 ZE
          rw [← hB4]
          clear hB4
          cases xs
          · have OT : Hid (∀ W v, RFrac W v false (xn ^ k) (xd ^ k) → Calls Try.prog 68 #[v] W (OutS W z)) := fun W v h => by have := OT0.out W v false h rfl; exact this
            clear OT0
            obtain ⟨o3, k3, c3, o4, k4, c4, ⟨y0, y1, y2, -, -, -⟩, -, -⟩ := QX.out.all
            go_wp2_with fail
            refine (N1.out _).mono ?_; rintro e w5 ⟨v5, rfl, hv5, hb5⟩
            have HB5 := Lib.hid (bstep HB.out hb5); have QX5 := Lib.hid (QX.out.go hb5); have HV5 := Lib.hid hv5
            clear hb5 hv5
            go_wp2_with fail
            refine (N1.out _).mono ?_; rintro e w6 ⟨v6, rfl, hv6, hb6⟩
            have HB6 := Lib.hid (bstep HB5.out hb6); have QX6 := Lib.hid (QX5.out.go hb6); have hv56 := HV5.out.go hb6
            obtain ⟨o5, c5, rfl⟩ := hv56.shape
            obtain ⟨o6, c6, rfl⟩ := hv6.shape
            have b1 := below_alloc w6 (.cells #[.bool false, .slice o5 (RLen 1) c5, .slice o6 (RLen 1) c6] 60)
            have I0 : Hid (PowI w B4 w6.heap.size (false, xn, xd) false 0 0 (w6.alloc (.cells #[.bool false, .slice o5 (RLen 1) c5, .slice o6 (RLen 1) c6] 60))) :=
              ⟨QX6.out.go b1, ⟨_, _, _, _, _, _, BoxQ.new .., hv56.go b1, hv6.go b1⟩, bstep HB6.out b1⟩
            have NE : Hid (B4 ≠ w6.heap.size) := by
              obtain ⟨_, _, _, _, _, _, bx, -, -⟩ := QX6.out
              exact Nat.ne_of_lt (lt_of_block bx)
            have LE : Hid (w.heap.size ≤ w6.heap.size) := HB6.out.size
            clear hb6 hv6 hv56 b1 HB5 HB6 QX5 QX6 HV5 QX HB y0 y1 y2
            generalize RLen 1 = R1 at *
            go_wp2_with fail
            generalize w6.alloc (.cells #[.bool false, .slice o5 R1 c5, .slice o6 R1 c6] 60) = w7 at *
            generalize w6.heap.size = B8 at *
            go_loopw [9] (fun v9 wr => ∃ i : Nat, i ≤ k ∧ v9 = .int .i64 (i : Nat) ∧ Hid (PowI w B4 B8 (false, xn, xd) false i i wr)) (fun v9 _ => k - (intOf v9).toNat)
            case atStart => exact ⟨0, Nat.zero_le _, rfl, I0.out⟩
            case round =>
              obtain ⟨i, hi, rfl, hinv⟩ := hrel
              have Inv := Lib.hid hinv; clear hinv
              rename World => wr
              by_cases hlt : i < k
              · have HI := Lib.hid hi; clear hi
                obtain ⟨oa, ka, ca, ob, kb, cb, ⟨-, xa, xb, -, -, -⟩, na, da⟩ := Inv.out.out.1.all
                obtain ⟨oc, kc, cc, od, kd, cd, ⟨-, xc, xd', -, -, -⟩, nc, dc⟩ := Inv.out.out.2.1.all
                have NA := Lib.hid na; have NC := Lib.hid nc
                clear na da nc dc
                go_wp2_with fail
                refine (MU.out i (Nat.le_of_lt hlt) _ _ _ NC.out NA.out).mono ?_; rintro e w8 ⟨v8, rfl, hv8, hb8⟩
                obtain ⟨o8, c8, rfl⟩ := hv8.shape
                have Inv8 := Lib.hid (Inv.out.out.go hb8)
                have Inv9 := Lib.hid (Inv8.out.num LE.out NE.out hv8)
                clear hb8 hv8 xa xb xc xd' NA NC
                generalize RLen (xn ^ i * xn) = R8 at *
                obtain ⟨oc, kc, cc, od, kd, cd, ⟨-, xc, -, -, fc, -⟩, nc, dc⟩ := Inv8.out.2.1.all
                obtain ⟨oa, ka, ca, ob, kb, cb, ⟨-, ya, yb, -, -, -⟩, na, da⟩ := Inv9.out.1.all
                obtain ⟨oc, kc, cc, od, kd, cd, ⟨-, yc, yd, -, -, -⟩, nc2, dc2⟩ := Inv9.out.2.1.all
                have DA := Lib.hid da; have DC := Lib.hid dc2
                clear na da nc dc nc2 dc2 Inv8 Inv
                go_wp2_with fail
                refine (MD.out i (Nat.le_of_lt hlt) _ _ _ DC.out DA.out).mono ?_; rintro e w10 ⟨v10, rfl, hv10, hb10⟩
                obtain ⟨o10, c10, rfl⟩ := hv10.shape
                have Inv10 := Lib.hid (Inv9.out.go hb10)
                have Inv11 := Lib.hid (Inv10.out.den LE.out NE.out hv10)
                clear hb10 hv10 ya yb yc yd DA DC xc fc Inv9
                generalize RLen (xd ^ i * xd) = R10 at *
                obtain ⟨oc, kc, cc, od, kd, cd, ⟨-, -, xc, -, -, fc⟩, nc, dc⟩ := Inv10.out.2.1.all
                have hw : wrap64 ((i : Int) + 1) = ((i + 1 : Nat) : Int) := by unfold wrap64; have := HK.out; omega
                have HW := Lib.hid hw; have HLT := Lib.hid hlt
                clear nc dc Inv10 hw hlt
                go_wp2_with fail
                go_roundw
                case rel => exact ⟨i + 1, HLT.out, by first | exact congrArg (Value.int .i64) HW.out | go_num, Inv11.out⟩
                case measure => have h9 := HLT.out; first | (rw [HW.out]; simp [intOf]; omega) | (simp [intOf]; omega)
              · have hik : i = k := by omega
                subst hik
                clear hi hlt
                obtain ⟨oc, kc, cc, od, kd, cd, ⟨xa, xc, xd', -, -, -⟩, nc, dc⟩ := Inv.out.out.2.1.all
                have HU : Hid (RFrac wr (.agg #[.bool false, .slice oc kc cc, .slice od kd cd]) false (xn ^ i) (xd ^ i)) := ⟨_, _, _, _, _, _, rfl, nc, dc⟩
                have HB9 := Lib.hid Inv.out.out.2.2
                clear nc dc Inv MU MD
                go_wp2_with fail
                refine (OT.out _ _ HU.out).mono ?_; rintro e w20 ⟨rfl, hb20⟩
                have HB20 := Lib.hid (bstep HB9.out hb20); clear hb20
                go_wp2_with fail
                go_ret2
                exact HOO.out _ _ ⟨rfl, HB20.out⟩
          · rcases Nat.mod_two_eq_zero_or_one k with hm | hm
            · have OT : Hid (∀ W v, RFrac W v false (xn ^ k) (xd ^ k) → Calls Try.prog 68 #[v] W (OutS W z)) := fun W v h => OT0.out W v false h (by rw [hm]; rfl)
              have ht : Int.tmod (k : Int) 2 = 0 := by rw [Int.tmod_eq_emod_of_nonneg (by omega)]; omega
              have ht2 : (k : Int) % 2 = 0 := by omega
              clear OT0
              obtain ⟨o3, k3, c3, o4, k4, c4, ⟨y0, y1, y2, -, -, -⟩, -, -⟩ := QX.out.all
              go_wp2_with fail
              clear ht ht2 hm
              refine (N1.out _).mono ?_; rintro e w5 ⟨v5, rfl, hv5, hb5⟩
              have HB5 := Lib.hid (bstep HB.out hb5); have QX5 := Lib.hid (QX.out.go hb5); have HV5 := Lib.hid hv5
              clear hb5 hv5
              go_wp2_with fail
              refine (N1.out _).mono ?_; rintro e w6 ⟨v6, rfl, hv6, hb6⟩
              have HB6 := Lib.hid (bstep HB5.out hb6); have QX6 := Lib.hid (QX5.out.go hb6); have hv56 := HV5.out.go hb6
              obtain ⟨o5, c5, rfl⟩ := hv56.shape
              obtain ⟨o6, c6, rfl⟩ := hv6.shape
              have b1 := below_alloc w6 (.cells #[.bool false, .slice o5 (RLen 1) c5, .slice o6 (RLen 1) c6] 60)
              have I0 : Hid (PowI w B4 w6.heap.size (true, xn, xd) false 0 0 (w6.alloc (.cells #[.bool false, .slice o5 (RLen 1) c5, .slice o6 (RLen 1) c6] 60))) :=
                ⟨QX6.out.go b1, ⟨_, _, _, _, _, _, BoxQ.new .., hv56.go b1, hv6.go b1⟩, bstep HB6.out b1⟩
              have NE : Hid (B4 ≠ w6.heap.size) := by
                obtain ⟨_, _, _, _, _, _, bx, -, -⟩ := QX6.out
                exact Nat.ne_of_lt (lt_of_block bx)
              have LE : Hid (w.heap.size ≤ w6.heap.size) := HB6.out.size
              clear hb6 hv6 hv56 b1 HB5 HB6 QX5 QX6 HV5 QX HB y0 y1 y2
              generalize RLen 1 = R1 at *
              go_wp2_with fail
              generalize w6.alloc (.cells #[.bool false, .slice o5 R1 c5, .slice o6 R1 c6] 60) = w7 at *
              generalize w6.heap.size = B8 at *
              go_loopw [9] (fun v9 wr => ∃ i : Nat, i ≤ k ∧ v9 = .int .i64 (i : Nat) ∧ Hid (PowI w B4 B8 (true, xn, xd) false i i wr)) (fun v9 _ => k - (intOf v9).toNat)
              case atStart => exact ⟨0, Nat.zero_le _, rfl, I0.out⟩
              case round =>
                obtain ⟨i, hi, rfl, hinv⟩ := hrel
                have Inv := Lib.hid hinv; clear hinv
                rename World => wr
                by_cases hlt : i < k
                · have HI := Lib.hid hi; clear hi
                  obtain ⟨oa, ka, ca, ob, kb, cb, ⟨-, xa, xb, -, -, -⟩, na, da⟩ := Inv.out.out.1.all
                  obtain ⟨oc, kc, cc, od, kd, cd, ⟨-, xc, xd', -, -, -⟩, nc, dc⟩ := Inv.out.out.2.1.all
                  have NA := Lib.hid na; have NC := Lib.hid nc
                  clear na da nc dc
                  go_wp2_with fail
                  refine (MU.out i (Nat.le_of_lt hlt) _ _ _ NC.out NA.out).mono ?_; rintro e w8 ⟨v8, rfl, hv8, hb8⟩
                  obtain ⟨o8, c8, rfl⟩ := hv8.shape
                  have Inv8 := Lib.hid (Inv.out.out.go hb8)
                  have Inv9 := Lib.hid (Inv8.out.num LE.out NE.out hv8)
                  clear hb8 hv8 xa xb xc xd' NA NC
                  generalize RLen (xn ^ i * xn) = R8 at *
                  obtain ⟨oc, kc, cc, od, kd, cd, ⟨-, xc, -, -, fc, -⟩, nc, dc⟩ := Inv8.out.2.1.all
                  obtain ⟨oa, ka, ca, ob, kb, cb, ⟨-, ya, yb, -, -, -⟩, na, da⟩ := Inv9.out.1.all
                  obtain ⟨oc, kc, cc, od, kd, cd, ⟨-, yc, yd, -, -, -⟩, nc2, dc2⟩ := Inv9.out.2.1.all
                  have DA := Lib.hid da; have DC := Lib.hid dc2
                  clear na da nc dc nc2 dc2 Inv8 Inv
                  go_wp2_with fail
                  refine (MD.out i (Nat.le_of_lt hlt) _ _ _ DC.out DA.out).mono ?_; rintro e w10 ⟨v10, rfl, hv10, hb10⟩
                  obtain ⟨o10, c10, rfl⟩ := hv10.shape
                  have Inv10 := Lib.hid (Inv9.out.go hb10)
                  have Inv11 := Lib.hid (Inv10.out.den LE.out NE.out hv10)
                  clear hb10 hv10 ya yb yc yd DA DC xc fc Inv9
                  generalize RLen (xd ^ i * xd) = R10 at *
                  obtain ⟨oc, kc, cc, od, kd, cd, ⟨-, -, xc, -, -, fc⟩, nc, dc⟩ := Inv10.out.2.1.all
                  have hw : wrap64 ((i : Int) + 1) = ((i + 1 : Nat) : Int) := by unfold wrap64; have := HK.out; omega
                  have HW := Lib.hid hw; have HLT := Lib.hid hlt
                  clear nc dc Inv10 hw hlt
                  go_wp2_with fail
                  go_roundw
                  case rel => exact ⟨i + 1, HLT.out, by first | exact congrArg (Value.int .i64) HW.out | go_num, Inv11.out⟩
                  case measure => have h9 := HLT.out; first | (rw [HW.out]; simp [intOf]; omega) | (simp [intOf]; omega)
                · have hik : i = k := by omega
                  subst hik
                  clear hi hlt
                  obtain ⟨oc, kc, cc, od, kd, cd, ⟨xa, xc, xd', -, -, -⟩, nc, dc⟩ := Inv.out.out.2.1.all
                  have HU : Hid (RFrac wr (.agg #[.bool false, .slice oc kc cc, .slice od kd cd]) false (xn ^ i) (xd ^ i)) := ⟨_, _, _, _, _, _, rfl, nc, dc⟩
                  have HB9 := Lib.hid Inv.out.out.2.2
                  clear nc dc Inv MU MD
                  go_wp2_with fail
                  refine (OT.out _ _ HU.out).mono ?_; rintro e w20 ⟨rfl, hb20⟩
                  have HB20 := Lib.hid (bstep HB9.out hb20); clear hb20
                  go_wp2_with fail
                  go_ret2
                  exact HOO.out _ _ ⟨rfl, HB20.out⟩
            · have OT : Hid (∀ W v, RFrac W v true (xn ^ k) (xd ^ k) → Calls Try.prog 68 #[v] W (OutS W z)) := fun W v h => OT0.out W v true h (by rw [hm]; rfl)
              have ht : Int.tmod (k : Int) 2 = 1 := by rw [Int.tmod_eq_emod_of_nonneg (by omega)]; omega
              have ht2 : (k : Int) % 2 = 1 := by omega
              clear OT0
              obtain ⟨o3, k3, c3, o4, k4, c4, ⟨y0, y1, y2, -, -, -⟩, -, -⟩ := QX.out.all
              go_wp2_with fail
              clear ht ht2 hm
              refine (N1.out _).mono ?_; rintro e w5 ⟨v5, rfl, hv5, hb5⟩
              have HB5 := Lib.hid (bstep HB.out hb5); have QX5 := Lib.hid (QX.out.go hb5); have HV5 := Lib.hid hv5
              clear hb5 hv5
              go_wp2_with fail
              refine (N1.out _).mono ?_; rintro e w6 ⟨v6, rfl, hv6, hb6⟩
              have HB6 := Lib.hid (bstep HB5.out hb6); have QX6 := Lib.hid (QX5.out.go hb6); have hv56 := HV5.out.go hb6
              obtain ⟨o5, c5, rfl⟩ := hv56.shape
              obtain ⟨o6, c6, rfl⟩ := hv6.shape
              have b1 := below_alloc w6 (.cells #[.bool true, .slice o5 (RLen 1) c5, .slice o6 (RLen 1) c6] 60)
              have I0 : Hid (PowI w B4 w6.heap.size (true, xn, xd) true 0 0 (w6.alloc (.cells #[.bool true, .slice o5 (RLen 1) c5, .slice o6 (RLen 1) c6] 60))) :=
                ⟨QX6.out.go b1, ⟨_, _, _, _, _, _, BoxQ.new .., hv56.go b1, hv6.go b1⟩, bstep HB6.out b1⟩
              have NE : Hid (B4 ≠ w6.heap.size) := by
                obtain ⟨_, _, _, _, _, _, bx, -, -⟩ := QX6.out
                exact Nat.ne_of_lt (lt_of_block bx)
              have LE : Hid (w.heap.size ≤ w6.heap.size) := HB6.out.size
              clear hb6 hv6 hv56 b1 HB5 HB6 QX5 QX6 HV5 QX HB y0 y1 y2
              generalize RLen 1 = R1 at *
              go_wp2_with fail
              generalize w6.alloc (.cells #[.bool true, .slice o5 R1 c5, .slice o6 R1 c6] 60) = w7 at *
              generalize w6.heap.size = B8 at *
              go_loopw [9] (fun v9 wr => ∃ i : Nat, i ≤ k ∧ v9 = .int .i64 (i : Nat) ∧ Hid (PowI w B4 B8 (true, xn, xd) true i i wr)) (fun v9 _ => k - (intOf v9).toNat)
              case atStart => exact ⟨0, Nat.zero_le _, rfl, I0.out⟩
              case round =>
                obtain ⟨i, hi, rfl, hinv⟩ := hrel
                have Inv := Lib.hid hinv; clear hinv
                rename World => wr
                by_cases hlt : i < k
                · have HI := Lib.hid hi; clear hi
                  obtain ⟨oa, ka, ca, ob, kb, cb, ⟨-, xa, xb, -, -, -⟩, na, da⟩ := Inv.out.out.1.all
                  obtain ⟨oc, kc, cc, od, kd, cd, ⟨-, xc, xd', -, -, -⟩, nc, dc⟩ := Inv.out.out.2.1.all
                  have NA := Lib.hid na; have NC := Lib.hid nc
                  clear na da nc dc
                  go_wp2_with fail
                  refine (MU.out i (Nat.le_of_lt hlt) _ _ _ NC.out NA.out).mono ?_; rintro e w8 ⟨v8, rfl, hv8, hb8⟩
                  obtain ⟨o8, c8, rfl⟩ := hv8.shape
                  have Inv8 := Lib.hid (Inv.out.out.go hb8)
                  have Inv9 := Lib.hid (Inv8.out.num LE.out NE.out hv8)
                  clear hb8 hv8 xa xb xc xd' NA NC
                  generalize RLen (xn ^ i * xn) = R8 at *
                  obtain ⟨oc, kc, cc, od, kd, cd, ⟨-, xc, -, -, fc, -⟩, nc, dc⟩ := Inv8.out.2.1.all
                  obtain ⟨oa, ka, ca, ob, kb, cb, ⟨-, ya, yb, -, -, -⟩, na, da⟩ := Inv9.out.1.all
                  obtain ⟨oc, kc, cc, od, kd, cd, ⟨-, yc, yd, -, -, -⟩, nc2, dc2⟩ := Inv9.out.2.1.all
                  have DA := Lib.hid da; have DC := Lib.hid dc2
                  clear na da nc dc nc2 dc2 Inv8 Inv
                  go_wp2_with fail
                  refine (MD.out i (Nat.le_of_lt hlt) _ _ _ DC.out DA.out).mono ?_; rintro e w10 ⟨v10, rfl, hv10, hb10⟩
                  obtain ⟨o10, c10, rfl⟩ := hv10.shape
                  have Inv10 := Lib.hid (Inv9.out.go hb10)
                  have Inv11 := Lib.hid (Inv10.out.den LE.out NE.out hv10)
                  clear hb10 hv10 ya yb yc yd DA DC xc fc Inv9
                  generalize RLen (xd ^ i * xd) = R10 at *
                  obtain ⟨oc, kc, cc, od, kd, cd, ⟨-, -, xc, -, -, fc⟩, nc, dc⟩ := Inv10.out.2.1.all
                  have hw : wrap64 ((i : Int) + 1) = ((i + 1 : Nat) : Int) := by unfold wrap64; have := HK.out; omega
                  have HW := Lib.hid hw; have HLT := Lib.hid hlt
                  clear nc dc Inv10 hw hlt
                  go_wp2_with fail
                  go_roundw
                  case rel => exact ⟨i + 1, HLT.out, by first | exact congrArg (Value.int .i64) HW.out | go_num, Inv11.out⟩
                  case measure => have h9 := HLT.out; first | (rw [HW.out]; simp [intOf]; omega) | (simp [intOf]; omega)
                · have hik : i = k := by omega
                  subst hik
                  clear hi hlt
                  obtain ⟨oc, kc, cc, od, kd, cd, ⟨xa, xc, xd', -, -, -⟩, nc, dc⟩ := Inv.out.out.2.1.all
                  have HU : Hid (RFrac wr (.agg #[.bool true, .slice oc kc cc, .slice od kd cd]) true (xn ^ i) (xd ^ i)) := ⟨_, _, _, _, _, _, rfl, nc, dc⟩
                  have HB9 := Lib.hid Inv.out.out.2.2
                  clear nc dc Inv MU MD
                  go_wp2_with fail
                  refine (OT.out _ _ HU.out).mono ?_; rintro e w20 ⟨rfl, hb20⟩
                  have HB20 := Lib.hid (bstep HB9.out hb20); clear hb20
                  go_wp2_with fail
                  go_ret2
                  exact HOO.out _ _ ⟨rfl, HB20.out⟩

end Go.Proofs.Ytlkdahgfnfdakaa
