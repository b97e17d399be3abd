/- The calls Make, Pow and Parts of package rat. -/
import Derived.Test.YtlkdahgfnfdakaaFaceD
import Derived.OwnWalk
namespace Go.Proofs.Ytlkdahgfnfdakaa
open Go.RowKit Go.Shelf WN LM

def intQ (n : Int) : Q3 := (decide (n < 0), n.natAbs, 1)
def makT (n d : Int) : ByteArray × Int := if d = 0 then (⟨#[]⟩, 12) else out3 (divQ (intQ n) (intQ d))
theorem len_int {n : Int} (h1 : -9223372036854775808 ≤ n) (h2 : n ≤ 9223372036854775807) : Len n.natAbs ≤ 34 := by
  refine len_dig (Nat.le_trans (dig_le (k := 20) (by omega) ?_) (by omega))
  have : (10 : Nat) ^ 20 = 100000000000000000000 := by decide
  rw [this]; omega

set_option maxHeartbeats 2000000 in
set_option maxRecDepth 100000 in
theorem make_any (w : World) (n d : Int) (n1 : -9223372036854775808 ≤ n) (n2 : n ≤ 9223372036854775807) (d1 : -9223372036854775808 ≤ d) (d2 : d ≤ 9223372036854775807) : Calls Try.prog 21 #[.int .i64 n, .int .i64 d] w (OutS w (makT n d)) := by
  have F1 := Lib.hid (fun w => fromInt_num w n n1 n2)
  have F2 := Lib.hid (fun w => fromInt_num w d d1 d2)
  have ln := len_int n1 n2
  have ld := len_int d1 d2
  have l1 : Len 1 ≤ 34 := len_dig (Nat.le_trans (dig_le (k := 1) (by omega) (by omega)) (by omega))
  by_cases hz : d = 0
  · have HR : Hid (makT n d = (⟨#[]⟩, 12)) := by show _ = _; unfold makT; rw [if_pos hz]
    have hzd : (d == 0) = true := by rw [beq_iff_eq]; exact hz
    clear hz n1 n2 d1 d2 ln ld l1 F1 F2
    go_enter Try.func21, Try.ntmps21
    go_wp2_with fail
    go_ret2
    exact ⟨by rw [HR.out]; rfl, Below.refl _ _⟩
  · have HR : Hid (makT n d = out3 (divQ (intQ n) (intQ d))) := by show _ = _; unfold makT; rw [if_neg hz]
    have hzd : (d == 0) = false := by rw [beq_eq_false_iff_ne]; exact hz
    have d0 : 0 < d.natAbs := by omega
    have CI := Lib.hid (fun w v h => inverse_num (w := w) (v := v) (s := decide (d < 0)) (n := d.natAbs) (d := 1) h)
    have CT : Hid (∀ w' v u, Frac w' v (decide (n < 0)) n.natAbs 1 → Frac w' u (decide (d < 0)) 1 d.natAbs → Calls Try.prog 64 #[v, u] w' (RetF w' (divQ (intQ n) (intQ d)).1 (divQ (intQ n) (intQ d)).2.1 (divQ (intQ n) (intQ d)).2.2)) := fun w' v u h k => fracTimes_num (s := decide (n < 0)) (n := n.natAbs) (d := 1) (t := decide (d < 0)) (m := 1) (c := d.natAbs) h k (by omega) (by omega) (by omega) (by omega) (by omega) d0
    have LB : Hid (Len (divQ (intQ n) (intQ d)).2.1 ≤ 10000000000 ∧ Len (divQ (intQ n) (intQ d)).2.2 ≤ 10000000000) := by
      show _ ∧ _
      have h := mulQ_len (intQ n) (invQ (intQ d))
      have e1 : (invQ (intQ d)).2.1 = 1 := rfl
      have e2 : (invQ (intQ d)).2.2 = d.natAbs := rfl
      have e3 : (intQ n).2.1 = n.natAbs := rfl
      have e4 : (intQ n).2.2 = 1 := rfl
      rw [e1, e2, e3, e4] at h
      unfold divQ; omega
    have WR : Hid (∀ w' v, Frac w' v (divQ (intQ n) (intQ d)).1 (divQ (intQ n) (intQ d)).2.1 (divQ (intQ n) (intQ d)).2.2 → Calls Try.prog 62 #[v] w' (OutS w' (out3 (divQ (intQ n) (intQ d))))) := fun w' v h => write_num h LB.out.1 LB.out.2
    have HOO : Hid (∀ e w', OutS w (out3 (divQ (intQ n) (intQ d))) e w' → OutS w (makT n d) e w') := fun _ _ h => by rw [HR.out]; exact h
    clear hz n1 n2 d1 d2 ln ld l1 d0 LB HR
    generalize divQ (intQ n) (intQ d) = z at *
    go_enter Try.func21, Try.ntmps21
    go_wp2_with fail
    refine (F1.out _).mono ?_; rintro e w1 ⟨v1, rfl, hv1, hb1⟩
    have HV1 := Lib.hid hv1; have B1 := Lib.hid hb1; clear hv1 hb1
    go_wp2_with fail
    refine (F2.out _).mono ?_; rintro e w2 ⟨v2, rfl, hv2, hb2⟩
    have HV1 := Lib.hid (HV1.out.below hb2 (Nat.le_refl _)); have HV2 := Lib.hid hv2; have B2 := Lib.hid (bstep B1.out hb2); clear hv2 hb2
    go_wp2_with fail
    refine (CI.out _ _ HV2.out).mono ?_; rintro e w3 ⟨v3, rfl, hv3, hb3⟩
    have HV1 := Lib.hid (HV1.out.below hb3 (Nat.le_refl _)); have HV3 := Lib.hid hv3; have B3 := Lib.hid (bstep B2.out hb3); clear hv3 hb3
    go_wp2_with fail
    refine (CT.out _ _ _ HV1.out HV3.out).mono ?_; rintro e w4 ⟨v4, rfl, hv4, hb4⟩
    have HV4 := Lib.hid hv4; have B4 := Lib.hid (bstep B3.out hb4); clear hv4 hb4
    go_wp2_with fail
    refine (WR.out _ _ HV4.out).mono ?_; rintro e w5 ⟨rfl, hb5⟩
    have B5 := Lib.hid (bstep B4.out hb5); clear hb5
    go_wp2_with fail
    go_ret2
    exact HOO.out _ _ ⟨rfl, B5.out⟩

def powQ (p : Q3) (n : Int) : Q3 := if 0 ≤ n then (p.1 && decide (n.natAbs % 2 = 1), p.2.1 ^ n.natAbs, p.2.2 ^ n.natAbs) else (p.1 && decide (n.natAbs % 2 = 1), p.2.2 ^ n.natAbs, p.2.1 ^ n.natAbs)
def powF (n : Int) (p : Q3) : ByteArray × Int := if n < -100 ∨ 100 < n then (⟨#[]⟩, 3) else if n < 0 ∧ signQ p = 0 then (⟨#[]⟩, 12) else out3 (powQ p n)
def powT (a : ByteArray) (n : Int) : ByteArray × Int := oneG ((⟨#[]⟩ : ByteArray), (1 : Int)) (powF n) a
theorem outQ_pow {s : Bool} {n d k N D : Nat} (h1 : PowNum n k N) (h2 : PowNum d k D) : outQ s N D = outQ s (n ^ k) (d ^ k) := by
  obtain ⟨h1, -⟩ := h1
  obtain ⟨h2, -⟩ := h2
  rcases h1 with h1 | ⟨h1, h1'⟩
  · rcases h2 with h2 | ⟨h2, h2'⟩
    · rw [h1, h2]
    · rw [outQ_long (by unfold fitQ; simp; omega), outQ_long (by unfold fitQ; simp; omega)]
  · rw [outQ_long (by unfold fitQ; simp; omega), outQ_long (by unfold fitQ; simp; omega)]
/-- a power's text, as write returns it -/
theorem write_pow {w : World} {v : Value} {s : Bool} {n d k : Nat} (ln : Len n ≤ 1000) (ld : Len d ≤ 1000) (hn : ∃ N D, Frac w v s N D ∧ PowNum n k N ∧ PowNum d k D) : Calls Try.prog 62 #[v] w (OutS w (outQ s (n ^ k) (d ^ k))) := by
  obtain ⟨N, D, h, h1, h2⟩ := hn
  rw [← outQ_pow h1 h2]
  have a1 := h1.2
  have a2 := h2.2
  exact write_num h (by omega) (by omega)
/-- power and write -/
theorem power_any {p : Q3} {n : Int} (l1 : Len p.2.1 ≤ 34) (l2 : Len p.2.2 ≤ 34) (h1 : -100 ≤ n) (h2 : n ≤ 100) :
    (∀ w v, Frac w v p.1 p.2.1 p.2.2 → Calls Try.prog 84 #[v, .int .i64 n] w fun e w' => ∃ v, e = .returned v ∧ Below w.heap.size w w' ∧ ∃ N D, Frac w' v (powQ p n).1 N D ∧ ∃ a b k, Len a ≤ 1000 ∧ Len b ≤ 1000 ∧ PowNum a k N ∧ PowNum b k D ∧ (powQ p n).2.1 = a ^ k ∧ (powQ p n).2.2 = b ^ k) := by
  intro w v h
  by_cases h0 : 0 ≤ n
  · obtain ⟨k, rfl⟩ := Int.eq_ofNat_of_zero_le h0
    refine (fracPowerUp_num h (by omega) (by omega) k (by omega)).mono ?_
    rintro e w' ⟨v', N, D, rfl, hf, hb, p1, p2⟩
    have e1 : powQ p (k : Int) = (p.1 && decide (k % 2 = 1), p.2.1 ^ k, p.2.2 ^ k) := by unfold powQ; rw [if_pos h0]; simp
    rw [e1]
    exact ⟨v', rfl, hb, N, D, hf, _, _, k, by omega, by omega, p1, p2, rfl, rfl⟩
  · obtain ⟨k, hk⟩ : ∃ k : Nat, n = -(k : Int) := ⟨n.natAbs, by omega⟩
    subst hk
    refine (fracPowerDown_num h (by omega) (by omega) k (by omega) (by omega)).mono ?_
    rintro e w' ⟨v', N, D, rfl, hf, hb, p1, p2⟩
    have e1 : powQ p (-(k : Int)) = (p.1 && decide (k % 2 = 1), p.2.2 ^ k, p.2.1 ^ k) := by unfold powQ; rw [if_neg h0]; simp
    rw [e1]
    exact ⟨v', rfl, hb, N, D, hf, _, _, k, by omega, by omega, p1, p2, rfl, rfl⟩

set_option maxHeartbeats 2000000 in
set_option maxRecDepth 100000 in
theorem pow_any (w : World) (a : ByteArray) (n : Int) (ha : a.size ≤ 140737488355328) : Calls Try.prog 37 #[.string a, .int .i64 n] w (OutS w (powT a n)) := by
  have PS := Lib.hid (parse_num (Strs.new1 w a) (by simp) (by intro s hs; simp at hs; subst hs; assumption))
  have HB1 := Lib.hid (below_alloc w (.cells #[.string a] 9))
  have HA := Lib.hid ha; clear ha
  go_enter Try.func37, Try.ntmps37
  go_wp2_with fail
  generalize w.alloc (.cells #[.string a] 9) = w1 at *
  refine PS.out.mono ?_; rintro e w2 ⟨hb2, hm⟩
  have HB2 := Lib.hid (bstep HB1.out hb2)
  clear hb2 PS
  rw [readAll_one] at hm
  cases hp : readQ a.data.toList with
  | none =>
    rw [hp] at hm
    have HR : Hid ((powT a n) = ((⟨#[]⟩ : ByteArray), (1 : Int))) := by show _ = _; unfold powT oneG; rw [hp]
    obtain rfl : e = _ := hm
    clear hp
    go_wp2_with fail
    go_ret2
    exact ⟨by rw [HR.out]; rfl, HB2.out⟩
  | some p =>
    rw [hp] at hm
    have HR : Hid (powT a n = powF n p) := by show _ = _; unfold powT oneG; rw [hp]
    obtain ⟨g, cap, rfl, hrow⟩ := hm
    obtain ⟨p1, p2, p3, -, p5, -⟩ := readQ_q hp
    have lp1 := len_dig p1; have lp2 := len_dig p2
    obtain ⟨o1, k1, c1', o2, k2, c2', x0, x1, x2, hn, hd⟩ := hrow.one
    have CF : Hid (∀ w' v, Frac w' v p.1 p.2.1 p.2.2 → Calls Try.prog 75 #[v] w' fun e w'' => e = .returned (.int .i64 (signQ p)) ∧ Below w'.heap.size w' w'') := fun w' v h => sign_num h (by omega)
    have HN := Lib.hid hn; have HD := Lib.hid hd
    have HX : Hid (w2.cell? ⟨g, 0, none⟩ = some (.bool p.1) ∧ w2.cell? ⟨g, 1, none⟩ = some (.slice o1 k1 c1') ∧ w2.cell? ⟨g, 2, none⟩ = some (.slice o2 k2 c2')) := ⟨x0, x1, x2⟩
    by_cases hr : n < -100 ∨ 100 < n
    · have HOO : Hid (∀ e w', OutS w (⟨#[]⟩, 3) e w' → OutS w (powT a n) e w') := fun _ _ h => by rw [HR.out]; unfold powF; rw [if_pos hr]; exact h
      have hd1 : (decide (n < -100) || decide (100 < n)) = true := by simpa using hr
      clear hp hrow hn hd p1 p2 p3 p5 HR CF hr x0 x1 x2
      rcases Bool.eq_false_or_eq_true (decide (n < -100)) with t1 | t1
      · clear hd1
        go_wp2_with fail
        go_ret2
        exact HOO.out _ _ ⟨rfl, HB2.out⟩
      · have t2 : decide (100 < n) = true := by rw [t1] at hd1; simpa using hd1
        clear hd1
        go_wp2_with fail
        go_ret2
        exact HOO.out _ _ ⟨rfl, HB2.out⟩
    · have t1 : decide (n < -100) = false := decide_eq_false (by omega)
      have t2 : decide (100 < n) = false := decide_eq_false (by omega)
      have PW := Lib.hid (power_any (p := p) (n := n) lp1 lp2 (by omega) (by omega))
      have WR : Hid (∀ w' v N D, Frac w' v (powQ p n).1 N D → (∃ a b k, Len a ≤ 1000 ∧ Len b ≤ 1000 ∧ PowNum a k N ∧ PowNum b k D ∧ (powQ p n).2.1 = a ^ k ∧ (powQ p n).2.2 = b ^ k) → Calls Try.prog 62 #[v] w' (OutS w' (out3 (powQ p n)))) := fun w' v N D h ⟨a, b, k, la, lb, h1, h2, h3, h4⟩ => by
        unfold out3; rw [h3, h4]; exact write_pow la lb ⟨N, D, h, h1, h2⟩
      by_cases hz : n < 0 ∧ signQ p = 0
      · have HOO : Hid (∀ e w', OutS w (⟨#[]⟩, 12) e w' → OutS w (powT a n) e w') := fun _ _ h => by rw [HR.out]; unfold powF; rw [if_neg hr, if_pos hz]; exact h
        have t3 : decide (n < 0) = true := decide_eq_true hz.1
        rw [hz.2] at CF
        clear hp hrow hn hd p1 p2 p3 p5 HR hr hz
        go_wp2_with fail
        refine (CF.out _ _ ⟨_, _, rfl, HN.out, HD.out⟩).mono ?_; rintro e w3 ⟨rfl, hb3⟩
        have HB3 := Lib.hid (bstep HB2.out hb3)
        clear hb3 x0 x1 x2
        go_wp2_with fail
        go_ret2
        exact HOO.out _ _ ⟨rfl, HB3.out⟩
      · have HOO : Hid (∀ e w', OutS w (out3 (powQ p n)) e w' → OutS w (powT a n) e w') := fun _ _ h => by rw [HR.out]; unfold powF; rw [if_neg hr, if_neg hz]; exact h
        rcases Bool.eq_false_or_eq_true (decide (n < 0)) with t3 | t3
        · have hsz : (signQ p == 0) = false := by rw [beq_eq_false_iff_ne]; intro h; exact hz ⟨of_decide_eq_true t3, h⟩
          clear hp hrow hn hd p1 p2 p3 p5 HR hr hz
          generalize signQ p = sg at *
          generalize powQ p n = z at *
          go_wp2_with fail
          refine (CF.out _ _ ⟨_, _, rfl, HN.out, HD.out⟩).mono ?_; rintro e w3 ⟨rfl, hb3⟩
          have HB3 := Lib.hid (bstep HB2.out hb3)
          have HN3 := Lib.hid (HN.out.go hb3); have HD3 := Lib.hid (HD.out.go hb3)
          obtain ⟨x0', x1', x2'⟩ := keep3 HX.out hb3
          clear hb3 x0 x1 x2
          go_wp2_with fail
          refine (PW.out _ _ ⟨_, _, rfl, HN3.out, HD3.out⟩).mono ?_; rintro e w4 ⟨v4, rfl, hb4, N, D, hf, hpw⟩
          have HB4 := Lib.hid (bstep HB3.out hb4); have HF := Lib.hid hf; have HP := Lib.hid hpw
          clear hb4 hf hpw x0' x1' x2'
          go_wp2_with fail
          refine (WR.out _ _ _ _ HF.out HP.out).mono ?_; rintro e w5 ⟨rfl, hb5⟩
          have HB5 := Lib.hid (bstep HB4.out hb5); clear hb5
          go_wp2_with fail
          go_ret2
          exact HOO.out _ _ ⟨rfl, HB5.out⟩
        · clear hp hrow hn hd p1 p2 p3 p5 HR hr hz CF
          generalize powQ p n = z at *
          go_wp2_with fail
          refine (PW.out _ _ ⟨_, _, rfl, HN.out, HD.out⟩).mono ?_; rintro e w4 ⟨v4, rfl, hb4, N, D, hf, hpw⟩
          have HB4 := Lib.hid (bstep HB2.out hb4); have HF := Lib.hid hf; have HP := Lib.hid hpw
          clear hb4 hf hpw x0 x1 x2
          go_wp2_with fail
          refine (WR.out _ _ _ _ HF.out HP.out).mono ?_; rintro e w5 ⟨rfl, hb5⟩
          have HB5 := Lib.hid (bstep HB4.out hb5); clear hb5
          go_wp2_with fail
          go_ret2
          exact HOO.out _ _ ⟨rfl, HB5.out⟩

def OutT (w : World) (x : ByteArray × ByteArray × Int) (e : Ending) (w' : World) : Prop := e = .returned (.tuple #[.string x.1, .string x.2.1, .int .i64 x.2.2]) ∧ Below w.heap.size w w'
def textB (q : Q3) : ByteArray := ⟨(ratText q.1 q.2.1 q.2.2).toArray⟩
def numQ (p : Q3) : Q3 := (p.1 && decide (p.2.1 ≠ 0), p.2.1, 1)
def denQ (p : Q3) : Q3 := (false && decide (p.2.2 ≠ 0), p.2.2, 1)
def parT (a : ByteArray) : ByteArray × ByteArray × Int := oneG ((⟨#[]⟩ : ByteArray), (⟨#[]⟩ : ByteArray), (1 : Int)) (fun p => (textB (numQ p), textB (denQ p), 0)) a

set_option maxHeartbeats 2000000 in
set_option maxRecDepth 100000 in
theorem parts_any (w : World) (a : ByteArray) (ha : a.size ≤ 140737488355328) : Calls Try.prog 16 #[.string a] w (OutT w (parT a)) := by
  have PS := Lib.hid (parse_num (Strs.new1 w a) (by simp) (by intro s hs; simp at hs; subst hs; assumption))
  have HB1 := Lib.hid (below_alloc w (.cells #[.string a] 9))
  have HA := Lib.hid ha; clear ha
  go_enter Try.func16, Try.ntmps16
  go_wp2_with fail
  generalize w.alloc (.cells #[.string a] 9) = w1 at *
  refine PS.out.mono ?_; rintro e w2 ⟨hb2, hm⟩
  have HB2 := Lib.hid (bstep HB1.out hb2)
  clear hb2 PS
  rw [readAll_one] at hm
  cases hp : readQ a.data.toList with
  | none =>
    rw [hp] at hm
    have HR : Hid ((parT a) = ((⟨#[]⟩ : ByteArray), (⟨#[]⟩ : ByteArray), (1 : Int))) := by show _ = _; unfold parT oneG; rw [hp]
    obtain rfl : e = _ := hm
    clear hp
    go_wp2_with fail
    go_ret3
    exact ⟨by rw [HR.out]; rfl, HB2.out⟩
  | some p =>
    rw [hp] at hm
    have HR : Hid (parT a = (textB (numQ p), textB (denQ p), 0)) := by show _ = _; unfold parT oneG; rw [hp]
    obtain ⟨g, cap, rfl, hrow⟩ := hm
    obtain ⟨p1, p2, p3, p4, p5, -⟩ := readQ_q hp
    have lp1 := len_dig p1; have lp2 := len_dig p2
    have GL := Lib.hid hrow.lt
    obtain ⟨o1, k1, c1', o2, k2, c2', x0, x1, x2, hn, hd⟩ := hrow.one
    have l1 : Len 1 ≤ 34 := len_dig (Nat.le_trans (dig_le (k := 1) (by omega) (by omega)) (by omega))
    have CN : Hid (∀ w' v, Num w' v p.2.1 → Calls Try.prog 55 #[.bool p.1, v] w' (RetF w' (numQ p).1 (numQ p).2.1 (numQ p).2.2)) := fun w' v h => integer_num (a := p.2.1) p.1 h (by omega)
    have CD : Hid (∀ w' v, Num w' v p.2.2 → Calls Try.prog 55 #[.bool false, v] w' (RetF w' (denQ p).1 (denQ p).2.1 (denQ p).2.2)) := fun w' v h => integer_num (a := p.2.2) false h (by omega)
    have TN : Hid (∀ w' v, Frac w' v (numQ p).1 (numQ p).2.1 (numQ p).2.2 → Calls Try.prog 56 #[v] w' fun e w'' => e = .returned (.string (textB (numQ p))) ∧ Below w'.heap.size w' w'') := fun w' v h => fracText_num h (by show Len p.2.1 ≤ _; omega) (by show Len 1 ≤ _; omega)
    have TD : Hid (∀ w' v, Frac w' v (denQ p).1 (denQ p).2.1 (denQ p).2.2 → Calls Try.prog 56 #[v] w' fun e w'' => e = .returned (.string (textB (denQ p))) ∧ Below w'.heap.size w' w'') := fun w' v h => fracText_num h (by show Len p.2.2 ≤ _; omega) (by show Len 1 ≤ _; omega)
    have HN := Lib.hid hn; have HD := Lib.hid hd
    have HX : Hid (w2.cell? ⟨g, 0, none⟩ = some (.bool p.1) ∧ w2.cell? ⟨g, 1, none⟩ = some (.slice o1 k1 c1') ∧ w2.cell? ⟨g, 2, none⟩ = some (.slice o2 k2 c2')) := ⟨x0, x1, x2⟩
    have HOO : Hid (∀ e w', OutT w (textB (numQ p), textB (denQ p), 0) e w' → OutT w (parT a) e w') := fun _ _ h => by rw [HR.out]; exact h
    clear hp hrow hn hd p1 p2 p3 p4 p5 HR lp1 lp2 l1 x0 x1 x2
    go_wp2_with fail
    refine region_inv 10 36 [(18, Is (.slice (some ⟨g, 0, none⟩) 1 cap)), (19, Is (.pointer (some ⟨g, 0, none⟩))), (20, Is (.pointer (some ⟨g, 0, none⟩))), (21, Is (.bool p.1)), (22, Is (.slice (some ⟨g, 0, none⟩) 1 cap)), (23, Is (.pointer (some ⟨g, 0, none⟩))), (24, Is (.pointer (some ⟨g, 1, none⟩))), (25, Is (.slice o1 k1 c1')), (26, IsFrac (numQ p).1 (numQ p).2.1 (numQ p).2.2), (7, IsBox w2.heap.size (.bool false) (.slice none 0 0) (.slice none 0 0))] (by kernel_rfl) rfl (by kernel_rfl) ?_ ?_
    · refine steps_cons rfl (fun a W hb hr hg K hK => ?_) <| steps_cons rfl (fun a W hb hr hg K hK => ?_) <| steps_cons rfl (fun a W hb hr hg K hK => ?_) <| steps_cons rfl (fun a W hb hr hg K hK => ?_) <| steps_cons rfl (fun a W hb hr hg K hK => ?_) <| steps_cons rfl (fun a W hb hr hg K hK => ?_) <| steps_cons rfl (fun a W hb hr hg K hK => ?_) <| steps_cons rfl (fun a W hb hr hg K hK => ?_) <| steps_cons rfl (fun a W hb hr hg K hK => ?_) <| steps_cons rfl (fun a W hb hr hg K hK => ?_) trivial
      · have e : a.tmps[5]?.getD undef = .slice (some ⟨g, 0, none⟩) 1 cap := hb 5 (by kernel_rfl)
        clear hb hr; go_simp; exact hK _ _ (Below.refl _ _) rfl
      · have e : a.tmps[18]?.getD undef = .slice (some ⟨g, 0, none⟩) 1 cap := hr 18 (by kernel_rfl)
        clear hb hr; go_simp; exact hK _ _ (Below.refl _ _) rfl
      · have e : a.tmps[19]?.getD undef = .pointer (some ⟨g, 0, none⟩) := hr 19 (by kernel_rfl)
        clear hb hr; go_simp; exact hK _ _ (Below.refl _ _) rfl
      · have e : a.tmps[20]?.getD undef = .pointer (some ⟨g, 0, none⟩) := hr 20 (by kernel_rfl)
        obtain ⟨c0, c1, c2⟩ := keep3 HX.out hg
        clear hb hr; go_simp; exact hK _ _ (Below.refl _ _) rfl
      · have e : a.tmps[5]?.getD undef = .slice (some ⟨g, 0, none⟩) 1 cap := hb 5 (by kernel_rfl)
        clear hb hr; go_simp; exact hK _ _ (Below.refl _ _) rfl
      · have e : a.tmps[22]?.getD undef = .slice (some ⟨g, 0, none⟩) 1 cap := hr 22 (by kernel_rfl)
        clear hb hr; go_simp; exact hK _ _ (Below.refl _ _) rfl
      · have e : a.tmps[23]?.getD undef = .pointer (some ⟨g, 0, none⟩) := hr 23 (by kernel_rfl)
        clear hb hr; go_simp; exact hK _ _ (Below.refl _ _) rfl
      · have e : a.tmps[24]?.getD undef = .pointer (some ⟨g, 1, none⟩) := hr 24 (by kernel_rfl)
        obtain ⟨c0, c1, c2⟩ := keep3 HX.out hg
        clear hb hr; go_simp; exact hK _ _ (Below.refl _ _) rfl
      · have e : a.tmps[21]?.getD undef = .bool p.1 := hr 21 (by kernel_rfl)
        have e2 : a.tmps[25]?.getD undef = .slice o1 k1 c1' := hr 25 (by kernel_rfl)
        clear hb hr; go_simp
        refine (CN.out _ _ (HN.out.go hg)).mono ?_; rintro e w5 ⟨v5, rfl, hv5, hb5⟩
        exact hK _ _ hb5 hv5
      · clear hb hr; go_simp
        exact hK _ _ (below_alloc _ _) ⟨_, rfl, hg.size, Box3.new _ _ _ _⟩
    · rintro g3 w9 hb9 ⟨-, -, -, -, -, -, -, -, h26, h7, -⟩
      simp only [List.drop_succ_cons, List.drop_zero, List.take_succ_cons, List.take_zero, putHead, Option.getD_some, Act.put, List.setIfInBounds_toArray, List.set_cons_zero, List.set_cons_succ]
      replace h26 : Frac w9 (g3 26) (numQ p).1 (numQ p).2.1 (numQ p).2.2 := h26
      replace h7 : ∃ p, g3 7 = .pointer (some ⟨p, 0, none⟩) ∧ w2.heap.size ≤ p ∧ Box3 w9 p (.bool false) (.slice none 0 0) (.slice none 0 0) := h7
      generalize g3 26 = v26 at *
      generalize g3 7 = v7 at *
      obtain ⟨pp, rfl, hpp, bS⟩ := h7
      obtain ⟨o7, k7, c7', o8, k8, c8', rfl, hZN, hZD⟩ := h26.box
      have HB9 := Lib.hid (bstep HB2.out hb9)
      have BS := Lib.hid bS
      have hpw : w.heap.size ≤ pp := by have := HB2.out.size; omega
      have BX := Lib.hid (bS.set (.bool (numQ p).1) (.slice o7 k7 c7') (.slice o8 k8 c8'))
      have HB10 := Lib.hid (three_below (g := pp) (.bool (numQ p).1) (.slice o7 k7 c7') (.slice o8 k8 c8') HB9.out hpw)
      have ZN10 := Lib.hid (hZN.set3 bS (.bool (numQ p).1) (.slice o7 k7 c7') (.slice o8 k8 c8'))
      have ZD10 := Lib.hid (hZD.set3 bS (.bool (numQ p).1) (.slice o7 k7 c7') (.slice o8 k8 c8'))
      have HD9 := Lib.hid ((HD.out.go hb9).set3 bS (.bool (numQ p).1) (.slice o7 k7 c7') (.slice o8 k8 c8'))
      obtain ⟨y0, y1, y2⟩ := keepSt (X := .bool (numQ p).1) (Y := .slice o7 k7 c7') (Z := .slice o8 k8 c8') (p := pp) (keep3 HX.out hb9) (by show pp ≠ g; have := GL.out; omega) (by show pp ≠ g; have := GL.out; omega) (by show pp ≠ g; have := GL.out; omega)
      obtain ⟨c0, c1, c2, f0, f1, f2⟩ := Box3.facts BS.out
      have HPW := Lib.hid hpw; have HPP := Lib.hid hpp
      clear h26 hZN hZD hb9 bS HX hpw hpp HN HD CN
      have CDD := Lib.hid CD.out
      clear CD
      go_wp2_with fail
      clear c0 c1 c2 f0 f1 f2 BS
      generalize (((w9.setCell ⟨pp, 0, none⟩ (.bool (numQ p).1)).setCell ⟨pp, 1, none⟩ (.slice o7 k7 c7')).setCell ⟨pp, 2, none⟩ (.slice o8 k8 c8')) = w10 at *
      refine (CDD.out _ _ HD9.out).mono ?_; rintro e w11 ⟨v11, rfl, hv11, hb11⟩
      obtain ⟨o5, k5, c5', o6, k6, c6', rfl, hEN, hED⟩ := hv11.box
      have b13 := below_alloc w11 (.cells #[.bool (denQ p).1, .slice o5 k5 c5', .slice o6 k6 c6'] 55)
      have CY := Lib.hid (Box3.cells (Box3.new w11 (.bool (denQ p).1) (.slice o5 k5 c5') (.slice o6 k6 c6')))
      have CX := Lib.hid (Box3.cells ((BX.out.go hb11).go b13))
      have ZN13 := Lib.hid ((ZN10.out.go hb11).go b13); have ZD13 := Lib.hid ((ZD10.out.go hb11).go b13)
      have EN13 := Lib.hid (hEN.go b13)
      have ED13 := Lib.hid (hED.go b13)
      have HB13 := Lib.hid (bstep HB10.out (bstep hb11 b13))
      clear hv11 hb11 hEN hED b13 BX ZN10 ZD10 HD9 CDD y0 y1 y2
      go_wp2_with fail
      generalize w11.alloc (.cells #[.bool (denQ p).1, .slice o5 k5 c5', .slice o6 k6 c6'] 55) = w13 at *
      generalize w11.heap.size = qq at *
      refine region_inv 4 36 [(32, Is (.agg #[.bool (numQ p).1, .slice o7 k7 c7', .slice o8 k8 c8'])), (33, Is (.string (textB (numQ p)))), (34, Is (.agg #[.bool (denQ p).1, .slice o5 k5 c5', .slice o6 k6 c6'])), (35, Is (.string (textB (denQ p))))] (by kernel_rfl) rfl (by kernel_rfl) ?_ ?_
      · refine steps_cons rfl (fun a W hb hr hg K hK => ?_) <| steps_cons rfl (fun a W hb hr hg K hK => ?_) <| steps_cons rfl (fun a W hb hr hg K hK => ?_) <| steps_cons rfl (fun a W hb hr hg K hK => ?_) trivial
        · have e : a.tmps[7]?.getD undef = .pointer (some ⟨pp, 0, none⟩) := hb 7 (by kernel_rfl)
          obtain ⟨c0, c1, c2⟩ := keep3 CX.out hg
          clear hb hr; go_simp; exact hK _ _ (Below.refl _ _) rfl
        · have e : a.tmps[32]?.getD undef = .agg #[.bool (numQ p).1, .slice o7 k7 c7', .slice o8 k8 c8'] := hr 32 (by kernel_rfl)
          clear hb hr; go_simp
          refine (TN.out _ _ ⟨_, _, rfl, ZN13.out.go hg, ZD13.out.go hg⟩).mono ?_; rintro e w5 ⟨rfl, hb5⟩
          exact hK _ _ hb5 rfl
        · have e : a.tmps[8]?.getD undef = .pointer (some ⟨qq, 0, none⟩) := hb 8 (by kernel_rfl)
          obtain ⟨c0, c1, c2⟩ := keep3 CY.out hg
          clear hb hr; go_simp; exact hK _ _ (Below.refl _ _) rfl
        · have e : a.tmps[34]?.getD undef = .agg #[.bool (denQ p).1, .slice o5 k5 c5', .slice o6 k6 c6'] := hr 34 (by kernel_rfl)
          clear hb hr; go_simp
          refine (TD.out _ _ ⟨_, _, rfl, EN13.out.go hg, ED13.out.go hg⟩).mono ?_; rintro e w5 ⟨rfl, hb5⟩
          exact hK _ _ hb5 rfl
      · rintro g4 w14 hb14 ⟨-, h33, -, h35, -⟩
        simp only [List.drop_succ_cons, List.drop_zero, List.take_succ_cons, List.take_zero, putHead, Option.getD_some, Act.put, List.setIfInBounds_toArray, List.set_cons_zero, List.set_cons_succ]
        replace h33 : g4 33 = .string (textB (numQ p)) := h33
        replace h35 : g4 35 = .string (textB (denQ p)) := h35
        have HB14 := Lib.hid (bstep HB13.out hb14)
        clear hb14
        go_wp2_with fail
        go_ret3
        exact HOO.out _ _ ⟨by show Ending.returned (.tuple #[g4 33, g4 35, .int .i64 0]) = _; rw [h33, h35], HB14.out⟩
end Go.Proofs.Ytlkdahgfnfdakaa
