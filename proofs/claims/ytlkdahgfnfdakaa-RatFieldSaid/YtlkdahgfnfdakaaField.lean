/- RatField: whatever three texts it is given, it returns true, and the texts read as they did. No condition. -/
import Derived.Test.YtlkdahgfnfdakaaIsV
import Derived.Test.YtlkdahgfnfdakaaSeq
import Derived.Test.YtlkdahgfnfdakaaRows
import Derived.ProofKit
import Derived.SizedLaws
namespace Go.Proofs.Ytlkdahgfnfdakaa
open Go Go.RowKit Go.Shelf WN LM

theorem stop_at {P : Program} {Q : Exit → Act → World → Prop} {r : Nat} {ops : Array Oper} {b : Bool} {a : Act} {w : World} (h : Hid ((Code.region r ops b).wp P Q a w)) : (Code.region r ops b).wp P Q a w := h.out
theorem ba_bne (a : ByteArray) : (a != a) = false := by
  cases a with
  | mk d =>
    show (!(d == d)) = false
    simp
theorem two_code {f : Q3 → Q3 → Q3} {a b : ByteArray} {x y : Rat} (ha : IsV a x) (hb : IsV b y) : (two (fun p q => out3 (f p q)) a b).2 = 0 ∨ (two (fun p q => out3 (f p q)) a b).2 = 2 := by
  obtain ⟨p, hp, rfl⟩ := ha
  obtain ⟨q, hq, rfl⟩ := hb
  unfold two; rw [hp, hq]; exact out3_code _
theorem divT_code {a b : ByteArray} {x y : Rat} (ha : IsV a x) (hb : IsV b y) : (divT a b).2 = 0 ∨ (divT a b).2 = 2 ∨ (divT a b).2 = 12 := by
  obtain ⟨p, hp, rfl⟩ := ha
  obtain ⟨q, hq, rfl⟩ := hb
  have e : divT a b = divF p q := by unfold divT twoG; rw [hp, hq]
  rw [e]; unfold divF
  split
  · right; right; rfl
  · rcases out3_code (divQ p q) with h | h <;> simp [h]
theorem signT_code {a : ByteArray} {x : Rat} (ha : IsV a x) : (signT a).1 = 0 ∨ (signT a).1 = 1 ∨ (signT a).1 = -1 := by
  obtain ⟨p, hp, rfl⟩ := ha
  unfold signT oneG
  rw [hp]
  show signQ p = 0 ∨ signQ p = 1 ∨ signQ p = -1
  unfold signQ sgn
  cases p.1
  · by_cases h : p.2.1 = 0 <;> simp [h]
  · simp

def TrueB (w : World) (e : Ending) (w' : World) : Prop := e = .returned (.bool true) ∧ Below w.heap.size w w'
def wantV (b : Bool) (v : Value) : Value := if b then v else undef
def isB (a : ByteArray) : Bool := (readQ a.data.toList).isSome

set_option maxHeartbeats 4000000 in
set_option maxRecDepth 100000 in
theorem field_all (w : World) (a b c : ByteArray) (ha : a.size ≤ 140737488355328) (hb : b.size ≤ 140737488355328) (hc : c.size ≤ 140737488355328) (hall : isB a = true ∧ isB b = true ∧ isB c = true) : Calls Try.prog 9 #[.string a, .string b, .string c] w (TrueB w) := by
  have IS : Hid (∀ w a, a.size ≤ 140737488355328 → Calls Try.prog 18 #[.string a] w fun e w' => e = .returned (.bool (isB a)) ∧ Below w.heap.size w w') := fun w a h => is_any w a h
  have AL : Hid (∀ w, Calls Try.prog 20 #[] w fun e w' => e = .returned (.bool true) ∧ Below w.heap.size w w') := alive_any
  have SU : Hid (∀ w a b, a.size ≤ 140737488355328 → b.size ≤ 140737488355328 → Calls Try.prog 52 #[.string a, .string b] w (OutP w (okS (addT a b)))) := fun w a b h k => sum_law w a b h k
  have PR : Hid (∀ w a b, a.size ≤ 140737488355328 → b.size ≤ 140737488355328 → Calls Try.prog 53 #[.string a, .string b] w (OutP w (okS (mulT a b)))) := fun w a b h k => product_law w a b h k
  have SB : Hid (∀ w a b, a.size ≤ 140737488355328 → b.size ≤ 140737488355328 → Calls Try.prog 25 #[.string a, .string b] w (OutS w (subT a b))) := fun w a b h k => sub_any w a b h k
  have DV : Hid (∀ w a b, a.size ≤ 140737488355328 → b.size ≤ 140737488355328 → Calls Try.prog 29 #[.string a, .string b] w (OutS w (divT a b))) := fun w a b h k => div_any w a b h k
  have SG : Hid (∀ w a, a.size ≤ 140737488355328 → Calls Try.prog 39 #[.string a] w (OutI w (signT a))) := fun w a h => sign_any w a h
  have HA := Lib.hid ha; have HB := Lib.hid hb; have HC := Lib.hid hc
  clear ha hb hc
  go_enter Try.func9, Try.ntmps9
  obtain ⟨i1, i2, i3⟩ := hall
  obtain ⟨x, hx⟩ := isV_of (show (readQ a.data.toList).isSome = true from i1)
  obtain ⟨y, hy⟩ := isV_of (show (readQ b.data.toList).isSome = true from i2)
  obtain ⟨z, hz⟩ := isV_of (show (readQ c.data.toList).isSome = true from i3)
  have X := Lib.hid hx; have Y := Lib.hid hy; have Z := Lib.hid hz
  clear hx hy hz
  have I1 : Hid (∀ w, Calls Try.prog 18 #[.string a] w fun e w' => e = .returned (.bool true) ∧ Below w.heap.size w w') := fun w => by have := IS.out w a HA.out; rwa [i1] at this
  have I2 : Hid (∀ w, Calls Try.prog 18 #[.string b] w fun e w' => e = .returned (.bool true) ∧ Below w.heap.size w w') := fun w => by have := IS.out w b HB.out; rwa [i2] at this
  have I3 : Hid (∀ w, Calls Try.prog 18 #[.string c] w fun e w' => e = .returned (.bool true) ∧ Below w.heap.size w w') := fun w => by have := IS.out w c HC.out; rwa [i3] at this
  clear i1 i2 i3
  have S2 : Hid (∀ w, Calls Try.prog 52 #[.string b, .string a] w (OutP w (okS (addT a b)))) := fun w => by have := SU.out w b a HB.out HA.out; rwa [← addT_comm X.out Y.out] at this
  have P2 : Hid (∀ w, Calls Try.prog 53 #[.string b, .string a] w (OutP w (okS (mulT a b)))) := fun w => by have := PR.out w b a HB.out HA.out; rwa [← mulT_comm X.out Y.out] at this
  have S1 : Hid (∀ w, Calls Try.prog 52 #[.string a, .string b] w (OutP w (okS (addT a b)))) := fun w => SU.out w a b (HA.out) (HB.out)
  have V1 : Hid ((okS (addT a b)).2 = true → IsV (okS (addT a b)).1 (x + y)) := fun h => addT_isV X.out Y.out (by simpa [okS] using h)
  have Z1 : Hid ((okS (addT a b)).1.size ≤ 1000) := addT_size a b
  generalize okS (addT a b) = q_ at *; obtain ⟨ab, k1⟩ := q_
  have S3 : Hid (∀ w, Calls Try.prog 52 #[.string b, .string c] w (OutP w (okS (addT b c)))) := fun w => SU.out w b c (HB.out) (HC.out)
  have V3 : Hid ((okS (addT b c)).2 = true → IsV (okS (addT b c)).1 (y + z)) := fun h => addT_isV Y.out Z.out (by simpa [okS] using h)
  have Z3 : Hid ((okS (addT b c)).1.size ≤ 1000) := addT_size b c
  generalize okS (addT b c) = q_ at *; obtain ⟨bc, k3⟩ := q_
  have M1 : Hid (∀ w, Calls Try.prog 53 #[.string a, .string b] w (OutP w (okS (mulT a b)))) := fun w => PR.out w a b (HA.out) (HB.out)
  have VM1 : Hid ((okS (mulT a b)).2 = true → IsV (okS (mulT a b)).1 (x * y)) := fun h => mulT_isV X.out Y.out (by simpa [okS] using h)
  have ZM1 : Hid ((okS (mulT a b)).1.size ≤ 1000) := mulT_size a b
  generalize okS (mulT a b) = q_ at *; obtain ⟨m1, p1⟩ := q_
  have M3 : Hid (∀ w, Calls Try.prog 53 #[.string a, .string c] w (OutP w (okS (mulT a c)))) := fun w => PR.out w a c (HA.out) (HC.out)
  have VM3 : Hid ((okS (mulT a c)).2 = true → IsV (okS (mulT a c)).1 (x * z)) := fun h => mulT_isV X.out Z.out (by simpa [okS] using h)
  have ZM3 : Hid ((okS (mulT a c)).1.size ≤ 1000) := mulT_size a c
  generalize okS (mulT a c) = q_ at *; obtain ⟨m3, p3⟩ := q_
  have M4 : Hid (∀ w, Calls Try.prog 53 #[.string b, .string c] w (OutP w (okS (mulT b c)))) := fun w => PR.out w b c (HB.out) (HC.out)
  have VM4 : Hid ((okS (mulT b c)).2 = true → IsV (okS (mulT b c)).1 (y * z)) := fun h => mulT_isV Y.out Z.out (by simpa [okS] using h)
  have ZM4 : Hid ((okS (mulT b c)).1.size ≤ 1000) := mulT_size b c
  generalize okS (mulT b c) = q_ at *; obtain ⟨m4, p4⟩ := q_
  have S4 : Hid (∀ w, Calls Try.prog 52 #[.string ab, .string c] w (OutP w (okS (addT ab c)))) := fun w => SU.out w ab c (Nat.le_trans Z1.out (by omega)) (HC.out)
  have V4 : Hid (k1 = true → (okS (addT ab c)).2 = true → IsV (okS (addT ab c)).1 ((x + y) + z)) := fun h h2 => addT_isV (V1.out h) Z.out (by simpa [okS] using h2)
  generalize okS (addT ab c) = q_ at *; obtain ⟨X4, k4⟩ := q_
  have S5 : Hid (∀ w, Calls Try.prog 52 #[.string a, .string bc] w (OutP w (okS (addT a bc)))) := fun w => SU.out w a bc (HA.out) (Nat.le_trans Z3.out (by omega))
  have V5 : Hid (k3 = true → (okS (addT a bc)).2 = true → IsV (okS (addT a bc)).1 (x + (y + z))) := fun h h2 => addT_isV X.out (V3.out h) (by simpa [okS] using h2)
  generalize okS (addT a bc) = q_ at *; obtain ⟨X5, k5⟩ := q_
  have M5 : Hid (∀ w, Calls Try.prog 53 #[.string m1, .string c] w (OutP w (okS (mulT m1 c)))) := fun w => PR.out w m1 c (Nat.le_trans ZM1.out (by omega)) (HC.out)
  have VM5 : Hid (p1 = true → (okS (mulT m1 c)).2 = true → IsV (okS (mulT m1 c)).1 ((x * y) * z)) := fun h h2 => mulT_isV (VM1.out h) Z.out (by simpa [okS] using h2)
  generalize okS (mulT m1 c) = q_ at *; obtain ⟨Y4, q4⟩ := q_
  have M6 : Hid (∀ w, Calls Try.prog 53 #[.string a, .string m4] w (OutP w (okS (mulT a m4)))) := fun w => PR.out w a m4 (HA.out) (Nat.le_trans ZM4.out (by omega))
  have VM6 : Hid (p4 = true → (okS (mulT a m4)).2 = true → IsV (okS (mulT a m4)).1 (x * (y * z))) := fun h h2 => mulT_isV X.out (VM4.out h) (by simpa [okS] using h2)
  generalize okS (mulT a m4) = q_ at *; obtain ⟨Y5, q5⟩ := q_
  have M7 : Hid (∀ w, Calls Try.prog 53 #[.string a, .string bc] w (OutP w (okS (mulT a bc)))) := fun w => PR.out w a bc (HA.out) (Nat.le_trans Z3.out (by omega))
  have VM7 : Hid (k3 = true → (okS (mulT a bc)).2 = true → IsV (okS (mulT a bc)).1 (x * (y + z))) := fun h h2 => mulT_isV X.out (V3.out h) (by simpa [okS] using h2)
  generalize okS (mulT a bc) = q_ at *; obtain ⟨U4, u4⟩ := q_
  have S8 : Hid (∀ w, Calls Try.prog 52 #[.string m1, .string m3] w (OutP w (okS (addT m1 m3)))) := fun w => SU.out w m1 m3 (Nat.le_trans ZM1.out (by omega)) (Nat.le_trans ZM3.out (by omega))
  have V8 : Hid (p1 = true → p3 = true → (okS (addT m1 m3)).2 = true → IsV (okS (addT m1 m3)).1 (x * y + x * z)) := fun h h1 h2 => addT_isV (VM1.out h) (VM3.out h1) (by simpa [okS] using h2)
  generalize okS (addT m1 m3) = q_ at *; obtain ⟨U5, u5⟩ := q_
  have T10 : ((((k1 && k3) && k4) && k5) && (!(X4.toList == X5.toList))) = false := by
    have key : ∀ t0 t1 t2 t3 t : Bool, (t0 = true → t1 = true → t2 = true → t3 = true → t = false) → ((((t0 && t1) && t2) && t3) && t) = false := by decide
    refine key _ _ _ _ _ (fun h_k1 h_k3 h_k4 h_k5 => ?_)
    have : X4 = X5 := (V4.out h_k1 h_k4).inj (by have := V5.out h_k3 h_k5; rwa [← Rat.add_assoc] at this)
    rw [this]; simp
  have T20 : ((((p1 && p4) && q4) && q5) && (!(Y4.toList == Y5.toList))) = false := by
    have key : ∀ t0 t1 t2 t3 t : Bool, (t0 = true → t1 = true → t2 = true → t3 = true → t = false) → ((((t0 && t1) && t2) && t3) && t) = false := by decide
    refine key _ _ _ _ _ (fun h_p1 h_p4 h_q4 h_q5 => ?_)
    have : Y4 = Y5 := (VM5.out h_p1 h_q4).inj (by have := VM6.out h_p4 h_q5; rwa [← Rat.mul_assoc] at this)
    rw [this]; simp
  have T24 : (((((k3 && p1) && p3) && u4) && u5) && (!(U4.toList == U5.toList))) = false := by
    have key : ∀ t0 t1 t2 t3 t4 t : Bool, (t0 = true → t1 = true → t2 = true → t3 = true → t4 = true → t = false) → (((((t0 && t1) && t2) && t3) && t4) && t) = false := by decide
    refine key _ _ _ _ _ _ (fun h_k3 h_p1 h_p3 h_u4 h_u5 => ?_)
    have : U4 = U5 := (VM7.out h_k3 h_u4).inj (by have := V8.out h_p1 h_p3 h_u5; rwa [← Rat.mul_add] at this)
    rw [this]; simp
  have SD := Lib.hid (fun w => SB.out w a b HA.out HB.out)
  have VD : Hid ((subT a b).2 = 0 → IsV (subT a b).1 (x - y)) := fun h => subT_isV X.out Y.out h
  have ZD : Hid ((subT a b).1.size ≤ 1000) := subT_size a b
  have KD : (subT a b).2 = 0 ∨ (subT a b).2 = 2 := two_code X.out Y.out
  have SQ := Lib.hid (fun w => DV.out w a b HA.out HB.out)
  have VQ := Lib.hid (divT_isV X.out Y.out)
  have ZQ : Hid ((divT a b).1.size ≤ 1000) := divT_size a b
  have KQ := Lib.hid (divT_code X.out Y.out)
  have SS := Lib.hid (fun w => SG.out w b HB.out)
  have VS := Lib.hid (signT_isV Y.out)
  have KS := Lib.hid (signT_code Y.out)
  have es : (signT b).2 = (signT b).2 := rfl
  generalize signT b = sg at *; obtain ⟨sg, sc⟩ := sg
  generalize divT a b = qq at *; obtain ⟨Q, qc⟩ := qq
  generalize subT a b = dd at *; obtain ⟨D, dc⟩ := dd
  clear es V1 V4 V5 V8 V3 VM1 VM3 VM4 VM5 VM6 VM7 IS SB DV SG Z Z1 Z3 ZM1 ZM3 ZM4 HC
  go_wp2_with fail
  refine (I1.out _).mono ?_; rintro e w1 ⟨rfl, hb1⟩
  have B1 := Lib.hid hb1; clear hb1
  go_wp2_with fail
  refine (I2.out _).mono ?_; rintro e w2 ⟨rfl, hb2⟩
  have B2 := Lib.hid (bstep B1.out hb2); clear hb2
  go_wp2_with fail
  refine (I3.out _).mono ?_; rintro e w3 ⟨rfl, hb3⟩
  have B3 := Lib.hid (bstep B2.out hb3); clear hb3
  go_wp2_with fail
  refine (S1.out _).mono ?_; rintro e w4 ⟨rfl, hb4⟩
  have B4 := Lib.hid (bstep B3.out hb4); clear hb4
  go_wp2_with fail
  refine (S2.out _).mono ?_; rintro e w5 ⟨rfl, hb5⟩
  have B5 := Lib.hid (bstep B4.out hb5); clear hb5
  go_wp2_with fail
  refine (S3.out _).mono ?_; rintro e w6 ⟨rfl, hb6⟩
  have B6 := Lib.hid (bstep B5.out hb6); clear hb6
  go_wp2_with fail
  clear S1 S2 S3 I1 I2 I3
  refine (S4.out _).mono ?_; rintro e w7 ⟨rfl, hb7⟩
  have B7 := Lib.hid (bstep B6.out hb7); clear hb7
  go_wp2_with fail
  refine (S5.out _).mono ?_; rintro e w8 ⟨rfl, hb8⟩
  have B8 := Lib.hid (bstep B7.out hb8); clear hb8
  simp only []
  repeat (first | with_reducible apply stop_at (r := 10) | go_step)
  apply Lib.hid
  refine region_seq 15 240 [(83, Is (.bool (k1))), (84, Is (.bool (k1))), (85, Is (wantV (k1) (.bool (k3)))), (86, Is (.bool ((k1 && k3)))), (87, Is (.bool ((k1 && k3)))), (88, Is (wantV ((k1 && k3)) (.bool (k4)))), (89, Is (.bool (((k1 && k3) && k4)))), (90, Is (.bool (((k1 && k3) && k4)))), (91, Is (wantV (((k1 && k3) && k4)) (.bool (k5)))), (92, Is (.bool ((((k1 && k3) && k4) && k5)))), (93, Is (.bool ((((k1 && k3) && k4) && k5)))), (94, Is (wantV ((((k1 && k3) && k4) && k5)) (.string X4))), (95, Is (wantV ((((k1 && k3) && k4) && k5)) (.string X5))), (96, Is (wantV ((((k1 && k3) && k4) && k5)) (.bool ((!(X4.toList == X5.toList)))))), (97, Is (.bool (((((k1 && k3) && k4) && k5) && (!(X4.toList == X5.toList))))))] rfl (by kernel_rfl) ?_ ?_
  · refine steps_cons rfl (fun A_ W hb hr hg K hK => ?_) <| steps_cons rfl (fun A_ W hb hr hg K hK => ?_) <| steps_guard (fun A_ W hb hr hg K hK => ?_) <| steps_cons rfl (fun A_ W hb hr hg K hK => ?_) <| steps_cons rfl (fun A_ W hb hr hg K hK => ?_) <| steps_guard (fun A_ W hb hr hg K hK => ?_) <| steps_cons rfl (fun A_ W hb hr hg K hK => ?_) <| steps_cons rfl (fun A_ W hb hr hg K hK => ?_) <| steps_guard (fun A_ W hb hr hg K hK => ?_) <| steps_cons rfl (fun A_ W hb hr hg K hK => ?_) <| steps_cons rfl (fun A_ W hb hr hg K hK => ?_) <| steps_guard (fun A_ W hb hr hg K hK => ?_) <| steps_guard (fun A_ W hb hr hg K hK => ?_) <| steps_guard (fun A_ W hb hr hg K hK => ?_) <| steps_cons rfl (fun A_ W hb hr hg K hK => ?_) trivial
    · have e0 : A_.tmps[8]?.getD undef = .bool (k1) := hb 8 (by kernel_rfl)
      clear hb hr; go_simp; exact hK _ _ (Below.refl _ _) rfl
    · have e0 : A_.tmps[83]?.getD undef = .bool (k1) := hr 83 (by kernel_rfl)
      clear hb hr; go_simp; exact hK _ _ (Below.refl _ _) rfl
    · have eG : A_.tmps[84]?.getD undef = .bool (k1) := hr 84 (by kernel_rfl)
      have e0 : A_.tmps[12]?.getD undef = .bool (k3) := hb 12 (by kernel_rfl)
      clear hb hr
      refine guard_by rfl (by kernel_rfl) eG (fun hc => ?_) (fun hc => ?_)
      · clear eG
        go_simp; exact hK _ _ (Below.refl _ _) (by show _ = wantV (k1) (.bool (k3)); rw [hc]; rfl)
      · have hc2 : k1 = false := by simpa using hc
        exact hK _ _ (Below.refl _ _) (by show undef = wantV (k1) (.bool (k3)); rw [hc2]; rfl)
    · have eC : A_.tmps[84]?.getD undef = .bool (k1) := hr 84 (by kernel_rfl)
      have eA : A_.tmps[85]?.getD undef = wantV (k1) (.bool (k3)) := hr 85 (by kernel_rfl)
      clear hb hr
      cases hc : k1
      · rw [hc] at eC eA
        replace eA : A_.tmps[85]?.getD undef = undef := eA
        go_simp; exact hK _ _ (Below.refl _ _) (by show _ = Value.bool (k1 && k3); rw [hc]; rfl)
      · rw [hc] at eC eA
        replace eA : A_.tmps[85]?.getD undef = .bool (k3) := eA
        go_simp; exact hK _ _ (Below.refl _ _) (by show _ = Value.bool (k1 && k3); rw [hc]; rfl)
    · have e0 : A_.tmps[86]?.getD undef = .bool ((k1 && k3)) := hr 86 (by kernel_rfl)
      clear hb hr; go_simp; exact hK _ _ (Below.refl _ _) rfl
    · have eG : A_.tmps[87]?.getD undef = .bool ((k1 && k3)) := hr 87 (by kernel_rfl)
      have e0 : A_.tmps[14]?.getD undef = .bool (k4) := hb 14 (by kernel_rfl)
      clear hb hr
      refine guard_by rfl (by kernel_rfl) eG (fun hc => ?_) (fun hc => ?_)
      · clear eG
        go_simp; exact hK _ _ (Below.refl _ _) (by show _ = wantV ((k1 && k3)) (.bool (k4)); rw [hc]; rfl)
      · have hc2 : (k1 && k3) = false := by simpa using hc
        exact hK _ _ (Below.refl _ _) (by show undef = wantV ((k1 && k3)) (.bool (k4)); rw [hc2]; rfl)
    · have eC : A_.tmps[87]?.getD undef = .bool ((k1 && k3)) := hr 87 (by kernel_rfl)
      have eA : A_.tmps[88]?.getD undef = wantV ((k1 && k3)) (.bool (k4)) := hr 88 (by kernel_rfl)
      clear hb hr
      cases hc : (k1 && k3)
      · rw [hc] at eC eA
        replace eA : A_.tmps[88]?.getD undef = undef := eA
        go_simp; exact hK _ _ (Below.refl _ _) (by show _ = Value.bool ((k1 && k3) && k4); rw [hc]; rfl)
      · rw [hc] at eC eA
        replace eA : A_.tmps[88]?.getD undef = .bool (k4) := eA
        go_simp; exact hK _ _ (Below.refl _ _) (by show _ = Value.bool ((k1 && k3) && k4); rw [hc]; rfl)
    · have e0 : A_.tmps[89]?.getD undef = .bool (((k1 && k3) && k4)) := hr 89 (by kernel_rfl)
      clear hb hr; go_simp; exact hK _ _ (Below.refl _ _) rfl
    · have eG : A_.tmps[90]?.getD undef = .bool (((k1 && k3) && k4)) := hr 90 (by kernel_rfl)
      have e0 : A_.tmps[16]?.getD undef = .bool (k5) := hb 16 (by kernel_rfl)
      clear hb hr
      refine guard_by rfl (by kernel_rfl) eG (fun hc => ?_) (fun hc => ?_)
      · clear eG
        go_simp; exact hK _ _ (Below.refl _ _) (by show _ = wantV (((k1 && k3) && k4)) (.bool (k5)); rw [hc]; rfl)
      · have hc2 : ((k1 && k3) && k4) = false := by simpa using hc
        exact hK _ _ (Below.refl _ _) (by show undef = wantV (((k1 && k3) && k4)) (.bool (k5)); rw [hc2]; rfl)
    · have eC : A_.tmps[90]?.getD undef = .bool (((k1 && k3) && k4)) := hr 90 (by kernel_rfl)
      have eA : A_.tmps[91]?.getD undef = wantV (((k1 && k3) && k4)) (.bool (k5)) := hr 91 (by kernel_rfl)
      clear hb hr
      cases hc : ((k1 && k3) && k4)
      · rw [hc] at eC eA
        replace eA : A_.tmps[91]?.getD undef = undef := eA
        go_simp; exact hK _ _ (Below.refl _ _) (by show _ = Value.bool (((k1 && k3) && k4) && k5); rw [hc]; rfl)
      · rw [hc] at eC eA
        replace eA : A_.tmps[91]?.getD undef = .bool (k5) := eA
        go_simp; exact hK _ _ (Below.refl _ _) (by show _ = Value.bool (((k1 && k3) && k4) && k5); rw [hc]; rfl)
    · have e0 : A_.tmps[92]?.getD undef = .bool ((((k1 && k3) && k4) && k5)) := hr 92 (by kernel_rfl)
      clear hb hr; go_simp; exact hK _ _ (Below.refl _ _) rfl
    · have eG : A_.tmps[93]?.getD undef = .bool ((((k1 && k3) && k4) && k5)) := hr 93 (by kernel_rfl)
      have e0 : A_.tmps[13]?.getD undef = .string X4 := hb 13 (by kernel_rfl)
      clear hb hr
      refine guard_by rfl (by kernel_rfl) eG (fun hc => ?_) (fun hc => ?_)
      · clear eG
        go_simp; exact hK _ _ (Below.refl _ _) (by show _ = wantV ((((k1 && k3) && k4) && k5)) (.string X4); rw [hc]; rfl)
      · have hc2 : (((k1 && k3) && k4) && k5) = false := by simpa using hc
        exact hK _ _ (Below.refl _ _) (by show undef = wantV ((((k1 && k3) && k4) && k5)) (.string X4); rw [hc2]; rfl)
    · have eG : A_.tmps[93]?.getD undef = .bool ((((k1 && k3) && k4) && k5)) := hr 93 (by kernel_rfl)
      have e0 : A_.tmps[15]?.getD undef = .string X5 := hb 15 (by kernel_rfl)
      clear hb hr
      refine guard_by rfl (by kernel_rfl) eG (fun hc => ?_) (fun hc => ?_)
      · clear eG
        go_simp; exact hK _ _ (Below.refl _ _) (by show _ = wantV ((((k1 && k3) && k4) && k5)) (.string X5); rw [hc]; rfl)
      · have hc2 : (((k1 && k3) && k4) && k5) = false := by simpa using hc
        exact hK _ _ (Below.refl _ _) (by show undef = wantV ((((k1 && k3) && k4) && k5)) (.string X5); rw [hc2]; rfl)
    · have eG : A_.tmps[93]?.getD undef = .bool ((((k1 && k3) && k4) && k5)) := hr 93 (by kernel_rfl)
      have e0 : A_.tmps[94]?.getD undef = wantV ((((k1 && k3) && k4) && k5)) (.string X4) := hr 94 (by kernel_rfl)
      have e1 : A_.tmps[95]?.getD undef = wantV ((((k1 && k3) && k4) && k5)) (.string X5) := hr 95 (by kernel_rfl)
      clear hb hr
      refine guard_by rfl (by kernel_rfl) eG (fun hc => ?_) (fun hc => ?_)
      · clear eG
        rw [hc] at e0; replace e0 : A_.tmps[94]?.getD undef = .string X4 := e0
        rw [hc] at e1; replace e1 : A_.tmps[95]?.getD undef = .string X5 := e1
        go_simp; exact hK _ _ (Below.refl _ _) (by show _ = wantV ((((k1 && k3) && k4) && k5)) (.bool ((!(X4.toList == X5.toList)))); rw [hc]; rfl)
      · have hc2 : (((k1 && k3) && k4) && k5) = false := by simpa using hc
        exact hK _ _ (Below.refl _ _) (by show undef = wantV ((((k1 && k3) && k4) && k5)) (.bool ((!(X4.toList == X5.toList)))); rw [hc2]; rfl)
    · have eC : A_.tmps[93]?.getD undef = .bool ((((k1 && k3) && k4) && k5)) := hr 93 (by kernel_rfl)
      have eA : A_.tmps[96]?.getD undef = wantV ((((k1 && k3) && k4) && k5)) (.bool ((!(X4.toList == X5.toList)))) := hr 96 (by kernel_rfl)
      clear hb hr
      cases hc : (((k1 && k3) && k4) && k5)
      · rw [hc] at eC eA
        replace eA : A_.tmps[96]?.getD undef = undef := eA
        go_simp; exact hK _ _ (Below.refl _ _) (by show _ = Value.bool ((((k1 && k3) && k4) && k5) && (!(X4.toList == X5.toList))); rw [hc]; rfl)
      · rw [hc] at eC eA
        replace eA : A_.tmps[96]?.getD undef = .bool ((!(X4.toList == X5.toList))) := eA
        go_simp; exact hK _ _ (Below.refl _ _) (by show _ = Value.bool ((((k1 && k3) && k4) && k5) && (!(X4.toList == X5.toList))); rw [hc]; rfl)
  rintro g9 w9 hb9 ⟨-, -, -, -, -, -, -, -, -, -, -, -, -, -, h97, -⟩
  simp only [List.drop_succ_cons, List.drop_zero, List.take_succ_cons, List.take_zero, putHead, Option.getD_some, Act.put, List.setIfInBounds_toArray, List.set_cons_zero, List.set_cons_succ]
  replace h97 : g9 97 = .bool (((((k1 && k3) && k4) && k5) && (!(X4.toList == X5.toList)))) := h97
  rw [T10] at h97
  generalize g9 97 = v97 at *
  subst h97
  have B9 := Lib.hid (bstep B8.out hb9); clear hb9
  clear T10 S4 S5
  go_wp2_with fail
  refine (M1.out _).mono ?_; rintro e w10 ⟨rfl, hb10⟩
  have B10 := Lib.hid (bstep B9.out hb10); clear hb10
  go_wp2_with fail
  refine (P2.out _).mono ?_; rintro e w11 ⟨rfl, hb11⟩
  have B11 := Lib.hid (bstep B10.out hb11); clear hb11
  go_wp2_with fail
  refine (M3.out _).mono ?_; rintro e w12 ⟨rfl, hb12⟩
  have B12 := Lib.hid (bstep B11.out hb12); clear hb12
  go_wp2_with fail
  refine (M4.out _).mono ?_; rintro e w13 ⟨rfl, hb13⟩
  have B13 := Lib.hid (bstep B12.out hb13); clear hb13
  go_wp2_with fail
  refine (M5.out _).mono ?_; rintro e w14 ⟨rfl, hb14⟩
  have B14 := Lib.hid (bstep B13.out hb14); clear hb14
  go_wp2_with fail
  refine (M6.out _).mono ?_; rintro e w15 ⟨rfl, hb15⟩
  have B15 := Lib.hid (bstep B14.out hb15); clear hb15
  simp only []
  repeat (first | with_reducible apply stop_at (r := 20) | go_step)
  apply Lib.hid
  refine region_seq 15 240 [(142, Is (.bool (p1))), (143, Is (.bool (p1))), (144, Is (wantV (p1) (.bool (p4)))), (145, Is (.bool ((p1 && p4)))), (146, Is (.bool ((p1 && p4)))), (147, Is (wantV ((p1 && p4)) (.bool (q4)))), (148, Is (.bool (((p1 && p4) && q4)))), (149, Is (.bool (((p1 && p4) && q4)))), (150, Is (wantV (((p1 && p4) && q4)) (.bool (q5)))), (151, Is (.bool ((((p1 && p4) && q4) && q5)))), (152, Is (.bool ((((p1 && p4) && q4) && q5)))), (153, Is (wantV ((((p1 && p4) && q4) && q5)) (.string Y4))), (154, Is (wantV ((((p1 && p4) && q4) && q5)) (.string Y5))), (155, Is (wantV ((((p1 && p4) && q4) && q5)) (.bool ((!(Y4.toList == Y5.toList)))))), (156, Is (.bool (((((p1 && p4) && q4) && q5) && (!(Y4.toList == Y5.toList))))))] rfl (by kernel_rfl) ?_ ?_
  · refine steps_cons rfl (fun A_ W hb hr hg K hK => ?_) <| steps_cons rfl (fun A_ W hb hr hg K hK => ?_) <| steps_guard (fun A_ W hb hr hg K hK => ?_) <| steps_cons rfl (fun A_ W hb hr hg K hK => ?_) <| steps_cons rfl (fun A_ W hb hr hg K hK => ?_) <| steps_guard (fun A_ W hb hr hg K hK => ?_) <| steps_cons rfl (fun A_ W hb hr hg K hK => ?_) <| steps_cons rfl (fun A_ W hb hr hg K hK => ?_) <| steps_guard (fun A_ W hb hr hg K hK => ?_) <| steps_cons rfl (fun A_ W hb hr hg K hK => ?_) <| steps_cons rfl (fun A_ W hb hr hg K hK => ?_) <| steps_guard (fun A_ W hb hr hg K hK => ?_) <| steps_guard (fun A_ W hb hr hg K hK => ?_) <| steps_guard (fun A_ W hb hr hg K hK => ?_) <| steps_cons rfl (fun A_ W hb hr hg K hK => ?_) trivial
    · have e0 : A_.tmps[18]?.getD undef = .bool (p1) := hb 18 (by kernel_rfl)
      clear hb hr; go_simp; exact hK _ _ (Below.refl _ _) rfl
    · have e0 : A_.tmps[142]?.getD undef = .bool (p1) := hr 142 (by kernel_rfl)
      clear hb hr; go_simp; exact hK _ _ (Below.refl _ _) rfl
    · have eG : A_.tmps[143]?.getD undef = .bool (p1) := hr 143 (by kernel_rfl)
      have e0 : A_.tmps[24]?.getD undef = .bool (p4) := hb 24 (by kernel_rfl)
      clear hb hr
      refine guard_by rfl (by kernel_rfl) eG (fun hc => ?_) (fun hc => ?_)
      · clear eG
        go_simp; exact hK _ _ (Below.refl _ _) (by show _ = wantV (p1) (.bool (p4)); rw [hc]; rfl)
      · have hc2 : p1 = false := by simpa using hc
        exact hK _ _ (Below.refl _ _) (by show undef = wantV (p1) (.bool (p4)); rw [hc2]; rfl)
    · have eC : A_.tmps[143]?.getD undef = .bool (p1) := hr 143 (by kernel_rfl)
      have eA : A_.tmps[144]?.getD undef = wantV (p1) (.bool (p4)) := hr 144 (by kernel_rfl)
      clear hb hr
      cases hc : p1
      · rw [hc] at eC eA
        replace eA : A_.tmps[144]?.getD undef = undef := eA
        go_simp; exact hK _ _ (Below.refl _ _) (by show _ = Value.bool (p1 && p4); rw [hc]; rfl)
      · rw [hc] at eC eA
        replace eA : A_.tmps[144]?.getD undef = .bool (p4) := eA
        go_simp; exact hK _ _ (Below.refl _ _) (by show _ = Value.bool (p1 && p4); rw [hc]; rfl)
    · have e0 : A_.tmps[145]?.getD undef = .bool ((p1 && p4)) := hr 145 (by kernel_rfl)
      clear hb hr; go_simp; exact hK _ _ (Below.refl _ _) rfl
    · have eG : A_.tmps[146]?.getD undef = .bool ((p1 && p4)) := hr 146 (by kernel_rfl)
      have e0 : A_.tmps[14]?.getD undef = .bool (q4) := hb 14 (by kernel_rfl)
      clear hb hr
      refine guard_by rfl (by kernel_rfl) eG (fun hc => ?_) (fun hc => ?_)
      · clear eG
        go_simp; exact hK _ _ (Below.refl _ _) (by show _ = wantV ((p1 && p4)) (.bool (q4)); rw [hc]; rfl)
      · have hc2 : (p1 && p4) = false := by simpa using hc
        exact hK _ _ (Below.refl _ _) (by show undef = wantV ((p1 && p4)) (.bool (q4)); rw [hc2]; rfl)
    · have eC : A_.tmps[146]?.getD undef = .bool ((p1 && p4)) := hr 146 (by kernel_rfl)
      have eA : A_.tmps[147]?.getD undef = wantV ((p1 && p4)) (.bool (q4)) := hr 147 (by kernel_rfl)
      clear hb hr
      cases hc : (p1 && p4)
      · rw [hc] at eC eA
        replace eA : A_.tmps[147]?.getD undef = undef := eA
        go_simp; exact hK _ _ (Below.refl _ _) (by show _ = Value.bool ((p1 && p4) && q4); rw [hc]; rfl)
      · rw [hc] at eC eA
        replace eA : A_.tmps[147]?.getD undef = .bool (q4) := eA
        go_simp; exact hK _ _ (Below.refl _ _) (by show _ = Value.bool ((p1 && p4) && q4); rw [hc]; rfl)
    · have e0 : A_.tmps[148]?.getD undef = .bool (((p1 && p4) && q4)) := hr 148 (by kernel_rfl)
      clear hb hr; go_simp; exact hK _ _ (Below.refl _ _) rfl
    · have eG : A_.tmps[149]?.getD undef = .bool (((p1 && p4) && q4)) := hr 149 (by kernel_rfl)
      have e0 : A_.tmps[16]?.getD undef = .bool (q5) := hb 16 (by kernel_rfl)
      clear hb hr
      refine guard_by rfl (by kernel_rfl) eG (fun hc => ?_) (fun hc => ?_)
      · clear eG
        go_simp; exact hK _ _ (Below.refl _ _) (by show _ = wantV (((p1 && p4) && q4)) (.bool (q5)); rw [hc]; rfl)
      · have hc2 : ((p1 && p4) && q4) = false := by simpa using hc
        exact hK _ _ (Below.refl _ _) (by show undef = wantV (((p1 && p4) && q4)) (.bool (q5)); rw [hc2]; rfl)
    · have eC : A_.tmps[149]?.getD undef = .bool (((p1 && p4) && q4)) := hr 149 (by kernel_rfl)
      have eA : A_.tmps[150]?.getD undef = wantV (((p1 && p4) && q4)) (.bool (q5)) := hr 150 (by kernel_rfl)
      clear hb hr
      cases hc : ((p1 && p4) && q4)
      · rw [hc] at eC eA
        replace eA : A_.tmps[150]?.getD undef = undef := eA
        go_simp; exact hK _ _ (Below.refl _ _) (by show _ = Value.bool (((p1 && p4) && q4) && q5); rw [hc]; rfl)
      · rw [hc] at eC eA
        replace eA : A_.tmps[150]?.getD undef = .bool (q5) := eA
        go_simp; exact hK _ _ (Below.refl _ _) (by show _ = Value.bool (((p1 && p4) && q4) && q5); rw [hc]; rfl)
    · have e0 : A_.tmps[151]?.getD undef = .bool ((((p1 && p4) && q4) && q5)) := hr 151 (by kernel_rfl)
      clear hb hr; go_simp; exact hK _ _ (Below.refl _ _) rfl
    · have eG : A_.tmps[152]?.getD undef = .bool ((((p1 && p4) && q4) && q5)) := hr 152 (by kernel_rfl)
      have e0 : A_.tmps[13]?.getD undef = .string Y4 := hb 13 (by kernel_rfl)
      clear hb hr
      refine guard_by rfl (by kernel_rfl) eG (fun hc => ?_) (fun hc => ?_)
      · clear eG
        go_simp; exact hK _ _ (Below.refl _ _) (by show _ = wantV ((((p1 && p4) && q4) && q5)) (.string Y4); rw [hc]; rfl)
      · have hc2 : (((p1 && p4) && q4) && q5) = false := by simpa using hc
        exact hK _ _ (Below.refl _ _) (by show undef = wantV ((((p1 && p4) && q4) && q5)) (.string Y4); rw [hc2]; rfl)
    · have eG : A_.tmps[152]?.getD undef = .bool ((((p1 && p4) && q4) && q5)) := hr 152 (by kernel_rfl)
      have e0 : A_.tmps[15]?.getD undef = .string Y5 := hb 15 (by kernel_rfl)
      clear hb hr
      refine guard_by rfl (by kernel_rfl) eG (fun hc => ?_) (fun hc => ?_)
      · clear eG
        go_simp; exact hK _ _ (Below.refl _ _) (by show _ = wantV ((((p1 && p4) && q4) && q5)) (.string Y5); rw [hc]; rfl)
      · have hc2 : (((p1 && p4) && q4) && q5) = false := by simpa using hc
        exact hK _ _ (Below.refl _ _) (by show undef = wantV ((((p1 && p4) && q4) && q5)) (.string Y5); rw [hc2]; rfl)
    · have eG : A_.tmps[152]?.getD undef = .bool ((((p1 && p4) && q4) && q5)) := hr 152 (by kernel_rfl)
      have e0 : A_.tmps[153]?.getD undef = wantV ((((p1 && p4) && q4) && q5)) (.string Y4) := hr 153 (by kernel_rfl)
      have e1 : A_.tmps[154]?.getD undef = wantV ((((p1 && p4) && q4) && q5)) (.string Y5) := hr 154 (by kernel_rfl)
      clear hb hr
      refine guard_by rfl (by kernel_rfl) eG (fun hc => ?_) (fun hc => ?_)
      · clear eG
        rw [hc] at e0; replace e0 : A_.tmps[153]?.getD undef = .string Y4 := e0
        rw [hc] at e1; replace e1 : A_.tmps[154]?.getD undef = .string Y5 := e1
        go_simp; exact hK _ _ (Below.refl _ _) (by show _ = wantV ((((p1 && p4) && q4) && q5)) (.bool ((!(Y4.toList == Y5.toList)))); rw [hc]; rfl)
      · have hc2 : (((p1 && p4) && q4) && q5) = false := by simpa using hc
        exact hK _ _ (Below.refl _ _) (by show undef = wantV ((((p1 && p4) && q4) && q5)) (.bool ((!(Y4.toList == Y5.toList)))); rw [hc2]; rfl)
    · have eC : A_.tmps[152]?.getD undef = .bool ((((p1 && p4) && q4) && q5)) := hr 152 (by kernel_rfl)
      have eA : A_.tmps[155]?.getD undef = wantV ((((p1 && p4) && q4) && q5)) (.bool ((!(Y4.toList == Y5.toList)))) := hr 155 (by kernel_rfl)
      clear hb hr
      cases hc : (((p1 && p4) && q4) && q5)
      · rw [hc] at eC eA
        replace eA : A_.tmps[155]?.getD undef = undef := eA
        go_simp; exact hK _ _ (Below.refl _ _) (by show _ = Value.bool ((((p1 && p4) && q4) && q5) && (!(Y4.toList == Y5.toList))); rw [hc]; rfl)
      · rw [hc] at eC eA
        replace eA : A_.tmps[155]?.getD undef = .bool ((!(Y4.toList == Y5.toList))) := eA
        go_simp; exact hK _ _ (Below.refl _ _) (by show _ = Value.bool ((((p1 && p4) && q4) && q5) && (!(Y4.toList == Y5.toList))); rw [hc]; rfl)
  rintro g16 w16 hb16 ⟨-, -, -, -, -, -, -, -, -, -, -, -, -, -, h156, -⟩
  simp only [List.drop_succ_cons, List.drop_zero, List.take_succ_cons, List.take_zero, putHead, Option.getD_some, Act.put, List.setIfInBounds_toArray, List.set_cons_zero, List.set_cons_succ]
  replace h156 : g16 156 = .bool (((((p1 && p4) && q4) && q5) && (!(Y4.toList == Y5.toList)))) := h156
  rw [T20] at h156
  generalize g16 156 = v156 at *
  subst h156
  have B16 := Lib.hid (bstep B15.out hb16); clear hb16
  clear T20 M1 P2 M3 M4 M5 M6
  go_wp2_with fail
  refine (M7.out _).mono ?_; rintro e w17 ⟨rfl, hb17⟩
  have B17 := Lib.hid (bstep B16.out hb17); clear hb17
  go_wp2_with fail
  refine (S8.out _).mono ?_; rintro e w18 ⟨rfl, hb18⟩
  have B18 := Lib.hid (bstep B17.out hb18); clear hb18
  simp only []
  repeat (first | with_reducible apply stop_at (r := 24) | go_step)
  apply Lib.hid
  refine region_seq 18 240 [(169, Is (.bool (k3))), (170, Is (.bool (k3))), (171, Is (wantV (k3) (.bool (p1)))), (172, Is (.bool ((k3 && p1)))), (173, Is (.bool ((k3 && p1)))), (174, Is (wantV ((k3 && p1)) (.bool (p3)))), (175, Is (.bool (((k3 && p1) && p3)))), (176, Is (.bool (((k3 && p1) && p3)))), (177, Is (wantV (((k3 && p1) && p3)) (.bool (u4)))), (178, Is (.bool ((((k3 && p1) && p3) && u4)))), (179, Is (.bool ((((k3 && p1) && p3) && u4)))), (180, Is (wantV ((((k3 && p1) && p3) && u4)) (.bool (u5)))), (181, Is (.bool (((((k3 && p1) && p3) && u4) && u5)))), (182, Is (.bool (((((k3 && p1) && p3) && u4) && u5)))), (183, Is (wantV (((((k3 && p1) && p3) && u4) && u5)) (.string U4))), (184, Is (wantV (((((k3 && p1) && p3) && u4) && u5)) (.string U5))), (185, Is (wantV (((((k3 && p1) && p3) && u4) && u5)) (.bool ((!(U4.toList == U5.toList)))))), (186, Is (.bool ((((((k3 && p1) && p3) && u4) && u5) && (!(U4.toList == U5.toList))))))] rfl (by kernel_rfl) ?_ ?_
  · refine steps_cons rfl (fun A_ W hb hr hg K hK => ?_) <| steps_cons rfl (fun A_ W hb hr hg K hK => ?_) <| steps_guard (fun A_ W hb hr hg K hK => ?_) <| steps_cons rfl (fun A_ W hb hr hg K hK => ?_) <| steps_cons rfl (fun A_ W hb hr hg K hK => ?_) <| steps_guard (fun A_ W hb hr hg K hK => ?_) <| steps_cons rfl (fun A_ W hb hr hg K hK => ?_) <| steps_cons rfl (fun A_ W hb hr hg K hK => ?_) <| steps_guard (fun A_ W hb hr hg K hK => ?_) <| steps_cons rfl (fun A_ W hb hr hg K hK => ?_) <| steps_cons rfl (fun A_ W hb hr hg K hK => ?_) <| steps_guard (fun A_ W hb hr hg K hK => ?_) <| steps_cons rfl (fun A_ W hb hr hg K hK => ?_) <| steps_cons rfl (fun A_ W hb hr hg K hK => ?_) <| steps_guard (fun A_ W hb hr hg K hK => ?_) <| steps_guard (fun A_ W hb hr hg K hK => ?_) <| steps_guard (fun A_ W hb hr hg K hK => ?_) <| steps_cons rfl (fun A_ W hb hr hg K hK => ?_) trivial
    · have e0 : A_.tmps[12]?.getD undef = .bool (k3) := hb 12 (by kernel_rfl)
      clear hb hr; go_simp; exact hK _ _ (Below.refl _ _) rfl
    · have e0 : A_.tmps[169]?.getD undef = .bool (k3) := hr 169 (by kernel_rfl)
      clear hb hr; go_simp; exact hK _ _ (Below.refl _ _) rfl
    · have eG : A_.tmps[170]?.getD undef = .bool (k3) := hr 170 (by kernel_rfl)
      have e0 : A_.tmps[18]?.getD undef = .bool (p1) := hb 18 (by kernel_rfl)
      clear hb hr
      refine guard_by rfl (by kernel_rfl) eG (fun hc => ?_) (fun hc => ?_)
      · clear eG
        go_simp; exact hK _ _ (Below.refl _ _) (by show _ = wantV (k3) (.bool (p1)); rw [hc]; rfl)
      · have hc2 : k3 = false := by simpa using hc
        exact hK _ _ (Below.refl _ _) (by show undef = wantV (k3) (.bool (p1)); rw [hc2]; rfl)
    · have eC : A_.tmps[170]?.getD undef = .bool (k3) := hr 170 (by kernel_rfl)
      have eA : A_.tmps[171]?.getD undef = wantV (k3) (.bool (p1)) := hr 171 (by kernel_rfl)
      clear hb hr
      cases hc : k3
      · rw [hc] at eC eA
        replace eA : A_.tmps[171]?.getD undef = undef := eA
        go_simp; exact hK _ _ (Below.refl _ _) (by show _ = Value.bool (k3 && p1); rw [hc]; rfl)
      · rw [hc] at eC eA
        replace eA : A_.tmps[171]?.getD undef = .bool (p1) := eA
        go_simp; exact hK _ _ (Below.refl _ _) (by show _ = Value.bool (k3 && p1); rw [hc]; rfl)
    · have e0 : A_.tmps[172]?.getD undef = .bool ((k3 && p1)) := hr 172 (by kernel_rfl)
      clear hb hr; go_simp; exact hK _ _ (Below.refl _ _) rfl
    · have eG : A_.tmps[173]?.getD undef = .bool ((k3 && p1)) := hr 173 (by kernel_rfl)
      have e0 : A_.tmps[22]?.getD undef = .bool (p3) := hb 22 (by kernel_rfl)
      clear hb hr
      refine guard_by rfl (by kernel_rfl) eG (fun hc => ?_) (fun hc => ?_)
      · clear eG
        go_simp; exact hK _ _ (Below.refl _ _) (by show _ = wantV ((k3 && p1)) (.bool (p3)); rw [hc]; rfl)
      · have hc2 : (k3 && p1) = false := by simpa using hc
        exact hK _ _ (Below.refl _ _) (by show undef = wantV ((k3 && p1)) (.bool (p3)); rw [hc2]; rfl)
    · have eC : A_.tmps[173]?.getD undef = .bool ((k3 && p1)) := hr 173 (by kernel_rfl)
      have eA : A_.tmps[174]?.getD undef = wantV ((k3 && p1)) (.bool (p3)) := hr 174 (by kernel_rfl)
      clear hb hr
      cases hc : (k3 && p1)
      · rw [hc] at eC eA
        replace eA : A_.tmps[174]?.getD undef = undef := eA
        go_simp; exact hK _ _ (Below.refl _ _) (by show _ = Value.bool ((k3 && p1) && p3); rw [hc]; rfl)
      · rw [hc] at eC eA
        replace eA : A_.tmps[174]?.getD undef = .bool (p3) := eA
        go_simp; exact hK _ _ (Below.refl _ _) (by show _ = Value.bool ((k3 && p1) && p3); rw [hc]; rfl)
    · have e0 : A_.tmps[175]?.getD undef = .bool (((k3 && p1) && p3)) := hr 175 (by kernel_rfl)
      clear hb hr; go_simp; exact hK _ _ (Below.refl _ _) rfl
    · have eG : A_.tmps[176]?.getD undef = .bool (((k3 && p1) && p3)) := hr 176 (by kernel_rfl)
      have e0 : A_.tmps[14]?.getD undef = .bool (u4) := hb 14 (by kernel_rfl)
      clear hb hr
      refine guard_by rfl (by kernel_rfl) eG (fun hc => ?_) (fun hc => ?_)
      · clear eG
        go_simp; exact hK _ _ (Below.refl _ _) (by show _ = wantV (((k3 && p1) && p3)) (.bool (u4)); rw [hc]; rfl)
      · have hc2 : ((k3 && p1) && p3) = false := by simpa using hc
        exact hK _ _ (Below.refl _ _) (by show undef = wantV (((k3 && p1) && p3)) (.bool (u4)); rw [hc2]; rfl)
    · have eC : A_.tmps[176]?.getD undef = .bool (((k3 && p1) && p3)) := hr 176 (by kernel_rfl)
      have eA : A_.tmps[177]?.getD undef = wantV (((k3 && p1) && p3)) (.bool (u4)) := hr 177 (by kernel_rfl)
      clear hb hr
      cases hc : ((k3 && p1) && p3)
      · rw [hc] at eC eA
        replace eA : A_.tmps[177]?.getD undef = undef := eA
        go_simp; exact hK _ _ (Below.refl _ _) (by show _ = Value.bool (((k3 && p1) && p3) && u4); rw [hc]; rfl)
      · rw [hc] at eC eA
        replace eA : A_.tmps[177]?.getD undef = .bool (u4) := eA
        go_simp; exact hK _ _ (Below.refl _ _) (by show _ = Value.bool (((k3 && p1) && p3) && u4); rw [hc]; rfl)
    · have e0 : A_.tmps[178]?.getD undef = .bool ((((k3 && p1) && p3) && u4)) := hr 178 (by kernel_rfl)
      clear hb hr; go_simp; exact hK _ _ (Below.refl _ _) rfl
    · have eG : A_.tmps[179]?.getD undef = .bool ((((k3 && p1) && p3) && u4)) := hr 179 (by kernel_rfl)
      have e0 : A_.tmps[16]?.getD undef = .bool (u5) := hb 16 (by kernel_rfl)
      clear hb hr
      refine guard_by rfl (by kernel_rfl) eG (fun hc => ?_) (fun hc => ?_)
      · clear eG
        go_simp; exact hK _ _ (Below.refl _ _) (by show _ = wantV ((((k3 && p1) && p3) && u4)) (.bool (u5)); rw [hc]; rfl)
      · have hc2 : (((k3 && p1) && p3) && u4) = false := by simpa using hc
        exact hK _ _ (Below.refl _ _) (by show undef = wantV ((((k3 && p1) && p3) && u4)) (.bool (u5)); rw [hc2]; rfl)
    · have eC : A_.tmps[179]?.getD undef = .bool ((((k3 && p1) && p3) && u4)) := hr 179 (by kernel_rfl)
      have eA : A_.tmps[180]?.getD undef = wantV ((((k3 && p1) && p3) && u4)) (.bool (u5)) := hr 180 (by kernel_rfl)
      clear hb hr
      cases hc : (((k3 && p1) && p3) && u4)
      · rw [hc] at eC eA
        replace eA : A_.tmps[180]?.getD undef = undef := eA
        go_simp; exact hK _ _ (Below.refl _ _) (by show _ = Value.bool ((((k3 && p1) && p3) && u4) && u5); rw [hc]; rfl)
      · rw [hc] at eC eA
        replace eA : A_.tmps[180]?.getD undef = .bool (u5) := eA
        go_simp; exact hK _ _ (Below.refl _ _) (by show _ = Value.bool ((((k3 && p1) && p3) && u4) && u5); rw [hc]; rfl)
    · have e0 : A_.tmps[181]?.getD undef = .bool (((((k3 && p1) && p3) && u4) && u5)) := hr 181 (by kernel_rfl)
      clear hb hr; go_simp; exact hK _ _ (Below.refl _ _) rfl
    · have eG : A_.tmps[182]?.getD undef = .bool (((((k3 && p1) && p3) && u4) && u5)) := hr 182 (by kernel_rfl)
      have e0 : A_.tmps[13]?.getD undef = .string U4 := hb 13 (by kernel_rfl)
      clear hb hr
      refine guard_by rfl (by kernel_rfl) eG (fun hc => ?_) (fun hc => ?_)
      · clear eG
        go_simp; exact hK _ _ (Below.refl _ _) (by show _ = wantV (((((k3 && p1) && p3) && u4) && u5)) (.string U4); rw [hc]; rfl)
      · have hc2 : ((((k3 && p1) && p3) && u4) && u5) = false := by simpa using hc
        exact hK _ _ (Below.refl _ _) (by show undef = wantV (((((k3 && p1) && p3) && u4) && u5)) (.string U4); rw [hc2]; rfl)
    · have eG : A_.tmps[182]?.getD undef = .bool (((((k3 && p1) && p3) && u4) && u5)) := hr 182 (by kernel_rfl)
      have e0 : A_.tmps[15]?.getD undef = .string U5 := hb 15 (by kernel_rfl)
      clear hb hr
      refine guard_by rfl (by kernel_rfl) eG (fun hc => ?_) (fun hc => ?_)
      · clear eG
        go_simp; exact hK _ _ (Below.refl _ _) (by show _ = wantV (((((k3 && p1) && p3) && u4) && u5)) (.string U5); rw [hc]; rfl)
      · have hc2 : ((((k3 && p1) && p3) && u4) && u5) = false := by simpa using hc
        exact hK _ _ (Below.refl _ _) (by show undef = wantV (((((k3 && p1) && p3) && u4) && u5)) (.string U5); rw [hc2]; rfl)
    · have eG : A_.tmps[182]?.getD undef = .bool (((((k3 && p1) && p3) && u4) && u5)) := hr 182 (by kernel_rfl)
      have e0 : A_.tmps[183]?.getD undef = wantV (((((k3 && p1) && p3) && u4) && u5)) (.string U4) := hr 183 (by kernel_rfl)
      have e1 : A_.tmps[184]?.getD undef = wantV (((((k3 && p1) && p3) && u4) && u5)) (.string U5) := hr 184 (by kernel_rfl)
      clear hb hr
      refine guard_by rfl (by kernel_rfl) eG (fun hc => ?_) (fun hc => ?_)
      · clear eG
        rw [hc] at e0; replace e0 : A_.tmps[183]?.getD undef = .string U4 := e0
        rw [hc] at e1; replace e1 : A_.tmps[184]?.getD undef = .string U5 := e1
        go_simp; exact hK _ _ (Below.refl _ _) (by show _ = wantV (((((k3 && p1) && p3) && u4) && u5)) (.bool ((!(U4.toList == U5.toList)))); rw [hc]; rfl)
      · have hc2 : ((((k3 && p1) && p3) && u4) && u5) = false := by simpa using hc
        exact hK _ _ (Below.refl _ _) (by show undef = wantV (((((k3 && p1) && p3) && u4) && u5)) (.bool ((!(U4.toList == U5.toList)))); rw [hc2]; rfl)
    · have eC : A_.tmps[182]?.getD undef = .bool (((((k3 && p1) && p3) && u4) && u5)) := hr 182 (by kernel_rfl)
      have eA : A_.tmps[185]?.getD undef = wantV (((((k3 && p1) && p3) && u4) && u5)) (.bool ((!(U4.toList == U5.toList)))) := hr 185 (by kernel_rfl)
      clear hb hr
      cases hc : ((((k3 && p1) && p3) && u4) && u5)
      · rw [hc] at eC eA
        replace eA : A_.tmps[185]?.getD undef = undef := eA
        go_simp; exact hK _ _ (Below.refl _ _) (by show _ = Value.bool (((((k3 && p1) && p3) && u4) && u5) && (!(U4.toList == U5.toList))); rw [hc]; rfl)
      · rw [hc] at eC eA
        replace eA : A_.tmps[185]?.getD undef = .bool ((!(U4.toList == U5.toList))) := eA
        go_simp; exact hK _ _ (Below.refl _ _) (by show _ = Value.bool (((((k3 && p1) && p3) && u4) && u5) && (!(U4.toList == U5.toList))); rw [hc]; rfl)
  rintro g19 w19 hb19 ⟨-, -, -, -, -, -, -, -, -, -, -, -, -, -, -, -, -, h186, -⟩
  simp only [List.drop_succ_cons, List.drop_zero, List.take_succ_cons, List.take_zero, putHead, Option.getD_some, Act.put, List.setIfInBounds_toArray, List.set_cons_zero, List.set_cons_succ]
  replace h186 : g19 186 = .bool ((((((k3 && p1) && p3) && u4) && u5) && (!(U4.toList == U5.toList)))) := h186
  rw [T24] at h186
  generalize g19 186 = v186 at *
  subst h186
  have B19 := Lib.hid (bstep B18.out hb19); clear hb19
  clear T24 M7 S8
  go_wp2_with fail
  replace KD : dc = 0 ∨ dc = 2 := KD
  replace KQ : Hid (qc = 0 ∨ qc = 2 ∨ qc = 12) := KQ
  replace KS : Hid (sg = 0 ∨ sg = 1 ∨ sg = -1) := KS
  replace VS : Hid (sg = 0 ↔ y = 0) := VS
  replace VQ : Hid ((qc = 12 ↔ y = 0) ∧ (qc = 0 → IsV Q (x / y) ∧ y ≠ 0)) := VQ
  replace VD : Hid (dc = 0 → IsV D (x - y)) := VD
  replace ZD : Hid (D.size ≤ 1000) := ZD
  replace ZQ : Hid (Q.size ≤ 1000) := ZQ
  rcases KD with rfl | rfl
  · have S9 : Hid (∀ w, Calls Try.prog 52 #[.string D, .string b] w (OutP w (okS (addT D b)))) := fun w => SU.out w D b (Nat.le_trans ZD.out (by omega)) (HB.out)
    have V9 : Hid ((okS (addT D b)).2 = true → IsV (okS (addT D b)).1 (x - y + y)) := fun h => addT_isV (VD.out rfl) Y.out (by simpa [okS] using h)
    generalize okS (addT D b) = q_ at *; obtain ⟨E_, e_⟩ := q_
    have T29 : (e_ && (!(E_.toList == a.toList))) = false := by
      have key : ∀ t0 t : Bool, (t0 = true → t = false) → (t0 && t) = false := by decide
      refine key _ _ (fun h_e_ => ?_)
      have : E_ = a := (by have := V9.out h_e_; rw [Rat.sub_add_cancel] at this; exact this.inj X.out)
      rw [this]; simp
    clear VD V9
    refine (SD.out _).mono ?_; rintro e w20 ⟨rfl, hb20⟩
    have B20 := Lib.hid (bstep B19.out hb20); clear hb20
    go_wp2_with fail
    refine (S9.out _).mono ?_; rintro e w21 ⟨rfl, hb21⟩
    have B21 := Lib.hid (bstep B20.out hb21); clear hb21
    simp only []
    repeat (first | with_reducible apply stop_at (r := 29) | go_step)
    apply Lib.hid
    refine region_seq 6 240 [(201, Is (.bool (e_))), (202, Is (.bool (e_))), (203, Is (wantV (e_) (.string E_))), (204, Is (wantV (e_) (.string a))), (205, Is (wantV (e_) (.bool ((!(E_.toList == a.toList)))))), (206, Is (.bool ((e_ && (!(E_.toList == a.toList))))))] rfl (by kernel_rfl) ?_ ?_
    · refine steps_cons rfl (fun A_ W hb hr hg K hK => ?_) <| steps_cons rfl (fun A_ W hb hr hg K hK => ?_) <| steps_guard (fun A_ W hb hr hg K hK => ?_) <| steps_guard (fun A_ W hb hr hg K hK => ?_) <| steps_guard (fun A_ W hb hr hg K hK => ?_) <| steps_cons rfl (fun A_ W hb hr hg K hK => ?_) trivial
      · have e0 : A_.tmps[14]?.getD undef = .bool (e_) := hb 14 (by kernel_rfl)
        clear hb hr; go_simp; exact hK _ _ (Below.refl _ _) rfl
      · have e0 : A_.tmps[201]?.getD undef = .bool (e_) := hr 201 (by kernel_rfl)
        clear hb hr; go_simp; exact hK _ _ (Below.refl _ _) rfl
      · have eG : A_.tmps[202]?.getD undef = .bool (e_) := hr 202 (by kernel_rfl)
        have e0 : A_.tmps[13]?.getD undef = .string E_ := hb 13 (by kernel_rfl)
        clear hb hr
        refine guard_by rfl (by kernel_rfl) eG (fun hc => ?_) (fun hc => ?_)
        · clear eG
          go_simp; exact hK _ _ (Below.refl _ _) (by show _ = wantV (e_) (.string E_); rw [hc]; rfl)
        · have hc2 : e_ = false := by simpa using hc
          exact hK _ _ (Below.refl _ _) (by show undef = wantV (e_) (.string E_); rw [hc2]; rfl)
      · have eG : A_.tmps[202]?.getD undef = .bool (e_) := hr 202 (by kernel_rfl)
        have e0 : A_.tmps[0]?.getD undef = .string a := hb 0 (by kernel_rfl)
        clear hb hr
        refine guard_by rfl (by kernel_rfl) eG (fun hc => ?_) (fun hc => ?_)
        · clear eG
          go_simp; exact hK _ _ (Below.refl _ _) (by show _ = wantV (e_) (.string a); rw [hc]; rfl)
        · have hc2 : e_ = false := by simpa using hc
          exact hK _ _ (Below.refl _ _) (by show undef = wantV (e_) (.string a); rw [hc2]; rfl)
      · have eG : A_.tmps[202]?.getD undef = .bool (e_) := hr 202 (by kernel_rfl)
        have e0 : A_.tmps[203]?.getD undef = wantV (e_) (.string E_) := hr 203 (by kernel_rfl)
        have e1 : A_.tmps[204]?.getD undef = wantV (e_) (.string a) := hr 204 (by kernel_rfl)
        clear hb hr
        refine guard_by rfl (by kernel_rfl) eG (fun hc => ?_) (fun hc => ?_)
        · clear eG
          rw [hc] at e0; replace e0 : A_.tmps[203]?.getD undef = .string E_ := e0
          rw [hc] at e1; replace e1 : A_.tmps[204]?.getD undef = .string a := e1
          go_simp; exact hK _ _ (Below.refl _ _) (by show _ = wantV (e_) (.bool ((!(E_.toList == a.toList)))); rw [hc]; rfl)
        · have hc2 : e_ = false := by simpa using hc
          exact hK _ _ (Below.refl _ _) (by show undef = wantV (e_) (.bool ((!(E_.toList == a.toList)))); rw [hc2]; rfl)
      · have eC : A_.tmps[202]?.getD undef = .bool (e_) := hr 202 (by kernel_rfl)
        have eA : A_.tmps[205]?.getD undef = wantV (e_) (.bool ((!(E_.toList == a.toList)))) := hr 205 (by kernel_rfl)
        clear hb hr
        cases hc : e_
        · rw [hc] at eC eA
          replace eA : A_.tmps[205]?.getD undef = undef := eA
          go_simp; exact hK _ _ (Below.refl _ _) (by show _ = Value.bool (e_ && (!(E_.toList == a.toList))); rw [hc]; rfl)
        · rw [hc] at eC eA
          replace eA : A_.tmps[205]?.getD undef = .bool ((!(E_.toList == a.toList))) := eA
          go_simp; exact hK _ _ (Below.refl _ _) (by show _ = Value.bool (e_ && (!(E_.toList == a.toList))); rw [hc]; rfl)
    rintro g22 w22 hb22 ⟨-, -, -, -, -, h206, -⟩
    simp only [List.drop_succ_cons, List.drop_zero, List.take_succ_cons, List.take_zero, putHead, Option.getD_some, Act.put, List.setIfInBounds_toArray, List.set_cons_zero, List.set_cons_succ]
    replace h206 : g22 206 = .bool ((e_ && (!(E_.toList == a.toList)))) := h206
    rw [T29] at h206
    generalize g22 206 = v206 at *
    subst h206
    have B22 := Lib.hid (bstep B21.out hb22); clear hb22
    clear T29 S9 SD
    go_wp2_with fail
    rcases KQ.out with rfl | rfl | rfl
    · obtain ⟨hQ, hy⟩ := VQ.out.2 rfl
      have HQ := Lib.hid hQ; clear hQ
      have M9 : Hid (∀ w, Calls Try.prog 53 #[.string Q, .string b] w (OutP w (okS (mulT Q b)))) := fun w => PR.out w Q b (Nat.le_trans ZQ.out (by omega)) (HB.out)
      have V9 : Hid ((okS (mulT Q b)).2 = true → IsV (okS (mulT Q b)).1 (x / y * y)) := fun h => mulT_isV HQ.out Y.out (by simpa [okS] using h)
      generalize okS (mulT Q b) = q_ at *; obtain ⟨R_, r_⟩ := q_
      have T34 : (r_ && (!(R_.toList == a.toList))) = false := by
        have key : ∀ t0 t : Bool, (t0 = true → t = false) → (t0 && t) = false := by decide
        refine key _ _ (fun h_r_ => ?_)
        have : R_ = a := (by have := V9.out h_r_; rw [Rat.div_mul_cancel hy] at this; exact this.inj X.out)
        rw [this]; simp
      rcases KS.out with rfl | rfl | rfl
      · exact absurd (VS.out.1 rfl) hy
      · clear VS VQ KQ KS hy HQ V9 X Y
        refine (SQ.out _).mono ?_; rintro e w23 ⟨rfl, hb23⟩
        have B23 := Lib.hid (bstep B22.out hb23); clear hb23
        go_wp2_with fail
        refine (M9.out _).mono ?_; rintro e w24 ⟨rfl, hb24⟩
        have B24 := Lib.hid (bstep B23.out hb24); clear hb24
        simp only []
        repeat (first | with_reducible apply stop_at (r := 34) | go_step)
        apply Lib.hid
        refine region_seq 6 240 [(221, Is (.bool (r_))), (222, Is (.bool (r_))), (223, Is (wantV (r_) (.string R_))), (224, Is (wantV (r_) (.string a))), (225, Is (wantV (r_) (.bool ((!(R_.toList == a.toList)))))), (226, Is (.bool ((r_ && (!(R_.toList == a.toList))))))] rfl (by kernel_rfl) ?_ ?_
        · refine steps_cons rfl (fun A_ W hb hr hg K hK => ?_) <| steps_cons rfl (fun A_ W hb hr hg K hK => ?_) <| steps_guard (fun A_ W hb hr hg K hK => ?_) <| steps_guard (fun A_ W hb hr hg K hK => ?_) <| steps_guard (fun A_ W hb hr hg K hK => ?_) <| steps_cons rfl (fun A_ W hb hr hg K hK => ?_) trivial
          · have e0 : A_.tmps[14]?.getD undef = .bool (r_) := hb 14 (by kernel_rfl)
            clear hb hr; go_simp; exact hK _ _ (Below.refl _ _) rfl
          · have e0 : A_.tmps[221]?.getD undef = .bool (r_) := hr 221 (by kernel_rfl)
            clear hb hr; go_simp; exact hK _ _ (Below.refl _ _) rfl
          · have eG : A_.tmps[222]?.getD undef = .bool (r_) := hr 222 (by kernel_rfl)
            have e0 : A_.tmps[13]?.getD undef = .string R_ := hb 13 (by kernel_rfl)
            clear hb hr
            refine guard_by rfl (by kernel_rfl) eG (fun hc => ?_) (fun hc => ?_)
            · clear eG
              go_simp; exact hK _ _ (Below.refl _ _) (by show _ = wantV (r_) (.string R_); rw [hc]; rfl)
            · have hc2 : r_ = false := by simpa using hc
              exact hK _ _ (Below.refl _ _) (by show undef = wantV (r_) (.string R_); rw [hc2]; rfl)
          · have eG : A_.tmps[222]?.getD undef = .bool (r_) := hr 222 (by kernel_rfl)
            have e0 : A_.tmps[0]?.getD undef = .string a := hb 0 (by kernel_rfl)
            clear hb hr
            refine guard_by rfl (by kernel_rfl) eG (fun hc => ?_) (fun hc => ?_)
            · clear eG
              go_simp; exact hK _ _ (Below.refl _ _) (by show _ = wantV (r_) (.string a); rw [hc]; rfl)
            · have hc2 : r_ = false := by simpa using hc
              exact hK _ _ (Below.refl _ _) (by show undef = wantV (r_) (.string a); rw [hc2]; rfl)
          · have eG : A_.tmps[222]?.getD undef = .bool (r_) := hr 222 (by kernel_rfl)
            have e0 : A_.tmps[223]?.getD undef = wantV (r_) (.string R_) := hr 223 (by kernel_rfl)
            have e1 : A_.tmps[224]?.getD undef = wantV (r_) (.string a) := hr 224 (by kernel_rfl)
            clear hb hr
            refine guard_by rfl (by kernel_rfl) eG (fun hc => ?_) (fun hc => ?_)
            · clear eG
              rw [hc] at e0; replace e0 : A_.tmps[223]?.getD undef = .string R_ := e0
              rw [hc] at e1; replace e1 : A_.tmps[224]?.getD undef = .string a := e1
              go_simp; exact hK _ _ (Below.refl _ _) (by show _ = wantV (r_) (.bool ((!(R_.toList == a.toList)))); rw [hc]; rfl)
            · have hc2 : r_ = false := by simpa using hc
              exact hK _ _ (Below.refl _ _) (by show undef = wantV (r_) (.bool ((!(R_.toList == a.toList)))); rw [hc2]; rfl)
          · have eC : A_.tmps[222]?.getD undef = .bool (r_) := hr 222 (by kernel_rfl)
            have eA : A_.tmps[225]?.getD undef = wantV (r_) (.bool ((!(R_.toList == a.toList)))) := hr 225 (by kernel_rfl)
            clear hb hr
            cases hc : r_
            · rw [hc] at eC eA
              replace eA : A_.tmps[225]?.getD undef = undef := eA
              go_simp; exact hK _ _ (Below.refl _ _) (by show _ = Value.bool (r_ && (!(R_.toList == a.toList))); rw [hc]; rfl)
            · rw [hc] at eC eA
              replace eA : A_.tmps[225]?.getD undef = .bool ((!(R_.toList == a.toList))) := eA
              go_simp; exact hK _ _ (Below.refl _ _) (by show _ = Value.bool (r_ && (!(R_.toList == a.toList))); rw [hc]; rfl)
        rintro g25 w25 hb25 ⟨-, -, -, -, -, h226, -⟩
        simp only [List.drop_succ_cons, List.drop_zero, List.take_succ_cons, List.take_zero, putHead, Option.getD_some, Act.put, List.setIfInBounds_toArray, List.set_cons_zero, List.set_cons_succ]
        replace h226 : g25 226 = .bool ((r_ && (!(R_.toList == a.toList)))) := h226
        rw [T34] at h226
        generalize g25 226 = v226 at *
        subst h226
        have B25 := Lib.hid (bstep B24.out hb25); clear hb25
        clear T34 M9 SQ
        go_wp2_with fail
        refine (SS.out _).mono ?_; rintro e w26 ⟨rfl, hb26⟩
        have B26 := Lib.hid (bstep B25.out hb26); clear hb26
        go_wp2_with fail
        refine (AL.out _).mono ?_; rintro e w27 ⟨rfl, hb27⟩
        have B27 := Lib.hid (bstep B26.out hb27); clear hb27
        go_wp2_with fail
        go_ret
        exact ⟨rfl, B27.out⟩
      · clear VS VQ KQ KS hy HQ V9 X Y
        refine (SQ.out _).mono ?_; rintro e w23 ⟨rfl, hb23⟩
        have B23 := Lib.hid (bstep B22.out hb23); clear hb23
        go_wp2_with fail
        refine (M9.out _).mono ?_; rintro e w24 ⟨rfl, hb24⟩
        have B24 := Lib.hid (bstep B23.out hb24); clear hb24
        simp only []
        repeat (first | with_reducible apply stop_at (r := 34) | go_step)
        apply Lib.hid
        refine region_seq 6 240 [(221, Is (.bool (r_))), (222, Is (.bool (r_))), (223, Is (wantV (r_) (.string R_))), (224, Is (wantV (r_) (.string a))), (225, Is (wantV (r_) (.bool ((!(R_.toList == a.toList)))))), (226, Is (.bool ((r_ && (!(R_.toList == a.toList))))))] rfl (by kernel_rfl) ?_ ?_
        · refine steps_cons rfl (fun A_ W hb hr hg K hK => ?_) <| steps_cons rfl (fun A_ W hb hr hg K hK => ?_) <| steps_guard (fun A_ W hb hr hg K hK => ?_) <| steps_guard (fun A_ W hb hr hg K hK => ?_) <| steps_guard (fun A_ W hb hr hg K hK => ?_) <| steps_cons rfl (fun A_ W hb hr hg K hK => ?_) trivial
          · have e0 : A_.tmps[14]?.getD undef = .bool (r_) := hb 14 (by kernel_rfl)
            clear hb hr; go_simp; exact hK _ _ (Below.refl _ _) rfl
          · have e0 : A_.tmps[221]?.getD undef = .bool (r_) := hr 221 (by kernel_rfl)
            clear hb hr; go_simp; exact hK _ _ (Below.refl _ _) rfl
          · have eG : A_.tmps[222]?.getD undef = .bool (r_) := hr 222 (by kernel_rfl)
            have e0 : A_.tmps[13]?.getD undef = .string R_ := hb 13 (by kernel_rfl)
            clear hb hr
            refine guard_by rfl (by kernel_rfl) eG (fun hc => ?_) (fun hc => ?_)
            · clear eG
              go_simp; exact hK _ _ (Below.refl _ _) (by show _ = wantV (r_) (.string R_); rw [hc]; rfl)
            · have hc2 : r_ = false := by simpa using hc
              exact hK _ _ (Below.refl _ _) (by show undef = wantV (r_) (.string R_); rw [hc2]; rfl)
          · have eG : A_.tmps[222]?.getD undef = .bool (r_) := hr 222 (by kernel_rfl)
            have e0 : A_.tmps[0]?.getD undef = .string a := hb 0 (by kernel_rfl)
            clear hb hr
            refine guard_by rfl (by kernel_rfl) eG (fun hc => ?_) (fun hc => ?_)
            · clear eG
              go_simp; exact hK _ _ (Below.refl _ _) (by show _ = wantV (r_) (.string a); rw [hc]; rfl)
            · have hc2 : r_ = false := by simpa using hc
              exact hK _ _ (Below.refl _ _) (by show undef = wantV (r_) (.string a); rw [hc2]; rfl)
          · have eG : A_.tmps[222]?.getD undef = .bool (r_) := hr 222 (by kernel_rfl)
            have e0 : A_.tmps[223]?.getD undef = wantV (r_) (.string R_) := hr 223 (by kernel_rfl)
            have e1 : A_.tmps[224]?.getD undef = wantV (r_) (.string a) := hr 224 (by kernel_rfl)
            clear hb hr
            refine guard_by rfl (by kernel_rfl) eG (fun hc => ?_) (fun hc => ?_)
            · clear eG
              rw [hc] at e0; replace e0 : A_.tmps[223]?.getD undef = .string R_ := e0
              rw [hc] at e1; replace e1 : A_.tmps[224]?.getD undef = .string a := e1
              go_simp; exact hK _ _ (Below.refl _ _) (by show _ = wantV (r_) (.bool ((!(R_.toList == a.toList)))); rw [hc]; rfl)
            · have hc2 : r_ = false := by simpa using hc
              exact hK _ _ (Below.refl _ _) (by show undef = wantV (r_) (.bool ((!(R_.toList == a.toList)))); rw [hc2]; rfl)
          · have eC : A_.tmps[222]?.getD undef = .bool (r_) := hr 222 (by kernel_rfl)
            have eA : A_.tmps[225]?.getD undef = wantV (r_) (.bool ((!(R_.toList == a.toList)))) := hr 225 (by kernel_rfl)
            clear hb hr
            cases hc : r_
            · rw [hc] at eC eA
              replace eA : A_.tmps[225]?.getD undef = undef := eA
              go_simp; exact hK _ _ (Below.refl _ _) (by show _ = Value.bool (r_ && (!(R_.toList == a.toList))); rw [hc]; rfl)
            · rw [hc] at eC eA
              replace eA : A_.tmps[225]?.getD undef = .bool ((!(R_.toList == a.toList))) := eA
              go_simp; exact hK _ _ (Below.refl _ _) (by show _ = Value.bool (r_ && (!(R_.toList == a.toList))); rw [hc]; rfl)
        rintro g25 w25 hb25 ⟨-, -, -, -, -, h226, -⟩
        simp only [List.drop_succ_cons, List.drop_zero, List.take_succ_cons, List.take_zero, putHead, Option.getD_some, Act.put, List.setIfInBounds_toArray, List.set_cons_zero, List.set_cons_succ]
        replace h226 : g25 226 = .bool ((r_ && (!(R_.toList == a.toList)))) := h226
        rw [T34] at h226
        generalize g25 226 = v226 at *
        subst h226
        have B25 := Lib.hid (bstep B24.out hb25); clear hb25
        clear T34 M9 SQ
        go_wp2_with fail
        refine (SS.out _).mono ?_; rintro e w26 ⟨rfl, hb26⟩
        have B26 := Lib.hid (bstep B25.out hb26); clear hb26
        go_wp2_with fail
        refine (AL.out _).mono ?_; rintro e w27 ⟨rfl, hb27⟩
        have B27 := Lib.hid (bstep B26.out hb27); clear hb27
        go_wp2_with fail
        go_ret
        exact ⟨rfl, B27.out⟩
    · have hy : y ≠ 0 := fun h => absurd (VQ.out.1.2 h) (by decide)
      rcases KS.out with rfl | rfl | rfl
      · exact absurd (VS.out.1 rfl) hy
      · clear VS VQ KQ KS hy X Y
        refine (SQ.out _).mono ?_; rintro e w23 ⟨rfl, hb23⟩
        have B23 := Lib.hid (bstep B22.out hb23); clear hb23
        go_wp2_with fail
        refine (SS.out _).mono ?_; rintro e w24 ⟨rfl, hb24⟩
        have B24 := Lib.hid (bstep B23.out hb24); clear hb24
        go_wp2_with fail
        refine (AL.out _).mono ?_; rintro e w25 ⟨rfl, hb25⟩
        have B25 := Lib.hid (bstep B24.out hb25); clear hb25
        go_wp2_with fail
        go_ret
        exact ⟨rfl, B25.out⟩
      · clear VS VQ KQ KS hy X Y
        refine (SQ.out _).mono ?_; rintro e w23 ⟨rfl, hb23⟩
        have B23 := Lib.hid (bstep B22.out hb23); clear hb23
        go_wp2_with fail
        refine (SS.out _).mono ?_; rintro e w24 ⟨rfl, hb24⟩
        have B24 := Lib.hid (bstep B23.out hb24); clear hb24
        go_wp2_with fail
        refine (AL.out _).mono ?_; rintro e w25 ⟨rfl, hb25⟩
        have B25 := Lib.hid (bstep B24.out hb25); clear hb25
        go_wp2_with fail
        go_ret
        exact ⟨rfl, B25.out⟩
    · have hy : y = 0 := VQ.out.1.1 rfl
      obtain rfl : sg = 0 := VS.out.2 hy
      clear VS VQ KQ KS hy X Y
      refine (SQ.out _).mono ?_; rintro e w23 ⟨rfl, hb23⟩
      have B23 := Lib.hid (bstep B22.out hb23); clear hb23
      go_wp2_with fail
      refine (SS.out _).mono ?_; rintro e w24 ⟨rfl, hb24⟩
      have B24 := Lib.hid (bstep B23.out hb24); clear hb24
      go_wp2_with fail
      refine (AL.out _).mono ?_; rintro e w25 ⟨rfl, hb25⟩
      have B25 := Lib.hid (bstep B24.out hb25); clear hb25
      go_wp2_with fail
      go_ret
      exact ⟨rfl, B25.out⟩
  · refine (SD.out _).mono ?_; rintro e w20 ⟨rfl, hb20⟩
    have B20 := Lib.hid (bstep B19.out hb20); clear hb20
    go_wp2_with fail
    rcases KQ.out with rfl | rfl | rfl
    · obtain ⟨hQ, hy⟩ := VQ.out.2 rfl
      have HQ := Lib.hid hQ; clear hQ
      have M9 : Hid (∀ w, Calls Try.prog 53 #[.string Q, .string b] w (OutP w (okS (mulT Q b)))) := fun w => PR.out w Q b (Nat.le_trans ZQ.out (by omega)) (HB.out)
      have V9 : Hid ((okS (mulT Q b)).2 = true → IsV (okS (mulT Q b)).1 (x / y * y)) := fun h => mulT_isV HQ.out Y.out (by simpa [okS] using h)
      generalize okS (mulT Q b) = q_ at *; obtain ⟨R_, r_⟩ := q_
      have T34 : (r_ && (!(R_.toList == a.toList))) = false := by
        have key : ∀ t0 t : Bool, (t0 = true → t = false) → (t0 && t) = false := by decide
        refine key _ _ (fun h_r_ => ?_)
        have : R_ = a := (by have := V9.out h_r_; rw [Rat.div_mul_cancel hy] at this; exact this.inj X.out)
        rw [this]; simp
      rcases KS.out with rfl | rfl | rfl
      · exact absurd (VS.out.1 rfl) hy
      · clear VS VQ KQ KS hy HQ V9 X Y
        refine (SQ.out _).mono ?_; rintro e w21 ⟨rfl, hb21⟩
        have B21 := Lib.hid (bstep B20.out hb21); clear hb21
        go_wp2_with fail
        refine (M9.out _).mono ?_; rintro e w22 ⟨rfl, hb22⟩
        have B22 := Lib.hid (bstep B21.out hb22); clear hb22
        simp only []
        repeat (first | with_reducible apply stop_at (r := 34) | go_step)
        apply Lib.hid
        refine region_seq 6 240 [(221, Is (.bool (r_))), (222, Is (.bool (r_))), (223, Is (wantV (r_) (.string R_))), (224, Is (wantV (r_) (.string a))), (225, Is (wantV (r_) (.bool ((!(R_.toList == a.toList)))))), (226, Is (.bool ((r_ && (!(R_.toList == a.toList))))))] rfl (by kernel_rfl) ?_ ?_
        · refine steps_cons rfl (fun A_ W hb hr hg K hK => ?_) <| steps_cons rfl (fun A_ W hb hr hg K hK => ?_) <| steps_guard (fun A_ W hb hr hg K hK => ?_) <| steps_guard (fun A_ W hb hr hg K hK => ?_) <| steps_guard (fun A_ W hb hr hg K hK => ?_) <| steps_cons rfl (fun A_ W hb hr hg K hK => ?_) trivial
          · have e0 : A_.tmps[14]?.getD undef = .bool (r_) := hb 14 (by kernel_rfl)
            clear hb hr; go_simp; exact hK _ _ (Below.refl _ _) rfl
          · have e0 : A_.tmps[221]?.getD undef = .bool (r_) := hr 221 (by kernel_rfl)
            clear hb hr; go_simp; exact hK _ _ (Below.refl _ _) rfl
          · have eG : A_.tmps[222]?.getD undef = .bool (r_) := hr 222 (by kernel_rfl)
            have e0 : A_.tmps[13]?.getD undef = .string R_ := hb 13 (by kernel_rfl)
            clear hb hr
            refine guard_by rfl (by kernel_rfl) eG (fun hc => ?_) (fun hc => ?_)
            · clear eG
              go_simp; exact hK _ _ (Below.refl _ _) (by show _ = wantV (r_) (.string R_); rw [hc]; rfl)
            · have hc2 : r_ = false := by simpa using hc
              exact hK _ _ (Below.refl _ _) (by show undef = wantV (r_) (.string R_); rw [hc2]; rfl)
          · have eG : A_.tmps[222]?.getD undef = .bool (r_) := hr 222 (by kernel_rfl)
            have e0 : A_.tmps[0]?.getD undef = .string a := hb 0 (by kernel_rfl)
            clear hb hr
            refine guard_by rfl (by kernel_rfl) eG (fun hc => ?_) (fun hc => ?_)
            · clear eG
              go_simp; exact hK _ _ (Below.refl _ _) (by show _ = wantV (r_) (.string a); rw [hc]; rfl)
            · have hc2 : r_ = false := by simpa using hc
              exact hK _ _ (Below.refl _ _) (by show undef = wantV (r_) (.string a); rw [hc2]; rfl)
          · have eG : A_.tmps[222]?.getD undef = .bool (r_) := hr 222 (by kernel_rfl)
            have e0 : A_.tmps[223]?.getD undef = wantV (r_) (.string R_) := hr 223 (by kernel_rfl)
            have e1 : A_.tmps[224]?.getD undef = wantV (r_) (.string a) := hr 224 (by kernel_rfl)
            clear hb hr
            refine guard_by rfl (by kernel_rfl) eG (fun hc => ?_) (fun hc => ?_)
            · clear eG
              rw [hc] at e0; replace e0 : A_.tmps[223]?.getD undef = .string R_ := e0
              rw [hc] at e1; replace e1 : A_.tmps[224]?.getD undef = .string a := e1
              go_simp; exact hK _ _ (Below.refl _ _) (by show _ = wantV (r_) (.bool ((!(R_.toList == a.toList)))); rw [hc]; rfl)
            · have hc2 : r_ = false := by simpa using hc
              exact hK _ _ (Below.refl _ _) (by show undef = wantV (r_) (.bool ((!(R_.toList == a.toList)))); rw [hc2]; rfl)
          · have eC : A_.tmps[222]?.getD undef = .bool (r_) := hr 222 (by kernel_rfl)
            have eA : A_.tmps[225]?.getD undef = wantV (r_) (.bool ((!(R_.toList == a.toList)))) := hr 225 (by kernel_rfl)
            clear hb hr
            cases hc : r_
            · rw [hc] at eC eA
              replace eA : A_.tmps[225]?.getD undef = undef := eA
              go_simp; exact hK _ _ (Below.refl _ _) (by show _ = Value.bool (r_ && (!(R_.toList == a.toList))); rw [hc]; rfl)
            · rw [hc] at eC eA
              replace eA : A_.tmps[225]?.getD undef = .bool ((!(R_.toList == a.toList))) := eA
              go_simp; exact hK _ _ (Below.refl _ _) (by show _ = Value.bool (r_ && (!(R_.toList == a.toList))); rw [hc]; rfl)
        rintro g23 w23 hb23 ⟨-, -, -, -, -, h226, -⟩
        simp only [List.drop_succ_cons, List.drop_zero, List.take_succ_cons, List.take_zero, putHead, Option.getD_some, Act.put, List.setIfInBounds_toArray, List.set_cons_zero, List.set_cons_succ]
        replace h226 : g23 226 = .bool ((r_ && (!(R_.toList == a.toList)))) := h226
        rw [T34] at h226
        generalize g23 226 = v226 at *
        subst h226
        have B23 := Lib.hid (bstep B22.out hb23); clear hb23
        clear T34 M9 SQ
        go_wp2_with fail
        refine (SS.out _).mono ?_; rintro e w24 ⟨rfl, hb24⟩
        have B24 := Lib.hid (bstep B23.out hb24); clear hb24
        go_wp2_with fail
        refine (AL.out _).mono ?_; rintro e w25 ⟨rfl, hb25⟩
        have B25 := Lib.hid (bstep B24.out hb25); clear hb25
        go_wp2_with fail
        go_ret
        exact ⟨rfl, B25.out⟩
      · clear VS VQ KQ KS hy HQ V9 X Y
        refine (SQ.out _).mono ?_; rintro e w21 ⟨rfl, hb21⟩
        have B21 := Lib.hid (bstep B20.out hb21); clear hb21
        go_wp2_with fail
        refine (M9.out _).mono ?_; rintro e w22 ⟨rfl, hb22⟩
        have B22 := Lib.hid (bstep B21.out hb22); clear hb22
        simp only []
        repeat (first | with_reducible apply stop_at (r := 34) | go_step)
        apply Lib.hid
        refine region_seq 6 240 [(221, Is (.bool (r_))), (222, Is (.bool (r_))), (223, Is (wantV (r_) (.string R_))), (224, Is (wantV (r_) (.string a))), (225, Is (wantV (r_) (.bool ((!(R_.toList == a.toList)))))), (226, Is (.bool ((r_ && (!(R_.toList == a.toList))))))] rfl (by kernel_rfl) ?_ ?_
        · refine steps_cons rfl (fun A_ W hb hr hg K hK => ?_) <| steps_cons rfl (fun A_ W hb hr hg K hK => ?_) <| steps_guard (fun A_ W hb hr hg K hK => ?_) <| steps_guard (fun A_ W hb hr hg K hK => ?_) <| steps_guard (fun A_ W hb hr hg K hK => ?_) <| steps_cons rfl (fun A_ W hb hr hg K hK => ?_) trivial
          · have e0 : A_.tmps[14]?.getD undef = .bool (r_) := hb 14 (by kernel_rfl)
            clear hb hr; go_simp; exact hK _ _ (Below.refl _ _) rfl
          · have e0 : A_.tmps[221]?.getD undef = .bool (r_) := hr 221 (by kernel_rfl)
            clear hb hr; go_simp; exact hK _ _ (Below.refl _ _) rfl
          · have eG : A_.tmps[222]?.getD undef = .bool (r_) := hr 222 (by kernel_rfl)
            have e0 : A_.tmps[13]?.getD undef = .string R_ := hb 13 (by kernel_rfl)
            clear hb hr
            refine guard_by rfl (by kernel_rfl) eG (fun hc => ?_) (fun hc => ?_)
            · clear eG
              go_simp; exact hK _ _ (Below.refl _ _) (by show _ = wantV (r_) (.string R_); rw [hc]; rfl)
            · have hc2 : r_ = false := by simpa using hc
              exact hK _ _ (Below.refl _ _) (by show undef = wantV (r_) (.string R_); rw [hc2]; rfl)
          · have eG : A_.tmps[222]?.getD undef = .bool (r_) := hr 222 (by kernel_rfl)
            have e0 : A_.tmps[0]?.getD undef = .string a := hb 0 (by kernel_rfl)
            clear hb hr
            refine guard_by rfl (by kernel_rfl) eG (fun hc => ?_) (fun hc => ?_)
            · clear eG
              go_simp; exact hK _ _ (Below.refl _ _) (by show _ = wantV (r_) (.string a); rw [hc]; rfl)
            · have hc2 : r_ = false := by simpa using hc
              exact hK _ _ (Below.refl _ _) (by show undef = wantV (r_) (.string a); rw [hc2]; rfl)
          · have eG : A_.tmps[222]?.getD undef = .bool (r_) := hr 222 (by kernel_rfl)
            have e0 : A_.tmps[223]?.getD undef = wantV (r_) (.string R_) := hr 223 (by kernel_rfl)
            have e1 : A_.tmps[224]?.getD undef = wantV (r_) (.string a) := hr 224 (by kernel_rfl)
            clear hb hr
            refine guard_by rfl (by kernel_rfl) eG (fun hc => ?_) (fun hc => ?_)
            · clear eG
              rw [hc] at e0; replace e0 : A_.tmps[223]?.getD undef = .string R_ := e0
              rw [hc] at e1; replace e1 : A_.tmps[224]?.getD undef = .string a := e1
              go_simp; exact hK _ _ (Below.refl _ _) (by show _ = wantV (r_) (.bool ((!(R_.toList == a.toList)))); rw [hc]; rfl)
            · have hc2 : r_ = false := by simpa using hc
              exact hK _ _ (Below.refl _ _) (by show undef = wantV (r_) (.bool ((!(R_.toList == a.toList)))); rw [hc2]; rfl)
          · have eC : A_.tmps[222]?.getD undef = .bool (r_) := hr 222 (by kernel_rfl)
            have eA : A_.tmps[225]?.getD undef = wantV (r_) (.bool ((!(R_.toList == a.toList)))) := hr 225 (by kernel_rfl)
            clear hb hr
            cases hc : r_
            · rw [hc] at eC eA
              replace eA : A_.tmps[225]?.getD undef = undef := eA
              go_simp; exact hK _ _ (Below.refl _ _) (by show _ = Value.bool (r_ && (!(R_.toList == a.toList))); rw [hc]; rfl)
            · rw [hc] at eC eA
              replace eA : A_.tmps[225]?.getD undef = .bool ((!(R_.toList == a.toList))) := eA
              go_simp; exact hK _ _ (Below.refl _ _) (by show _ = Value.bool (r_ && (!(R_.toList == a.toList))); rw [hc]; rfl)
        rintro g23 w23 hb23 ⟨-, -, -, -, -, h226, -⟩
        simp only [List.drop_succ_cons, List.drop_zero, List.take_succ_cons, List.take_zero, putHead, Option.getD_some, Act.put, List.setIfInBounds_toArray, List.set_cons_zero, List.set_cons_succ]
        replace h226 : g23 226 = .bool ((r_ && (!(R_.toList == a.toList)))) := h226
        rw [T34] at h226
        generalize g23 226 = v226 at *
        subst h226
        have B23 := Lib.hid (bstep B22.out hb23); clear hb23
        clear T34 M9 SQ
        go_wp2_with fail
        refine (SS.out _).mono ?_; rintro e w24 ⟨rfl, hb24⟩
        have B24 := Lib.hid (bstep B23.out hb24); clear hb24
        go_wp2_with fail
        refine (AL.out _).mono ?_; rintro e w25 ⟨rfl, hb25⟩
        have B25 := Lib.hid (bstep B24.out hb25); clear hb25
        go_wp2_with fail
        go_ret
        exact ⟨rfl, B25.out⟩
    · have hy : y ≠ 0 := fun h => absurd (VQ.out.1.2 h) (by decide)
      rcases KS.out with rfl | rfl | rfl
      · exact absurd (VS.out.1 rfl) hy
      · clear VS VQ KQ KS hy X Y
        refine (SQ.out _).mono ?_; rintro e w21 ⟨rfl, hb21⟩
        have B21 := Lib.hid (bstep B20.out hb21); clear hb21
        go_wp2_with fail
        refine (SS.out _).mono ?_; rintro e w22 ⟨rfl, hb22⟩
        have B22 := Lib.hid (bstep B21.out hb22); clear hb22
        go_wp2_with fail
        refine (AL.out _).mono ?_; rintro e w23 ⟨rfl, hb23⟩
        have B23 := Lib.hid (bstep B22.out hb23); clear hb23
        go_wp2_with fail
        go_ret
        exact ⟨rfl, B23.out⟩
      · clear VS VQ KQ KS hy X Y
        refine (SQ.out _).mono ?_; rintro e w21 ⟨rfl, hb21⟩
        have B21 := Lib.hid (bstep B20.out hb21); clear hb21
        go_wp2_with fail
        refine (SS.out _).mono ?_; rintro e w22 ⟨rfl, hb22⟩
        have B22 := Lib.hid (bstep B21.out hb22); clear hb22
        go_wp2_with fail
        refine (AL.out _).mono ?_; rintro e w23 ⟨rfl, hb23⟩
        have B23 := Lib.hid (bstep B22.out hb23); clear hb23
        go_wp2_with fail
        go_ret
        exact ⟨rfl, B23.out⟩
    · have hy : y = 0 := VQ.out.1.1 rfl
      obtain rfl : sg = 0 := VS.out.2 hy
      clear VS VQ KQ KS hy X Y
      refine (SQ.out _).mono ?_; rintro e w21 ⟨rfl, hb21⟩
      have B21 := Lib.hid (bstep B20.out hb21); clear hb21
      go_wp2_with fail
      refine (SS.out _).mono ?_; rintro e w22 ⟨rfl, hb22⟩
      have B22 := Lib.hid (bstep B21.out hb22); clear hb22
      go_wp2_with fail
      refine (AL.out _).mono ?_; rintro e w23 ⟨rfl, hb23⟩
      have B23 := Lib.hid (bstep B22.out hb23); clear hb23
      go_wp2_with fail
      go_ret
      exact ⟨rfl, B23.out⟩

end Go.Proofs.Ytlkdahgfnfdakaa

namespace Go.Proofs.Ytlkdahgfnfdakaa
open Go Go.RowKit Go.Shelf WN LM

set_option maxHeartbeats 1000000 in
set_option maxRecDepth 100000 in
theorem field_any (w : World) (a b c : ByteArray) (ha : a.size ≤ 140737488355328) (hb : b.size ≤ 140737488355328) (hc : c.size ≤ 140737488355328) : Calls Try.prog 9 #[.string a, .string b, .string c] w (TrueB w) := by
  have AL : Hid (∀ w, Calls Try.prog 20 #[] w fun e w' => e = .returned (.bool true) ∧ Below w.heap.size w w') := alive_any
  have Ha := Lib.hid ha; have Hb := Lib.hid hb; have Hc := Lib.hid hc
  clear ha hb hc
  cases i1 : isB a
  · go_enter Try.func9, Try.ntmps9
    have I1 : Hid (∀ w, Calls Try.prog 18 #[.string a] w fun e w' => e = .returned (.bool false) ∧ Below w.heap.size w w') := fun w => by have := is_any w a Ha.out; rwa [show (readQ a.data.toList).isSome = false from i1] at this
    clear i1 Ha Hb Hc
    go_wp2_with fail
    refine (I1.out _).mono ?_; rintro e w1 ⟨rfl, hb1⟩
    have B1 := Lib.hid hb1; clear hb1
    go_wp2_with fail
    refine (AL.out _).mono ?_; rintro e w2 ⟨rfl, hb2⟩
    have B2 := Lib.hid (bstep B1.out hb2); clear hb2
    go_wp2_with fail
    go_ret
    exact ⟨rfl, B2.out⟩
  · cases i2 : isB b
    · go_enter Try.func9, Try.ntmps9
      have I1 : Hid (∀ w, Calls Try.prog 18 #[.string a] w fun e w' => e = .returned (.bool true) ∧ Below w.heap.size w w') := fun w => by have := is_any w a Ha.out; rwa [show (readQ a.data.toList).isSome = true from i1] at this
      have I2 : Hid (∀ w, Calls Try.prog 18 #[.string b] w fun e w' => e = .returned (.bool false) ∧ Below w.heap.size w w') := fun w => by have := is_any w b Hb.out; rwa [show (readQ b.data.toList).isSome = false from i2] at this
      clear i1 i2 Ha Hb Hc
      go_wp2_with fail
      refine (I1.out _).mono ?_; rintro e w1 ⟨rfl, hb1⟩
      have B1 := Lib.hid hb1; clear hb1
      go_wp2_with fail
      refine (I2.out _).mono ?_; rintro e w2 ⟨rfl, hb2⟩
      have B2 := Lib.hid (bstep B1.out hb2); clear hb2
      go_wp2_with fail
      refine (AL.out _).mono ?_; rintro e w3 ⟨rfl, hb3⟩
      have B3 := Lib.hid (bstep B2.out hb3); clear hb3
      go_wp2_with fail
      go_ret
      exact ⟨rfl, B3.out⟩
    · cases i3 : isB c
      · go_enter Try.func9, Try.ntmps9
        have I1 : Hid (∀ w, Calls Try.prog 18 #[.string a] w fun e w' => e = .returned (.bool true) ∧ Below w.heap.size w w') := fun w => by have := is_any w a Ha.out; rwa [show (readQ a.data.toList).isSome = true from i1] at this
        have I2 : Hid (∀ w, Calls Try.prog 18 #[.string b] w fun e w' => e = .returned (.bool true) ∧ Below w.heap.size w w') := fun w => by have := is_any w b Hb.out; rwa [show (readQ b.data.toList).isSome = true from i2] at this
        have I3 : Hid (∀ w, Calls Try.prog 18 #[.string c] w fun e w' => e = .returned (.bool false) ∧ Below w.heap.size w w') := fun w => by have := is_any w c Hc.out; rwa [show (readQ c.data.toList).isSome = false from i3] at this
        clear i1 i2 i3 Ha Hb Hc
        go_wp2_with fail
        refine (I1.out _).mono ?_; rintro e w1 ⟨rfl, hb1⟩
        have B1 := Lib.hid hb1; clear hb1
        go_wp2_with fail
        refine (I2.out _).mono ?_; rintro e w2 ⟨rfl, hb2⟩
        have B2 := Lib.hid (bstep B1.out hb2); clear hb2
        go_wp2_with fail
        refine (I3.out _).mono ?_; rintro e w3 ⟨rfl, hb3⟩
        have B3 := Lib.hid (bstep B2.out hb3); clear hb3
        go_wp2_with fail
        refine (AL.out _).mono ?_; rintro e w4 ⟨rfl, hb4⟩
        have B4 := Lib.hid (bstep B3.out hb4); clear hb4
        go_wp2_with fail
        go_ret
        exact ⟨rfl, B4.out⟩
      · exact field_all w a b c Ha.out Hb.out Hc.out ⟨i1, i2, i3⟩
end Go.Proofs.Ytlkdahgfnfdakaa

namespace Go.Proofs.Ytlkdahgfnfdakaa
open Go.ChangeShapes Go.WideShapes Go.ChangeAt Go.RowKit
open Go.ChangeMaps (open_string shut_string)

theorem Try.own : ownKnob Try.prog.godebug = none := by kernel_rfl

section
variable {H : Type} {enc : TypeId × Value → H} {P : Program}
/-- a function whose arguments lie in no memory, and that only makes memory -/
theorem post_new {f : Func} {s : ChangeSpec} {x1 x2 x3 x4 : Bool} {W W1 : World} {args : Array Value} {v : Value} {ds gs : List (DataW H)}
    (hW : DataW.Whole enc P f.params.toList s.vars x1 W args.toList ds gs []) (hb : Below W.heap.size W W1)
    (hr : ∀ (b : Nat) (sp : Nat → Bool) (hd : Bool), DataW.TrodAll enc P W1 b sp hd f.resultTypes.toList (v.resultList f.resultTypes.size) (s.fn H (ds ++ gs)).results [])
    (hg : ∀ sp : Nat → Bool, DataW.TrodAll enc P W1 0 sp true f.params.toList args.toList (s.fn H (ds ++ gs)).args [])
    (hv : ∀ sp : Nat → Bool, DataW.TrodVars enc P W1 sp s.vars (s.fn H (ds ++ gs)).vars [])
    (hok : ∀ (j : Nat) (t : TypeId) (r : Value), f.resultTypes[j]? = some t → (v.resultList f.resultTypes.size)[j]? = some r → Value.okWide P W1 .any 0 t r) :
    s.post enc P f x1 x2 x3 x4 W args v W1 := by
  refine ⟨ds, gs, [], [], [], [], hW, hr _ _ _, hg _, hv _, hb.frame _, fun _ => ?_⟩
  refine ⟨hok, _, _, [], ⟨[], [], trodAll_append (hg _) (hr _ _ _), hv _, rfl, ?_, ?_⟩, ?_⟩
  · intro b off hp
    cases hp
  · intro _
    exact List.nodup_nil
  · intro p hp
    cases hp
end

theorem size_of {a : ByteArray} (h : a.data.toList.length ≤ reachBytes) : a.size ≤ 140737488355328 :=
  Nat.le_trans (show a.size ≤ reachBytes by rw [Array.length_toList] at h; exact h) (by decide)

set_option maxRecDepth 100000 in
theorem field_lifted (os : Os) (started : os.Started) (H : Type) (enc : TypeId × Value → H) :
    ReturnsInHanded {} Try.checked os 9 .any (Rows.ratFieldSpec.pre6 enc Try.prog Try.f9 Rows.ratFieldRow.domain false) (Rows.ratFieldSpec.post enc Try.prog Try.f9 false true false false) := by
  refine returnsInHanded_of_change_sized (C := Try.checked) Try.own started (by kernel_rfl) Try.func9
    (ChangeSpec.witness6 (enc := enc) (C := Try.checked) false ⟨#[], #[.string ⟨#[]⟩, .string ⟨#[]⟩, .string ⟨#[]⟩], []⟩ 8 (by kernel_rfl) (by kernel_rfl) (by kernel_rfl) (by kernel_rfl)) ?_
  intro W base args ds gs before hval0 hW hcnd hsz0 _
  have hsz : (DataW.weightsEach Try.prog (Try.f9.params.toList ++ Rows.ratFieldSpec.plain.varTypes Try.prog) (ds ++ gs)).all (· ≤ reachBytes) = true := hsz0
  clear hsz0
  have hval : ∀ (j : Nat) t v, Try.f9.params[j]? = some t → args[j]? = some v → Value.okWide Try.prog W .any base t v := hval0
  have hW1 := hW
  obtain ⟨p, q, hA0, hV, rfl, hfz, hnd⟩ := hW
  have hA : DataW.TrodAll enc Try.prog W 0 (fun _ => true) true Try.f9.params.toList args.toList ds p := hA0
  rw [Try.params9] at hA hval hsz
  obtain ⟨v0, v1, v2, d0, d1, d2, p0, p1, p2, rfl, rfl, rfl, h0, h1, h2⟩ := trodAll_three hA
  obtain ⟨rfl, rfl⟩ := trodVars_none hV
  obtain ⟨a, rfl, rfl, rfl, wa⟩ := open_string Try.underlying9 (hval 0 9 v0 rfl rfl) h0
  obtain ⟨b, rfl, rfl, rfl, wb⟩ := open_string Try.underlying9 (hval 1 9 v1 rfl rfl) h1
  obtain ⟨c, rfl, rfl, rfl, wc⟩ := open_string Try.underlying9 (hval 2 9 v2 rfl rfl) h2
  clear hA0 hval0
  simp only [List.append_nil] at hW1
  have sa : a.size ≤ 140737488355328 := size_of (sized_string hsz (j := 0) (t := 9) rfl rfl)
  have sb : b.size ≤ 140737488355328 := size_of (sized_string hsz (j := 1) (t := 9) rfl rfl)
  have sc : c.size ≤ 140737488355328 := size_of (sized_string hsz (j := 2) (t := 9) rfl rfl)
  refine (field_any W a b c sa sb sc).mono fun e W1 ⟨he, hw⟩ => ?_
  subst he
  exact ⟨_, rfl, post_new hW1 hw (fun _ _ _ => trodAll_mk1 (shut_bool Try.underlying4 true)) (fun _ => trodAll_mk3 (shut_string Try.underlying9 wa) (shut_string Try.underlying9 wb) (shut_string Try.underlying9 wc)) (fun _ => rfl)
    (ok_one (by kernel_rfl) rfl (okWide_bool_mk Try.underlying4 true))⟩

theorem field_holds : Rows.RatFieldSaid :=
  OpenClaim.holds_of_wide 9 Try.f9 rfl rfl rfl rfl rfl rfl rfl ⟨rfl, rfl, rfl, rfl, rfl⟩ rfl rfl rfl rfl rfl (by kernel_rfl) Try.func9 (by kernel_rfl)
    (of_decide_eq_true (by kernel_rfl)) (by unfold Func.isWrapper; first | (rw [if_pos (by decide +kernel)]; kernel_rfl) | (rw [if_neg (by decide +kernel)]; exact ⟨rfl, rfl⟩))
    (fun os started H enc _ => field_lifted os started H enc)
end Go.Proofs.Ytlkdahgfnfdakaa
