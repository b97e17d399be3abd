import Derived.Test.YtlkdahgfnfdakaaFaceD
namespace Go.Proofs.Ytlkdahgfnfdakaa
open Go.RowKit Go.Shelf WN LM

def OutP (w : World) (x : ByteArray × Bool) (e : Ending) (w' : World) : Prop := e = .returned (.tuple #[.string x.1, .bool x.2]) ∧ Below w.heap.size w w'
def okS (x : ByteArray × Int) : ByteArray × Bool := (x.1, x.2 == 0)
def addT (a b : ByteArray) : ByteArray × Int := two (fun p q => out3 (addQ p q)) a b
def subT (a b : ByteArray) : ByteArray × Int := two (fun p q => out3 (subQ p q)) a b
def mulT (a b : ByteArray) : ByteArray × Int := two (fun p q => out3 (mulQ p q)) a b
def divT (a b : ByteArray) : ByteArray × Int := twoG ((⟨#[]⟩ : ByteArray), (1 : Int)) divF a b
def cmpT (a b : ByteArray) : Int × Int := twoG ((0 : Int), (1 : Int)) cmpF a b
def simT (a b : ByteArray) : ByteArray × Int := twoG ((⟨#[]⟩ : ByteArray), (1 : Int)) simF a b
def multT (a b : ByteArray) : Bool × Int := twoG (false, (1 : Int)) multF a b
def floorT (a : ByteArray) : ByteArray × Int := oneT (fun p => out3 (floorQ p)) a
def roundT (a : ByteArray) : ByteArray × Int := oneT (fun p => out3 (roundQ p)) a
def signT (a : ByteArray) : Int × Int := oneG ((0 : Int), (1 : Int)) (fun p => (signQ p, 0)) a

set_option maxHeartbeats 1000000 in
set_option maxRecDepth 100000 in
theorem sum_law (w : World) (a b : ByteArray) (ha : a.size ≤ 140737488355328) (hb : b.size ≤ 140737488355328) : Calls Try.prog 52 #[.string a, .string b] w (OutP w (okS (addT a b))) := by
  have C : Hid (Calls Try.prog 23 #[.string a, .string b] w (OutS w (addT a b))) := add_any w a b ha hb
  clear ha hb
  unfold okS
  generalize addT a b = r at *
  go_enter Try.func52, Try.ntmps52
  go_wp2_with fail
  refine C.out.mono ?_; rintro e w2 ⟨rfl, hb2⟩
  go_wp2_with fail
  go_ret2
  exact ⟨rfl, hb2⟩

set_option maxHeartbeats 1000000 in
set_option maxRecDepth 100000 in
theorem product_law (w : World) (a b : ByteArray) (ha : a.size ≤ 140737488355328) (hb : b.size ≤ 140737488355328) : Calls Try.prog 53 #[.string a, .string b] w (OutP w (okS (mulT a b))) := by
  have C : Hid (Calls Try.prog 27 #[.string a, .string b] w (OutS w (mulT a b))) := mul_any w a b ha hb
  clear ha hb
  unfold okS
  generalize mulT a b = r at *
  go_enter Try.func53, Try.ntmps53
  go_wp2_with fail
  refine C.out.mono ?_; rintro e w2 ⟨rfl, hb2⟩
  go_wp2_with fail
  go_ret2
  exact ⟨rfl, hb2⟩

theorem dec_small {n : Nat} (h : n < 10) : decT n = [UInt8.ofNat (48 + n)] := by
  unfold decT
  by_cases h0 : n = 0
  · subst h0; rfl
  · rw [if_neg h0, dec_pos h0, show n / 10 = 0 from by omega, dec_zero, List.nil_append, show n % 10 = n from by omega]
theorem out_small {s : Bool} {n d : Nat} (hn : n < 10) (hd : d < 10) : out3 (s, n, d) = (⟨((if s then [45] else []) ++ [UInt8.ofNat (48 + n)] ++ (if d = 1 then [] else [47, UInt8.ofNat (48 + d)])).toArray⟩, 0) := by
  have h1 := dig_le (n := n) (k := 1) (by omega) (by omega)
  have h2 := dig_le (n := d) (k := 1) (by omega) (by omega)
  unfold out3 outQ
  rw [if_pos (by unfold fitQ; exact decide_eq_true ⟨by show Dig n ≤ 300; omega, by show Dig d ≤ 300; omega⟩)]
  unfold ratText
  rw [dec_small hn, dec_small hd]
theorem alive_a1 : addT ⟨#[49, 47, 50]⟩ ⟨#[49, 47, 51]⟩ = (⟨#[53, 47, 54]⟩, 0) := by
  have h1 : readQ [49, 47, 50] = some (false, 1, 2) := rfl
  have h2 : readQ [49, 47, 51] = some (false, 1, 3) := rfl
  show two _ _ _ = _
  unfold two
  simp only [h1, h2]
  rw [show addQ (false, 1, 2) (false, 1, 3) = (false, 5, 6) from rfl, out_small (by omega) (by omega)]; rfl
theorem alive_a2 : mulT ⟨#[50, 47, 51]⟩ ⟨#[51, 47, 50]⟩ = (⟨#[49]⟩, 0) := by
  have h1 : readQ [50, 47, 51] = some (false, 2, 3) := rfl
  have h2 : readQ [51, 47, 50] = some (false, 3, 2) := rfl
  show two _ _ _ = _
  unfold two
  simp only [h1, h2]
  rw [show mulQ (false, 2, 3) (false, 3, 2) = (false, 1, 1) from rfl, out_small (by omega) (by omega)]; rfl
theorem alive_a3 : floorT ⟨#[45, 49, 47, 50]⟩ = (⟨#[45, 49]⟩, 0) := by
  have h1 : readQ [45, 49, 47, 50] = some (true, 1, 2) := rfl
  show oneT _ _ = _
  unfold oneT
  simp only [h1]
  rw [show floorQ (true, 1, 2) = (true, 1, 1) from rfl, out_small (by omega) (by omega)]; rfl
theorem alive_a4 : roundT ⟨#[53, 47, 50]⟩ = (⟨#[50]⟩, 0) := by
  have h1 : readQ [53, 47, 50] = some (false, 5, 2) := rfl
  show oneT _ _ = _
  unfold oneT
  simp only [h1]
  rw [show roundQ (false, 5, 2) = (false, 2, 1) from rfl, out_small (by omega) (by omega)]; rfl
theorem alive_a5 : simT ⟨#[49, 47, 51]⟩ ⟨#[49, 47, 50]⟩ = (⟨#[49, 47, 50]⟩, 0) := by
  have h1 : readQ [49, 47, 51] = some (false, 1, 3) := rfl
  have h2 : readQ [49, 47, 50] = some (false, 1, 2) := rfl
  have h3 : simpl 1 3 1 2 = (1, 2) := by
    rw [simpl_rec (by omega) (by omega) (by omega), show 1 % 3 = 1 from rfl, show 1 - 1 / 3 * 2 = 1 from rfl, simpl_exact (by omega)]
    rfl
  have h4 : simQ (false, 1, 3) (false, 1, 2) = (false, 1, 2) := by
    have e : simQ (false, 1, 3) (false, 1, 2) = (false, (simpl 1 3 1 2).1, (simpl 1 3 1 2).2) := rfl
    rw [e, h3]
  have h5 : simF (false, 1, 3) (false, 1, 2) = out3 (simQ (false, 1, 3) (false, 1, 2)) := rfl
  show twoG _ _ _ _ = _
  unfold twoG
  simp only [h1, h2]
  rw [h5, h4, out_small (by omega) (by omega)]; rfl
theorem alive_a6 : comT [⟨#[49, 47, 50]⟩, ⟨#[51, 47, 52]⟩] = (⟨#[49, 47, 52]⟩, 0) := by
  have h1 : readQ [49, 47, 50] = some (false, 1, 2) := rfl
  have h2 : readQ [51, 47, 52] = some (false, 3, 4) := rfl
  have h3 : readAll [⟨#[49, 47, 50]⟩, ⟨#[51, 47, 52]⟩] = some [(false, 1, 2), (false, 3, 4)] := by simp only [readAll, h1, h2]
  have hc : comStep (false, 1, 2) (false, 3, 4) = (false, 1, 4) := rfl
  have hf : fitQ 1 4 = true := by
    have g1 := dig_le (n := 1) (k := 1) (by omega) (by omega)
    have g2 := dig_le (n := 4) (k := 1) (by omega) (by omega)
    unfold fitQ; exact decide_eq_true ⟨by omega, by omega⟩
  have h4 : comFold (false, 1, 2) [(false, 3, 4)] = some (false, 1, 4) := by
    simp only [comFold, hc, hf]; rfl
  have h5 : comF [(false, 1, 2), (false, 3, 4)] = match comFold (false, 1, 2) [(false, 3, 4)] with | none => (⟨#[]⟩, 2) | some c => out3 c := rfl
  unfold comT
  rw [h3]
  show comF _ = _
  rw [h5, h4]
  show out3 (false, 1, 4) = _
  rw [out_small (by omega) (by omega)]; rfl
theorem alive_a7 : multT ⟨#[51, 47, 50]⟩ ⟨#[49, 47, 50]⟩ = (true, 0) := by
  have h1 : readQ [51, 47, 50] = some (false, 3, 2) := rfl
  have h2 : readQ [49, 47, 50] = some (false, 1, 2) := rfl
  show twoG _ _ _ _ = _
  unfold twoG
  simp only [h1, h2]
  rfl

set_option maxHeartbeats 1000000 in
set_option maxRecDepth 100000 in
theorem alive_any (w : World) : Calls Try.prog 20 #[] w fun e w' => e = .returned (.bool true) ∧ Below w.heap.size w w' := by
  have C1 : Hid (∀ w, Calls Try.prog 23 #[.string ⟨#[49, 47, 50]⟩, .string ⟨#[49, 47, 51]⟩] w (OutS w (⟨#[53, 47, 54]⟩, 0))) := fun w => by have := add_any w ⟨#[49, 47, 50]⟩ ⟨#[49, 47, 51]⟩ (by decide) (by decide); rwa [show two _ _ _ = _ from alive_a1] at this
  have C2 : Hid (∀ w, Calls Try.prog 27 #[.string ⟨#[50, 47, 51]⟩, .string ⟨#[51, 47, 50]⟩] w (OutS w (⟨#[49]⟩, 0))) := fun w => by have := mul_any w ⟨#[50, 47, 51]⟩ ⟨#[51, 47, 50]⟩ (by decide) (by decide); rwa [show two _ _ _ = _ from alive_a2] at this
  have C3 : Hid (∀ w, Calls Try.prog 33 #[.string ⟨#[45, 49, 47, 50]⟩] w (OutS w (⟨#[45, 49]⟩, 0))) := fun w => by have := floor_any w ⟨#[45, 49, 47, 50]⟩ (by decide); rwa [show oneT _ _ = _ from alive_a3] at this
  have C4 : Hid (∀ w, Calls Try.prog 35 #[.string ⟨#[53, 47, 50]⟩] w (OutS w (⟨#[50]⟩, 0))) := fun w => by have := round_any w ⟨#[53, 47, 50]⟩ (by decide); rwa [show oneT _ _ = _ from alive_a4] at this
  have C5 : Hid (∀ w, Calls Try.prog 48 #[.string ⟨#[49, 47, 51]⟩, .string ⟨#[49, 47, 50]⟩] w (OutS w (⟨#[49, 47, 50]⟩, 0))) := fun w => by have := simplest_any w ⟨#[49, 47, 51]⟩ ⟨#[49, 47, 50]⟩ (by decide) (by decide); rwa [show twoG _ _ _ _ = _ from alive_a5] at this
  have C6 : Hid (∀ w v, Strs w v [⟨#[49, 47, 50]⟩, ⟨#[51, 47, 52]⟩] → Calls Try.prog 46 #[v] w (OutS w (⟨#[49, 47, 52]⟩, 0))) := fun w v h => by
    have := common_any h (by simp) (by intro s hs; simp at hs; rcases hs with rfl | rfl <;> decide)
    rwa [alive_a6] at this
  have C7 : Hid (∀ w, Calls Try.prog 50 #[.string ⟨#[51, 47, 50]⟩, .string ⟨#[49, 47, 50]⟩] w (OutB w (true, 0))) := fun w => by have := multiple_any w ⟨#[51, 47, 50]⟩ ⟨#[49, 47, 50]⟩ (by decide) (by decide); rwa [show twoG _ _ _ _ = _ from alive_a7] at this
  have I1 : Hid (∀ w, Calls Try.prog 18 #[.string ⟨#[50, 47, 52]⟩] w fun e w' => e = .returned (.bool false) ∧ Below w.heap.size w w') := fun w => is_any w ⟨#[50, 47, 52]⟩ (by decide)
  have I2 : Hid (∀ w, Calls Try.prog 18 #[.string ⟨#[45, 48]⟩] w fun e w' => e = .returned (.bool false) ∧ Below w.heap.size w w') := fun w => is_any w ⟨#[45, 48]⟩ (by decide)
  have I3 : Hid (∀ w, Calls Try.prog 18 #[.string ⟨#[49, 47, 49]⟩] w fun e w' => e = .returned (.bool false) ∧ Below w.heap.size w w') := fun w => is_any w ⟨#[49, 47, 49]⟩ (by decide)
  go_enter Try.func20, Try.ntmps20
  go_wp2_with fail
  refine (C1.out _).mono ?_; rintro e w1 ⟨rfl, hb1⟩
  have B1 := Lib.hid hb1; clear hb1
  go_wp2_with fail
  refine (C2.out _).mono ?_; rintro e w2 ⟨rfl, hb2⟩
  have B2 := Lib.hid (bstep B1.out hb2); clear hb2
  go_wp2_with fail
  refine (C3.out _).mono ?_; rintro e w3 ⟨rfl, hb3⟩
  have B3 := Lib.hid (bstep B2.out hb3); clear hb3
  go_wp2_with fail
  refine (C4.out _).mono ?_; rintro e w4 ⟨rfl, hb4⟩
  have B4 := Lib.hid (bstep B3.out hb4); clear hb4
  go_wp2_with fail
  refine (C5.out _).mono ?_; rintro e w5 ⟨rfl, hb5⟩
  have B5 := Lib.hid (bstep B4.out hb5); clear hb5
  go_wp2_with fail
  have ST := Lib.hid (Strs.new2 w5 ⟨#[49, 47, 50]⟩ ⟨#[51, 47, 52]⟩)
  have B5' := Lib.hid (bstep B5.out (below_alloc w5 (.cells #[.string ⟨#[49, 47, 50]⟩, .string ⟨#[51, 47, 52]⟩] 9)))
  generalize w5.alloc (.cells #[.string ⟨#[49, 47, 50]⟩, .string ⟨#[51, 47, 52]⟩] 9) = w5' at *
  refine (C6.out _ _ ST.out).mono ?_; rintro e w6 ⟨rfl, hb6⟩
  have B6 := Lib.hid (bstep B5'.out hb6); clear hb6
  go_wp2_with fail
  refine (C7.out _).mono ?_; rintro e w7 ⟨rfl, hb7⟩
  have B7 := Lib.hid (bstep B6.out hb7); clear hb7
  go_wp2_with fail
  refine (I1.out _).mono ?_; rintro e w8 ⟨rfl, hb8⟩
  have B8 := Lib.hid (bstep B7.out hb8); clear hb8
  go_wp2_with fail
  refine (I2.out _).mono ?_; rintro e w9 ⟨rfl, hb9⟩
  have B9 := Lib.hid (bstep B8.out hb9); clear hb9
  go_wp2_with fail
  refine (I3.out _).mono ?_; rintro e w10 ⟨rfl, hb10⟩
  have B10 := Lib.hid (bstep B9.out hb10); clear hb10
  go_wp2_with fail
  go_ret
  exact ⟨rfl, B10.out⟩
end Go.Proofs.Ytlkdahgfnfdakaa
