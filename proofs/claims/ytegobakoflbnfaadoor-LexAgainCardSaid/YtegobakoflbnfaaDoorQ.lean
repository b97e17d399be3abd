/- number. -/
import Derived.Test.YtegobakoflbnfaaDoorP
namespace Go.Proofs.YtegobakoflbnfaaDoor
open Go Go.RowKit

def digC : List Int := [4]
theorem inC_dig {b : UInt8} (h : inC digC b = true) : 48 ≤ b.toNat ∧ b.toNat ≤ 57 := by
  have h4 : classN b.toNat = 4 := by
    unfold inC digC at h
    simpa using h
  unfold classN at h4
  repeat' split at h4
  all_goals first | assumption | (exfalso; revert h4; decide)
theorem dig_pre (l : List UInt8) : Dig (l.take (pre (inC digC) l)) := by
  have := pre_all (inC digC) l
  rw [List.all_eq_true] at this
  exact fun b hb => inC_dig (this b hb)
/-- the places behind the point -/
def placesT (s : List UInt8) (w : Nat) : Nat := if Lib.hasPrefix (s.drop w) [46] then pre (inC digC) (s.drop (w + 1)) else 0
def numLen (w p : Nat) : Nat := if 0 < p then w + (1 + p) else w
def numberT (s : ByteArray) : T3 :=
  if 15 < pre (inC digC) s.data.toList ∨ 15 < placesT s.data.toList (pre (inC digC) s.data.toList) then noT
  else (3, ⟨(fracL (s.data.toList.take (pre (inC digC) s.data.toList)) ((s.data.toList.drop (pre (inC digC) s.data.toList + 1)).take (placesT s.data.toList (pre (inC digC) s.data.toList)))).toArray⟩,
    numLen (pre (inC digC) s.data.toList) (placesT s.data.toList (pre (inC digC) s.data.toList)))
theorem has_one {t : List UInt8} {c : UInt8} (h : Lib.hasPrefix t [c] = true) : ∃ u, t = c :: u := by
  unfold Lib.hasPrefix at h
  obtain ⟨u, hu⟩ := List.isPrefixOf_iff_prefix.1 h
  exact ⟨u, by rw [← hu]; rfl⟩
theorem places_le (s : List UInt8) (w : Nat) (hw : w ≤ s.length) : numLen w (placesT s w) ≤ s.length := by
  unfold numLen placesT
  by_cases h : Lib.hasPrefix (s.drop w) [46] = true
  · rw [if_pos h]
    obtain ⟨u, hu⟩ := has_one h
    have h1 := pre_le (inC digC) (s.drop (w + 1))
    have h2 : (s.drop w).length = u.length + 1 := by rw [hu]; rfl
    rw [List.length_drop] at h1 h2
    split <;> omega
  · rw [if_neg h, if_neg (Nat.lt_irrefl 0)]; exact hw
/-- what is read is a decimal -/
theorem num_dec (s : List UInt8) (w : Nat) (hw : w ≤ s.length) : s.take (numLen w (placesT s w)) = decL (s.take w) ((s.drop (w + 1)).take (placesT s w)) := by
  unfold decL
  by_cases hp : 0 < placesT s w
  · have hh : Lib.hasPrefix (s.drop w) [46] = true := by
      unfold placesT at hp
      split at hp
      · assumption
      · exact absurd hp (Nat.lt_irrefl 0)
    obtain ⟨u, hu⟩ := has_one hh
    have hu2 : s.drop (w + 1) = u := by rw [← List.drop_drop, hu]; rfl
    have hne : (s.drop (w + 1)).take (placesT s w) ≠ [] := by
      have hle := places_le s w hw
      unfold numLen at hle
      rw [if_pos hp] at hle
      intro h0
      have : ((s.drop (w + 1)).take (placesT s w)).length = 0 := by rw [h0]; rfl
      rw [List.length_take, List.length_drop] at this
      omega
    rw [if_neg hne, hu2]
    unfold numLen
    rw [if_pos hp, List.take_add, hu, show 1 + placesT s w = placesT s w + 1 by omega, List.take_succ_cons]
  · have h0 : placesT s w = 0 := by omega
    unfold numLen
    rw [h0, if_neg (Nat.lt_irrefl 0), List.take_zero, if_pos rfl]
theorem dig_places (s : List UInt8) (w : Nat) : Dig ((s.drop (w + 1)).take (placesT s w)) := by
  unfold placesT
  split
  · exact dig_pre _
  · intro b hb; simp at hb

set_option maxHeartbeats 4000000 in
set_option maxRecDepth 100000 in
theorem number_any (w : World) (s : ByteArray) (h0 : 0 < pre (inC digC) s.data.toList) (hs2 : s.size ≤ 140737488355328) (hm : MaxL w) (ht : Pow10 w) : Calls Tryd.prog 39 #[.string s] w (RetTok w (numberT s)) := by
  have BX0 := BoxT.new w (.int .i64 0) (.string ⟨#[]⟩) (.int .i64 0)
  have B0 := below_alloc w (.cells #[.int .i64 0, .string ⟨#[]⟩, .int .i64 0] 36)
  have s1 : (w.alloc (.cells #[.int .i64 0, .string ⟨#[]⟩, .int .i64 0] 36)).heap.size = w.heap.size + 1 := by simp
  have CW : ∀ W : World, Cls (W.alloc (.cells #[.int .i64 4] 63)) (.slice (some ⟨W.heap.size, 0, none⟩) 1 1) digC := fun W => cls_new W digC 63
  have RN : Hid (∀ (W : World) (t : ByteArray), Calls Tryd.prog 34 #[.string t, .slice (some ⟨W.heap.size, 0, none⟩) 1 1] (W.alloc (.cells #[.int .i64 4] 63)) fun e w' => e = .returned (.int .i64 (pre (inC digC) t.data.toList : Nat)) ∧ Below W.heap.size W w') := fun W t => by
    refine (run_any (CW W) (by decide) (by decide) t).mono ?_
    rintro e w' ⟨rfl, hb⟩
    exact ⟨rfl, bstep (below_alloc W _) hb⟩
  have HP0 := Lib.hid (fun W t => Tryd.strings_HasPrefix t ⟨#[46]⟩ W)
  obtain ⟨a, ha⟩ : ∃ a, a = pre (inC digC) s.data.toList := ⟨_, rfl⟩
  obtain ⟨p, hp⟩ : ∃ p, p = placesT s.data.toList a := ⟨_, rfl⟩
  have hal := pre_le (inC digC) s.data.toList
  have hnl := places_le s.data.toList a (by rw [ha]; exact hal)
  have hnd := num_dec s.data.toList a (by rw [ha]; exact hal)
  have hdp := dig_places s.data.toList a
  have hda := dig_pre s.data.toList
  rw [← hp] at hnl hnd hdp
  rw [← ha] at hal hda h0
  have hsz : s.data.toList.length = s.size := Array.length_toList
  rw [hsz] at hal hnl
  have hX : numberT s = if 15 < a ∨ 15 < p then noT else (3, ⟨(fracL (s.data.toList.take a) ((s.data.toList.drop (a + 1)).take p)).toArray⟩, numLen a p) := by
    unfold numberT; rw [← ha, ← hp]
  obtain ⟨x, hx⟩ : ∃ x, x = numberT s := ⟨_, rfl⟩
  rw [← hx] at hX ⊢
  have HX := Lib.hid hX
  have R1 : Hid (∀ (W : World), Calls Tryd.prog 34 #[.string s, .slice (some ⟨W.heap.size, 0, none⟩) 1 1] (W.alloc (.cells #[.int .i64 4] 63)) fun e w' => e = .returned (.int .i64 (a : Int)) ∧ Below W.heap.size W w') := fun W => by rw [ha]; exact RN.out W s
  have HP : Hid (∀ W, Calls Tryd.prog 35 #[.string (s.extract a s.size), .string ⟨#[46]⟩] W fun e w' => e = .returned (.bool (Lib.hasPrefix (s.data.toList.drop a) [46])) ∧ w' = W) := fun W => by
    have := HP0.out W (s.extract a s.size)
    rw [toList_from] at this
    exact this
  have R2 : Hid (∀ (W : World), Calls Tryd.prog 34 #[.string (s.extract (a + 1) s.size), .slice (some ⟨W.heap.size, 0, none⟩) 1 1] (W.alloc (.cells #[.int .i64 4] 63)) fun e w' => e = .returned (.int .i64 ((pre (inC digC) (s.data.toList.drop (a + 1)) : Nat) : Int)) ∧ Below W.heap.size W w') := fun W => by
    have := RN.out W (s.extract (a + 1) s.size)
    rw [toList_from] at this
    exact this
  have FR : Hid (a ≤ 15 → p ≤ 15 → ∀ W, Below w.heap.size w W → Calls Tryd.prog 55 #[.string (s.extract 0 (numLen a p))] W fun e w' => e = .returned (.string ⟨(fracL (s.data.toList.take a) ((s.data.toList.drop (a + 1)).take p)).toArray⟩) ∧ Below W.heap.size W w') := fun h15 hp15 W hb => by
    refine fraction_any W _ _ _ ?_ hda hdp ?_ ?_ ?_ (hm.go hb) (ht.go hb)
    · rw [toList_extract, List.drop_zero, hnd]
    · intro h; have : (s.data.toList.take a).length = 0 := by rw [h]; rfl
      rw [List.length_take] at this; omega
    · rw [List.length_take]; omega
    · rw [List.length_take]; omega
  have BX := Lib.hid BX0
  have HB := Lib.hid B0
  have HAL := Lib.hid hal
  clear BX0 B0 CW RN HP0 ha hnd hdp hda hX hx hm ht h0 hsz
  cases hk : Lib.hasPrefix (s.data.toList.drop a) [46]
  · have hp0 : p = 0 := by rw [hp]; unfold placesT; rw [hk]; rfl
    rw [hk] at HP
    subst hp0
    have hn : numLen a 0 = a := rfl
    rw [hn] at HX FR hnl
    clear hk hp R2
    by_cases hbad : 15 < a
    · have t1 : decide (15 < (a : Int)) = true := decide_eq_true (by omega)
      have HR : Hid (x = noT) := by show _ = _; rw [HX.out, if_pos (by omega)]
      clear FR HX
      clear hbad
      go_enter Tryd.func39, Tryd.ntmps39
      go_wp2_with fail
      generalize (w.alloc (.cells #[.int .i64 0, .string ⟨#[]⟩, .int .i64 0] 36)) = w1 at *
      rw [← s1]
      refine (R1.out _).mono ?_; rintro e w2 ⟨rfl, hb2⟩
      have BX2 := Lib.hid (BX.out.go hb2); have HB2 := Lib.hid (bstep HB.out hb2)
      clear hb2 R1 BX HB
      obtain ⟨x0, x1, x2, f0, f1, f2⟩ := BX2.out.facts
      go_wp2_with fail
      refine (HP.out _).mono ?_; rintro e w3 ⟨rfl, rfl⟩
      go_wp2_with fail
      obtain ⟨e0, e1, e2, hb⟩ := tok_ret BX2.out (.int .i64 0) (.string ⟨#[]⟩) (.int .i64 0) HB2.out (by omega)
      refine bodyPost_ret (v := .tuple #[.agg #[.int .i64 0, .string ⟨#[]⟩, .int .i64 0], .int .i64 0]) ?_ rfl ⟨by rw [HR.out]; rfl, hb⟩
      simp [results, Tryd.f39, go_sem, e0, e1, e2]
    · have t1 : decide (15 < (a : Int)) = false := decide_eq_false (by omega)
      obtain ⟨y, hy⟩ : ∃ y, y = (⟨(fracL (s.data.toList.take a) ((s.data.toList.drop (a + 1)).take 0)).toArray⟩ : ByteArray) := ⟨_, rfl⟩
      have HR : Hid (x = (3, y, a)) := by show _ = _; rw [HX.out, if_neg (by omega), hy]
      have FR := Lib.hid (FR.out (by omega) (by omega))
      rw [← hy] at FR
      clear HX hy
      go_enter Tryd.func39, Tryd.ntmps39
      go_wp2_with fail
      generalize (w.alloc (.cells #[.int .i64 0, .string ⟨#[]⟩, .int .i64 0] 36)) = w1 at *
      rw [← s1]
      refine (R1.out _).mono ?_; rintro e w2 ⟨rfl, hb2⟩
      have BX2 := Lib.hid (BX.out.go hb2); have HB2 := Lib.hid (bstep HB.out hb2)
      clear hb2 R1 BX HB
      go_wp2_with fail
      refine (HP.out _).mono ?_; rintro e w3 ⟨rfl, rfl⟩
      go_wp2_with fail
      refine (FR.out _ HB2.out).mono ?_; rintro e w5 ⟨rfl, hb2⟩
      have BX5 := Lib.hid (BX2.out.go (hb2)); have HB5 := Lib.hid (bstep HB2.out hb2)
      clear hb2
      obtain ⟨x0, x1, x2, f0, f1, f2⟩ := BX5.out.facts
      go_wp2_with fail
      obtain ⟨e0, e1, e2, hb⟩ := tok_ret BX5.out (.int .i64 3) (.string y) (.int .i64 0) HB5.out (by omega)
      refine bodyPost_ret (v := .tuple #[.agg #[.int .i64 3, .string y, .int .i64 0], .int .i64 ((a : Nat) : Int)]) ?_ rfl ⟨by rw [HR.out], hb⟩
      simp [results, Tryd.f39, go_sem, e0, e1, e2]
  · rw [hk] at HP
    have hp1 : p = pre (inC digC) (s.data.toList.drop (a + 1)) := by rw [hp]; unfold placesT; rw [hk]; rfl
    have ha1 : a + 1 ≤ s.size := by
      obtain ⟨u, hu⟩ := has_one hk
      have h2 : (s.data.toList.drop a).length = u.length + 1 := by rw [hu]; rfl
      rw [List.length_drop, Array.length_toList] at h2
      have : s.data.size = s.size := rfl
      omega
    rw [← hp1] at R2
    clear hk hp hp1
    by_cases hpp : 0 < p
    · have hn : numLen a p = a + (1 + p) := by unfold numLen; rw [if_pos hpp]
      rw [hn] at HX FR hnl
      have w1 : wrap64 (1 + (p : Int)) = ((1 + p : Nat) : Int) := by unfold wrap64; omega
      have w2 : wrap64 ((a : Int) + ((1 + p : Nat) : Int)) = ((a + (1 + p) : Nat) : Int) := wadd (Nat.le_trans hnl hs2)
      have W1 := Lib.hid w1; have W2 := Lib.hid w2
      clear w1 w2 hn
      have t0 : decide (0 < (p : Int)) = true := decide_eq_true (by omega)
      by_cases hbad : 15 < a ∨ 15 < p
      · by_cases h1 : 15 < a
        · have t1 : decide (15 < (a : Int)) = true := decide_eq_true (by omega)
          have HR : Hid (x = noT) := by show _ = _; rw [HX.out, if_pos (by omega)]
          clear FR HX
          clear hbad h1
          go_enter Tryd.func39, Tryd.ntmps39
          go_wp2_with fail
          generalize (w.alloc (.cells #[.int .i64 0, .string ⟨#[]⟩, .int .i64 0] 36)) = w1 at *
          rw [← s1]
          refine (R1.out _).mono ?_; rintro e w2 ⟨rfl, hb2⟩
          have BX2 := Lib.hid (BX.out.go hb2); have HB2 := Lib.hid (bstep HB.out hb2)
          clear hb2 R1 BX HB
          go_wp2_with fail
          refine (HP.out _).mono ?_; rintro e w3 ⟨rfl, rfl⟩
          go_wp2_with fail
          refine (R2.out _).mono ?_; rintro e w4 ⟨rfl, hb2⟩
          have BX4 := Lib.hid (BX2.out.go hb2); have HB4 := Lib.hid (bstep HB2.out hb2)
          clear hb2 BX2 HB2
          have BX2 := BX4; have HB2 := HB4
          clear BX4 HB4
          obtain ⟨x0, x1, x2, f0, f1, f2⟩ := BX2.out.facts
          go_wp2_with fail
          obtain ⟨e0, e1, e2, hb⟩ := tok_ret BX2.out (.int .i64 0) (.string ⟨#[]⟩) (.int .i64 0) HB2.out (by omega)
          refine bodyPost_ret (v := .tuple #[.agg #[.int .i64 0, .string ⟨#[]⟩, .int .i64 0], .int .i64 0]) ?_ rfl ⟨by rw [HR.out]; rfl, hb⟩
          simp [results, Tryd.f39, go_sem, e0, e1, e2]
        · have t1 : decide (15 < (a : Int)) = false := decide_eq_false (by omega)
          have t2 : decide (15 < (p : Int)) = true := decide_eq_true (by omega)
          have HR : Hid (x = noT) := by show _ = _; rw [HX.out, if_pos (by omega)]
          clear FR HX
          clear hbad h1
          go_enter Tryd.func39, Tryd.ntmps39
          go_wp2_with fail
          generalize (w.alloc (.cells #[.int .i64 0, .string ⟨#[]⟩, .int .i64 0] 36)) = w1 at *
          rw [← s1]
          refine (R1.out _).mono ?_; rintro e w2 ⟨rfl, hb2⟩
          have BX2 := Lib.hid (BX.out.go hb2); have HB2 := Lib.hid (bstep HB.out hb2)
          clear hb2 R1 BX HB
          go_wp2_with fail
          refine (HP.out _).mono ?_; rintro e w3 ⟨rfl, rfl⟩
          go_wp2_with fail
          refine (R2.out _).mono ?_; rintro e w4 ⟨rfl, hb2⟩
          have BX4 := Lib.hid (BX2.out.go hb2); have HB4 := Lib.hid (bstep HB2.out hb2)
          clear hb2 BX2 HB2
          have BX2 := BX4; have HB2 := HB4
          clear BX4 HB4
          obtain ⟨x0, x1, x2, f0, f1, f2⟩ := BX2.out.facts
          go_wp2_with fail
          obtain ⟨e0, e1, e2, hb⟩ := tok_ret BX2.out (.int .i64 0) (.string ⟨#[]⟩) (.int .i64 0) HB2.out (by omega)
          refine bodyPost_ret (v := .tuple #[.agg #[.int .i64 0, .string ⟨#[]⟩, .int .i64 0], .int .i64 0]) ?_ rfl ⟨by rw [HR.out]; rfl, hb⟩
          simp [results, Tryd.f39, go_sem, e0, e1, e2]
      · have t1 : decide (15 < (a : Int)) = false := decide_eq_false (by omega)
        have t2 : decide (15 < (p : Int)) = false := decide_eq_false (by omega)
        obtain ⟨y, hy⟩ : ∃ y, y = (⟨(fracL (s.data.toList.take a) ((s.data.toList.drop (a + 1)).take p)).toArray⟩ : ByteArray) := ⟨_, rfl⟩
        have HR : Hid (x = (3, y, a + (1 + p))) := by show _ = _; rw [HX.out, if_neg (by omega), hy]
        have FR := Lib.hid (FR.out (by omega) (by omega))
        rw [← hy] at FR
        clear HX hy
        go_enter Tryd.func39, Tryd.ntmps39
        go_wp2_with fail
        generalize (w.alloc (.cells #[.int .i64 0, .string ⟨#[]⟩, .int .i64 0] 36)) = w1 at *
        rw [← s1]
        refine (R1.out _).mono ?_; rintro e w2 ⟨rfl, hb2⟩
        have BX2 := Lib.hid (BX.out.go hb2); have HB2 := Lib.hid (bstep HB.out hb2)
        clear hb2 R1 BX HB
        go_wp2_with fail
        refine (HP.out _).mono ?_; rintro e w3 ⟨rfl, rfl⟩
        go_wp2_with fail
        refine (R2.out _).mono ?_; rintro e w4 ⟨rfl, hb2⟩
        have BX4 := Lib.hid (BX2.out.go hb2); have HB4 := Lib.hid (bstep HB2.out hb2)
        clear hb2 BX2 HB2
        have BX2 := BX4; have HB2 := HB4
        clear BX4 HB4
        go_wp2_with fail
        refine (FR.out _ HB2.out).mono ?_; rintro e w5 ⟨rfl, hb2⟩
        have BX5 := Lib.hid (BX2.out.go (hb2)); have HB5 := Lib.hid (bstep HB2.out hb2)
        clear hb2
        obtain ⟨x0, x1, x2, f0, f1, f2⟩ := BX5.out.facts
        go_wp2_with fail
        obtain ⟨e0, e1, e2, hb⟩ := tok_ret BX5.out (.int .i64 3) (.string y) (.int .i64 0) HB5.out (by omega)
        refine bodyPost_ret (v := .tuple #[.agg #[.int .i64 3, .string y, .int .i64 0], .int .i64 ((a + (1 + p) : Nat) : Int)]) ?_ rfl ⟨by rw [HR.out], hb⟩
        simp [results, Tryd.f39, go_sem, e0, e1, e2]
    · have hp0 : p = 0 := by omega
      subst hp0
      have hn : numLen a 0 = a := rfl
      rw [hn] at HX FR hnl
      by_cases hbad : 15 < a
      · have t1 : decide (15 < (a : Int)) = true := decide_eq_true (by omega)
        have HR : Hid (x = noT) := by show _ = _; rw [HX.out, if_pos (by omega)]
        clear FR HX
        clear hbad
        go_enter Tryd.func39, Tryd.ntmps39
        go_wp2_with fail
        generalize (w.alloc (.cells #[.int .i64 0, .string ⟨#[]⟩, .int .i64 0] 36)) = w1 at *
        rw [← s1]
        refine (R1.out _).mono ?_; rintro e w2 ⟨rfl, hb2⟩
        have BX2 := Lib.hid (BX.out.go hb2); have HB2 := Lib.hid (bstep HB.out hb2)
        clear hb2 R1 BX HB
        go_wp2_with fail
        refine (HP.out _).mono ?_; rintro e w3 ⟨rfl, rfl⟩
        go_wp2_with fail
        refine (R2.out _).mono ?_; rintro e w4 ⟨rfl, hb2⟩
        have BX4 := Lib.hid (BX2.out.go hb2); have HB4 := Lib.hid (bstep HB2.out hb2)
        clear hb2 BX2 HB2
        have BX2 := BX4; have HB2 := HB4
        clear BX4 HB4
        obtain ⟨x0, x1, x2, f0, f1, f2⟩ := BX2.out.facts
        go_wp2_with fail
        obtain ⟨e0, e1, e2, hb⟩ := tok_ret BX2.out (.int .i64 0) (.string ⟨#[]⟩) (.int .i64 0) HB2.out (by omega)
        refine bodyPost_ret (v := .tuple #[.agg #[.int .i64 0, .string ⟨#[]⟩, .int .i64 0], .int .i64 0]) ?_ rfl ⟨by rw [HR.out]; rfl, hb⟩
        simp [results, Tryd.f39, go_sem, e0, e1, e2]
      · have t1 : decide (15 < (a : Int)) = false := decide_eq_false (by omega)
        obtain ⟨y, hy⟩ : ∃ y, y = (⟨(fracL (s.data.toList.take a) ((s.data.toList.drop (a + 1)).take 0)).toArray⟩ : ByteArray) := ⟨_, rfl⟩
        have HR : Hid (x = (3, y, a)) := by show _ = _; rw [HX.out, if_neg (by omega), hy]
        have FR := Lib.hid (FR.out (by omega) (by omega))
        rw [← hy] at FR
        clear HX hy
        go_enter Tryd.func39, Tryd.ntmps39
        go_wp2_with fail
        generalize (w.alloc (.cells #[.int .i64 0, .string ⟨#[]⟩, .int .i64 0] 36)) = w1 at *
        rw [← s1]
        refine (R1.out _).mono ?_; rintro e w2 ⟨rfl, hb2⟩
        have BX2 := Lib.hid (BX.out.go hb2); have HB2 := Lib.hid (bstep HB.out hb2)
        clear hb2 R1 BX HB
        go_wp2_with fail
        refine (HP.out _).mono ?_; rintro e w3 ⟨rfl, rfl⟩
        go_wp2_with fail
        refine (R2.out _).mono ?_; rintro e w4 ⟨rfl, hb2⟩
        have BX4 := Lib.hid (BX2.out.go hb2); have HB4 := Lib.hid (bstep HB2.out hb2)
        clear hb2 BX2 HB2
        have BX2 := BX4; have HB2 := HB4
        clear BX4 HB4
        go_wp2_with fail
        refine (FR.out _ HB2.out).mono ?_; rintro e w5 ⟨rfl, hb2⟩
        have BX5 := Lib.hid (BX2.out.go (hb2)); have HB5 := Lib.hid (bstep HB2.out hb2)
        clear hb2
        obtain ⟨x0, x1, x2, f0, f1, f2⟩ := BX5.out.facts
        go_wp2_with fail
        obtain ⟨e0, e1, e2, hb⟩ := tok_ret BX5.out (.int .i64 3) (.string y) (.int .i64 0) HB5.out (by omega)
        refine bodyPost_ret (v := .tuple #[.agg #[.int .i64 3, .string y, .int .i64 0], .int .i64 ((a : Nat) : Int)]) ?_ rfl ⟨by rw [HR.out], hb⟩
        simp [results, Tryd.f39, go_sem, e0, e1, e2]
end Go.Proofs.YtegobakoflbnfaaDoor
