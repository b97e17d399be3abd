/- first: the longest token that a text begins with. -/
import Derived.Test.YtegobakoflbnfaaDoorQ
namespace Go.Proofs.YtegobakoflbnfaaDoor
open Go Go.RowKit

/-- the class of a text's first byte -/
def cl0 (s : ByteArray) : Int := match s.data.toList with
  | [] => -1
  | b :: _ => classN b.toNat
def firstT (s : ByteArray) : T3 :=
  if cl0 s = 3 then wordT s else if cl0 s = 4 then numberT s else if cl0 s = 6 then quotedT s else if cl0 s = 7 then symT s else noT
theorem dig_head {b : UInt8} {l : List UInt8} (h : classN b.toNat = 4) : 0 < pre (inC digC) (b :: l) := by
  have : inC digC b = true := by unfold inC digC; rw [h]; decide
  unfold pre
  rw [List.takeWhile_cons, this]
  simp

set_option maxHeartbeats 4000000 in
set_option maxRecDepth 100000 in
theorem first_any (w : World) (s : ByteArray) (hs2 : s.size ≤ 140737488355328) (hm : MaxL w) (ht : Pow10 w) : Calls Tryd.prog 28 #[.string s] w (RetTok w (firstT s)) := by
  have BX0 := BoxT.new w (.int .i64 0) (.string ⟨#[]⟩) (.int .i64 0)
  have B0 := below_alloc w (.cells #[.int .i64 0, .string ⟨#[]⟩, .int .i64 0] 36)
  have s1 : (w.alloc (.cells #[.int .i64 0, .string ⟨#[]⟩, .int .i64 0] 36)).heap.size = w.heap.size + 1 := by simp
  obtain ⟨x, hx⟩ : ∃ x, x = firstT s := ⟨_, rfl⟩
  rw [← hx]
  have BX := Lib.hid BX0; have HB := Lib.hid B0
  clear BX0 B0
  by_cases h0 : s.size = 0
  · have hse : s = ⟨#[]⟩ := by apply ByteArray.ext; exact Array.eq_empty_of_size_eq_zero h0
    subst hse
    have HR : Hid (x = noT) := hx
    clear hx hm ht
    obtain ⟨x0, x1, x2, f0, f1, f2⟩ := BX.out.facts
    go_enter Tryd.func28, Tryd.ntmps28
    go_wp2_with fail
    refine bodyPost_ret (v := .tuple #[.agg #[.int .i64 0, .string ⟨#[]⟩, .int .i64 0], .int .i64 0]) ?_ rfl ⟨by rw [HR.out]; rfl, HB.out⟩
    simp [results, Tryd.f28, go_sem, x0, x1, x2]
  · have hs0 : 0 < s.size := Nat.pos_of_ne_zero h0
    obtain ⟨b, hbe⟩ : ∃ b, b = s[0] := ⟨_, rfl⟩
    obtain ⟨l, hl⟩ : ∃ l, s.data.toList = b :: l := by
      have h1 := Lib.data_getElem? s 0 hs0
      cases hd : s.data.toList with
      | nil => rw [hd] at h1; simp at h1
      | cons a l => rw [hd] at h1; simp at h1; exact ⟨l, by rw [h1, hbe]⟩
    have hcl : cl0 s = classN b.toNat := by unfold cl0; rw [hl]
    have CA := Lib.hid (fun W => class_any W b.toNat)
    obtain ⟨c, hc⟩ : ∃ c, c = classN b.toNat := ⟨_, rfl⟩
    rw [← hc] at CA hcl
    have hx2 : x = if c = 3 then wordT s else if c = 4 then numberT s else if c = 6 then quotedT s else if c = 7 then symT s else noT := by rw [hx]; unfold firstT; rw [hcl]
    have HX := Lib.hid hx2
    have hbi : (s[0].toNat : Int) = (b.toNat : Int) := by rw [hbe]
    have hne : s.toList.isEmpty = false := by rw [Lib.toList_data, hl]; rfl
    have hw32 : wrap32 (b.toNat : Int) = (b.toNat : Int) := by have := b.toNat_lt; unfold wrap32; omega
    have HW : Hid (∀ W, Below w.heap.size w W → Calls Tryd.prog 38 #[.string s] W (RetTok W (wordT s))) := fun W _ => word_any W s
    have HNU : Hid (c = 4 → ∀ W, Below w.heap.size w W → Calls Tryd.prog 39 #[.string s] W (RetTok W (numberT s))) := fun h4 W hb => number_any W s (by rw [hl]; exact dig_head (by rw [← hc, h4])) hs2 (hm.go hb) (ht.go hb)
    have HQ : Hid (∀ W, Below w.heap.size w W → Calls Tryd.prog 40 #[.string s] W (RetTok W (quotedT s))) := fun W _ => quoted_any W s hs0 hs2
    have HSY : Hid (∀ W, Below w.heap.size w W → Calls Tryd.prog 41 #[.string s] W (RetTok W (symT s))) := fun W _ => symbol_any W s hs0
    clear hx hx2 hcl hl hc hm ht
    by_cases hk3 : c = 3
    · have hk := hk3
      subst hk
      have HR : Hid (x = wordT s) := by show _ = _; rw [HX.out, if_pos rfl]
      have FX := Lib.hid (HW.out)
      clear HX HW HNU HQ HSY
      obtain ⟨y, hy⟩ : ∃ y, y = wordT s := ⟨_, rfl⟩
      rw [← hy] at FX HR
      clear hy
      go_enter Tryd.func28, Tryd.ntmps28
      go_wp2_with fail
      generalize (w.alloc (.cells #[.int .i64 0, .string ⟨#[]⟩, .int .i64 0] 36)) = w1 at *
      refine (CA.out _).mono ?_; rintro e w2 ⟨rfl, hb2⟩
      have BX2 := Lib.hid (BX.out.go hb2); have HB2 := Lib.hid (bstep HB.out hb2)
      clear hb2 BX HB
      go_wp2_with fail
      refine (FX.out _ HB2.out).mono ?_; rintro e w3 ⟨rfl, hb2⟩
      have BX3 := Lib.hid (BX2.out.go hb2); have HB3 := Lib.hid (bstep HB2.out hb2)
      clear hb2 BX2 HB2
      obtain ⟨x0, x1, x2, f0, f1, f2⟩ := BX3.out.facts
      go_wp2_with fail
      obtain ⟨e0, e1, e2, hb⟩ := tok_ret BX3.out (.int .i64 y.1) (.string y.2.1) (.int .i64 0) HB3.out (by omega)
      refine bodyPost_ret (v := .tuple #[.agg #[.int .i64 y.1, .string y.2.1, .int .i64 0], .int .i64 (y.2.2 : Nat)]) ?_ rfl ⟨by rw [HR.out], hb⟩
      simp [results, Tryd.f28, go_sem, e0, e1, e2]
    · have n3 : (c == 3) = false := by rw [beq_eq_false_iff_ne]; exact hk3
      by_cases hk4 : c = 4
      · have hk := hk4
        subst hk
        have HR : Hid (x = numberT s) := by show _ = _; rw [HX.out, if_neg (by decide), if_pos rfl]
        have FX := Lib.hid (HNU.out rfl)
        clear HX HW HNU HQ HSY
        obtain ⟨y, hy⟩ : ∃ y, y = numberT s := ⟨_, rfl⟩
        rw [← hy] at FX HR
        clear hy
        go_enter Tryd.func28, Tryd.ntmps28
        go_wp2_with fail
        generalize (w.alloc (.cells #[.int .i64 0, .string ⟨#[]⟩, .int .i64 0] 36)) = w1 at *
        refine (CA.out _).mono ?_; rintro e w2 ⟨rfl, hb2⟩
        have BX2 := Lib.hid (BX.out.go hb2); have HB2 := Lib.hid (bstep HB.out hb2)
        clear hb2 BX HB
        go_wp2_with fail
        refine (FX.out _ HB2.out).mono ?_; rintro e w3 ⟨rfl, hb2⟩
        have BX3 := Lib.hid (BX2.out.go hb2); have HB3 := Lib.hid (bstep HB2.out hb2)
        clear hb2 BX2 HB2
        obtain ⟨x0, x1, x2, f0, f1, f2⟩ := BX3.out.facts
        go_wp2_with fail
        obtain ⟨e0, e1, e2, hb⟩ := tok_ret BX3.out (.int .i64 y.1) (.string y.2.1) (.int .i64 0) HB3.out (by omega)
        refine bodyPost_ret (v := .tuple #[.agg #[.int .i64 y.1, .string y.2.1, .int .i64 0], .int .i64 (y.2.2 : Nat)]) ?_ rfl ⟨by rw [HR.out], hb⟩
        simp [results, Tryd.f28, go_sem, e0, e1, e2]
      · have n4 : (c == 4) = false := by rw [beq_eq_false_iff_ne]; exact hk4
        by_cases hk6 : c = 6
        · have hk := hk6
          subst hk
          have HR : Hid (x = quotedT s) := by show _ = _; rw [HX.out, if_neg (by decide), if_neg (by decide), if_pos rfl]
          have FX := Lib.hid (HQ.out)
          clear HX HW HNU HQ HSY
          obtain ⟨y, hy⟩ : ∃ y, y = quotedT s := ⟨_, rfl⟩
          rw [← hy] at FX HR
          clear hy
          go_enter Tryd.func28, Tryd.ntmps28
          go_wp2_with fail
          generalize (w.alloc (.cells #[.int .i64 0, .string ⟨#[]⟩, .int .i64 0] 36)) = w1 at *
          refine (CA.out _).mono ?_; rintro e w2 ⟨rfl, hb2⟩
          have BX2 := Lib.hid (BX.out.go hb2); have HB2 := Lib.hid (bstep HB.out hb2)
          clear hb2 BX HB
          go_wp2_with fail
          refine (FX.out _ HB2.out).mono ?_; rintro e w3 ⟨rfl, hb2⟩
          have BX3 := Lib.hid (BX2.out.go hb2); have HB3 := Lib.hid (bstep HB2.out hb2)
          clear hb2 BX2 HB2
          obtain ⟨x0, x1, x2, f0, f1, f2⟩ := BX3.out.facts
          go_wp2_with fail
          obtain ⟨e0, e1, e2, hb⟩ := tok_ret BX3.out (.int .i64 y.1) (.string y.2.1) (.int .i64 0) HB3.out (by omega)
          refine bodyPost_ret (v := .tuple #[.agg #[.int .i64 y.1, .string y.2.1, .int .i64 0], .int .i64 (y.2.2 : Nat)]) ?_ rfl ⟨by rw [HR.out], hb⟩
          simp [results, Tryd.f28, go_sem, e0, e1, e2]
        · have n6 : (c == 6) = false := by rw [beq_eq_false_iff_ne]; exact hk6
          by_cases hk7 : c = 7
          · have hk := hk7
            subst hk
            have HR : Hid (x = symT s) := by show _ = _; rw [HX.out, if_neg (by decide), if_neg (by decide), if_neg (by decide), if_pos rfl]
            have FX := Lib.hid (HSY.out)
            clear HX HW HNU HQ HSY
            obtain ⟨y, hy⟩ : ∃ y, y = symT s := ⟨_, rfl⟩
            rw [← hy] at FX HR
            clear hy
            go_enter Tryd.func28, Tryd.ntmps28
            go_wp2_with fail
            generalize (w.alloc (.cells #[.int .i64 0, .string ⟨#[]⟩, .int .i64 0] 36)) = w1 at *
            refine (CA.out _).mono ?_; rintro e w2 ⟨rfl, hb2⟩
            have BX2 := Lib.hid (BX.out.go hb2); have HB2 := Lib.hid (bstep HB.out hb2)
            clear hb2 BX HB
            go_wp2_with fail
            refine (FX.out _ HB2.out).mono ?_; rintro e w3 ⟨rfl, hb2⟩
            have BX3 := Lib.hid (BX2.out.go hb2); have HB3 := Lib.hid (bstep HB2.out hb2)
            clear hb2 BX2 HB2
            obtain ⟨x0, x1, x2, f0, f1, f2⟩ := BX3.out.facts
            go_wp2_with fail
            obtain ⟨e0, e1, e2, hb⟩ := tok_ret BX3.out (.int .i64 y.1) (.string y.2.1) (.int .i64 0) HB3.out (by omega)
            refine bodyPost_ret (v := .tuple #[.agg #[.int .i64 y.1, .string y.2.1, .int .i64 0], .int .i64 (y.2.2 : Nat)]) ?_ rfl ⟨by rw [HR.out], hb⟩
            simp [results, Tryd.f28, go_sem, e0, e1, e2]
          · have n7 : (c == 7) = false := by rw [beq_eq_false_iff_ne]; exact hk7
            have HR : Hid (x = noT) := by show _ = _; rw [HX.out, if_neg hk3, if_neg hk4, if_neg hk6, if_neg hk7]
            clear HX HW HNU HQ HSY hk3 hk4 hk6 hk7
            go_enter Tryd.func28, Tryd.ntmps28
            go_wp2_with fail
            generalize (w.alloc (.cells #[.int .i64 0, .string ⟨#[]⟩, .int .i64 0] 36)) = w1 at *
            refine (CA.out _).mono ?_; rintro e w2 ⟨rfl, hb2⟩
            have BX3 := Lib.hid (BX.out.go hb2); have HB3 := Lib.hid (bstep HB.out hb2)
            clear hb2 BX HB
            obtain ⟨x0, x1, x2, f0, f1, f2⟩ := BX3.out.facts
            go_wp2_with fail
            obtain ⟨e0, e1, e2, hb⟩ := tok_ret BX3.out (.int .i64 0) (.string ⟨#[]⟩) (.int .i64 0) HB3.out (by omega)
            refine bodyPost_ret (v := .tuple #[.agg #[.int .i64 0, .string ⟨#[]⟩, .int .i64 0], .int .i64 0]) ?_ rfl ⟨by rw [HR.out]; rfl, hb⟩
            simp [results, Tryd.f28, go_sem, e0, e1, e2]
end Go.Proofs.YtegobakoflbnfaaDoor
