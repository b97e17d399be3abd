/- Scan. -/
import Derived.Test.YtegobakoflbnfaaDoorU
namespace Go.Proofs.YtegobakoflbnfaaDoor
open Go Go.RowKit

set_option maxHeartbeats 6400000 in
set_option maxRecDepth 100000 in
theorem scan_any (w : World) (s : ByteArray) (hs2 : s.size ≤ 140737488355328) (hm : MaxL w) (ht : Pow10 w) : Calls Tryd.prog 15 #[.string s] w (RetScan w (scanT s)) := by
  obtain ⟨x, hx⟩ : ∃ x, x = scanT s := ⟨_, rfl⟩
  rw [← hx]
  unfold scanT at hx
  by_cases h8 : 8000 < s.size
  · have HR : Hid (x = ([], 0, 2)) := by show _ = _; rw [hx, if_pos h8]
    clear hx hm ht
    go_enter Tryd.func15, Tryd.ntmps15
    go_wp2_with fail
    refine bodyPost_ret (v := .tuple #[.slice none 0 0, .int .i64 0, .int .i64 2]) (by simp [results, Tryd.f15, go_sem]) rfl ⟨.slice none 0 0, by rw [HR.out]; rfl, by rw [HR.out]; exact OwnT.nil (Nat.le_refl _), Below.refl _ _⟩
  · rw [if_neg h8] at hx
    have FI : Hid (∀ W, Below w.heap.size w W → ∀ t : ByteArray, t.size ≤ 8000 → Calls Tryd.prog 28 #[.string t] W (RetTok W (firstT t))) := fun W hb t h => first_any W t (by omega) (hm.go hb) (ht.go hb)
    have GA : Hid (∀ W, Below w.heap.size w W → ∀ t : ByteArray, t.size ≤ 8000 → Calls Tryd.prog 27 #[.string t] W fun e w' => e = .returned (.int .i64 (gapT t.data.toList : Nat)) ∧ Below W.heap.size W w') := fun W hb t h => gap_any W t (by omega) (by omega) (hm.go hb)
    have hs8 : s.size ≤ 8000 := by omega
    have G0 := Lib.hid (GA.out w (Below.refl _ _) s hs8)
    have hg := gap_le s.data.toList
    rw [Array.length_toList] at hg
    obtain ⟨g, hge⟩ : ∃ g, g = gapT s.data.toList := ⟨_, rfl⟩
    rw [← hge] at hx hg G0
    have HX := Lib.hid hx
    have HG : Hid (g ≤ s.size) := hg
    clear hm ht hx hge hg h8 hs2
    go_enter Tryd.func15, Tryd.ntmps15
    go_wp2_with fail
    refine G0.out.mono ?_; rintro e w2 ⟨rfl, hb⟩
    have HB := Lib.hid hb; clear hb
    go_wp2_with fail
    go_loopw [5, 6] (fun v5 v6 wr => ∃ (n f : Nat) (L : List Tk), v6 = .int .i64 (n : Int) ∧ n ≤ s.size ∧ s.size - n < f ∧ Hid (x = scanL s f n L) ∧ Hid (OwnT wr w.heap.size v5 L) ∧ Hid (Below w.heap.size w wr) ∧ L.length ≤ 2000) (fun _ v6 _ => s.size - (intOf v6).toNat)
    case atStart => exact ⟨g, s.size + 1, [], rfl, HG.out, by omega, HX, OwnT.nil HB.out.size, HB, Nat.zero_le _⟩
    case round =>
      clear HB HX HG G0
      obtain ⟨n, f, L, rfl, hn, hf, HXn, HOn, HBn, hL⟩ := hrel
      obtain ⟨o5, c5, rfl⟩ := HOn.out.shape
      obtain ⟨f, rfl⟩ : ∃ k, f = k + 1 := ⟨f - 1, by omega⟩
      by_cases hlt : n < s.size
      · obtain ⟨t, hte⟩ : ∃ t, t = s.extract n s.size := ⟨_, rfl⟩
        have hts : t.size = s.size - n := by rw [hte]; simp [ByteArray.size_extract]
        have FT := Lib.hid (FI.out wr HBn.out t (by omega))
        have hfl := first_le t
        have hX2 := HXn.out
        rw [scanL, if_pos hlt, ← hte] at hX2
        obtain ⟨y, hy⟩ : ∃ y, y = firstT t := ⟨_, rfl⟩
        rw [← hy] at FT hfl hX2
        obtain ⟨yk, ys, yn⟩ := y
        simp only [] at FT hfl hX2
        have HT := Lib.hid hte
        rw [hte] at FT
        clear hte hy HXn
        by_cases h0 : yn = 0
        · have HR : Hid (x = ([], n, 1)) := by show _ = _; rw [hX2, if_pos h0]
          subst h0
          clear hX2 hfl hts
          go_wp2_with fail
          refine FT.out.mono ?_; rintro e w3 ⟨rfl, hb3⟩
          have HB3 := Lib.hid (bstep HBn.out hb3); clear hb3
          go_wp2_with fail
          refine bodyPost_ret (v := .tuple #[.slice none 0 0, .int .i64 (n : Int), .int .i64 1]) (by simp [results, Tryd.f15, go_sem]) rfl ⟨.slice none 0 0, by rw [HR.out], by rw [HR.out]; exact OwnT.nil (Nat.le_trans HB3.out.size (by simp)), HB3.out.trans ((below_alloc _ _).mono HB3.out.size)⟩
        · have y0 : ((yn : Int) == 0) = false := by rw [beq_eq_false_iff_ne]; omega
          rw [if_neg h0] at hX2
          by_cases hl : L.length = 2000
          · have HR : Hid (x = ([], 0, 2)) := by show _ = _; rw [hX2, if_pos hl]
            have l0 : ((L.length : Int) == 2000) = true := by rw [beq_iff_eq]; omega
            clear hX2 hfl hts
            go_wp2_with fail
            refine FT.out.mono ?_; rintro e w3 ⟨rfl, hb3⟩
            have HB3 := Lib.hid (bstep HBn.out hb3); clear hb3
            go_wp2_with fail
            refine bodyPost_ret (v := .tuple #[.slice none 0 0, .int .i64 0, .int .i64 2]) (by simp [results, Tryd.f15, go_sem]) rfl ⟨.slice none 0 0, by rw [HR.out]; rfl, by rw [HR.out]; exact OwnT.nil (Nat.le_trans HB3.out.size (by simp)), HB3.out.trans ((below_alloc _ _).mono HB3.out.size)⟩
          · have l0 : ((L.length : Int) == 2000) = false := by rw [beq_eq_false_iff_ne]; omega
            rw [if_neg hl] at hX2
            go_wp2_with fail
            refine FT.out.mono ?_; rintro e w3 ⟨rfl, hb3⟩
            have HB3 := Lib.hid (bstep HBn.out hb3)
            have HO3 := Lib.hid (HOn.out.go hb3); clear hb3
            have hny : n + yn ≤ s.size := by omega
            have hg2 := gap_le (s.data.toList.drop (n + yn))
            rw [List.length_drop, Array.length_toList] at hg2
            have hsd : s.data.size = s.size := rfl
            obtain ⟨g2, hg2e⟩ : ∃ g, g = gapT (s.data.toList.drop (n + yn)) := ⟨_, rfl⟩
            rw [← hg2e] at hg2 hX2
            have hn2 : n + yn + g2 ≤ s.size := by omega
            have W1 := Lib.hid (wadd (a := n) (b := yn) (by omega))
            have W2 := Lib.hid (wadd (a := n + yn) (b := g2) (by omega))
            have GA2 : Hid (∀ W, Below w.heap.size w W → Calls Tryd.prog 27 #[.string (s.extract (n + yn) s.size)] W fun e w' => e = .returned (.int .i64 (g2 : Int)) ∧ Below W.heap.size W w') := fun W hb => by
              have h1 : (s.extract (n + yn) s.size).size ≤ 8000 := by simp [ByteArray.size_extract]; omega
              have := GA.out W hb (s.extract (n + yn) s.size) h1
              rw [toList_from, ← hg2e] at this
              exact this
            have HM : Hid (s.size - (n + yn + g2) < f ∧ s.size - (n + yn + g2) < s.size - n) := ⟨by omega, by omega⟩
            have HX3 := Lib.hid hX2
            have HLL : Hid (L.length + 1 ≤ 2000) := by show _ ≤ _; omega
            have e1 : (w3.alloc (.cells #[.int .i64 yk, .string ys, .int .i64 (n : Int)] 36)).heap.size = w3.heap.size + 1 := by simp
            have BX4 := BoxT.new (w3.alloc (.cells #[.int .i64 yk, .string ys, .int .i64 (n : Int)] 36)) (.int .i64 yk) (.string ys) (.int .i64 (n : Int))
            rw [e1] at BX4
            have B4 : Below w3.heap.size w3 ((w3.alloc (.cells #[.int .i64 yk, .string ys, .int .i64 (n : Int)] 36)).alloc (.cells #[.int .i64 yk, .string ys, .int .i64 (n : Int)] 36)) := bstep (below_alloc _ _) (below_alloc _ _)
            have HB4 := Lib.hid (bstep HB3.out B4)
            have HO4 := Lib.hid (HO3.out.go B4)
            have HBX4 := Lib.hid BX4
            clear e1 BX4 B4 hX2 hg2 hg2e hsd hfl hts
            go_wp2_with (at_builtin; refine tok_app rfl (.tmp 33) (.tmp 35) rfl (t := (yk, ys, n)) rfl HO4.out rfl HBX4.out hL ?_; intro v' w4 hown4 hkeep)
            have HO5 := Lib.hid hown4
            have HB5 := Lib.hid (hkeep w w.heap.size (Nat.le_refl _) HB4.out)
            clear hown4 hkeep
            go_wp2_with fail
            refine (GA2.out _ HB5.out).mono ?_; rintro e w5 ⟨rfl, hb5⟩
            have HB6 := Lib.hid (bstep HB5.out hb5)
            have HO6 := Lib.hid (HO5.out.go hb5); clear hb5
            go_wp2_with fail
            go_roundw
            case rel => exact ⟨n + yn + g2, f, L ++ [(yk, ys, n)], congrArg (Value.int .i64) (by omega), hn2, HM.out.1, HX3, HO6, HB6, by have h9 := HLL.out; rw [List.length_append]; exact h9⟩
            case measure => have := HM.out.2; simp [intOf]; omega
      · have hX2 := HXn.out
        rw [scanL, if_neg hlt] at hX2
        have HR := Lib.hid hX2
        clear hX2 HXn
        go_wp2_with fail
        refine bodyPost_ret (v := .tuple #[.slice o5 L.length c5, .int .i64 0, .int .i64 0]) (by simp [results, Tryd.f15, go_sem]) rfl ⟨.slice o5 L.length c5, by rw [HR.out]; rfl, by rw [HR.out]; exact HOn.out, HBn.out⟩
end Go.Proofs.YtegobakoflbnfaaDoor
