/- LexMany: the law's walk. -/
import Derived.Test.YtegobakoflbnfaaGreatDoorGk
namespace Go.Proofs.YtegobakoflbnfaaGreatDoor
open Go Go.RowKit

set_option maxHeartbeats 6400000 in
set_option maxRecDepth 100000 in
theorem many_any (w : World) (s : ByteArray) (k : Nat) (hk : k < 65536) (hm : MaxL w) (hp : Pow10 w) : Calls Tryz.prog 4 #[.string s, .int .u16 (k : Int)] w fun e w' => e = .returned (.bool true) ∧ Below w.heap.size w w' := by
  have AL : Hid (∀ W, Below w.heap.size w W → Calls Tryz.prog 9 #[] W fun e w' => e = .returned (.bool true) ∧ Below W.heap.size W w') := fun W hb => alive_any W (hm.go hb) (hp.go hb)
  by_cases h20 : 20 < s.size
  · have t1 : decide (20 < (s.size : Int)) = true := decide_eq_true (by omega)
    clear h20 hm hp hk
    go_enter Tryz.func4, Tryz.ntmps4
    go_wp2_with fail
    refine (AL.out _ (Below.refl _ _)).mono ?_; rintro e w1 ⟨rfl, hb⟩
    have HB := Lib.hid hb; clear hb
    go_wp2_with fail
    go_ret
    exact ⟨rfl, HB.out⟩
  · by_cases h9 : 9000 < k
    · have t1 : decide (20 < (s.size : Int)) = false := decide_eq_false (by omega)
      have t2 : decide (9000 < (k : Int)) = true := decide_eq_true (by omega)
      clear h20 h9 hm hp hk
      go_enter Tryz.func4, Tryz.ntmps4
      go_wp2_with fail
      refine (AL.out _ (Below.refl _ _)).mono ?_; rintro e w1 ⟨rfl, hb⟩
      have HB := Lib.hid hb; clear hb
      go_wp2_with fail
      go_ret
      exact ⟨rfl, HB.out⟩
    · have t1 : decide (20 < (s.size : Int)) = false := decide_eq_false (by omega)
      have t2 : decide (9000 < (k : Int)) = false := decide_eq_false (by omega)
      have HS : Hid (s.size ≤ 20) := by show _ ≤ _; omega
      have hk9 : k ≤ 9000 := by omega
      have SS : Hid (∀ t : ByteArray, t.size ≤ 10000 → ∃ L n e, L.length ≤ 2000 ∧
          (∀ W, Below w.heap.size w W → Calls Tryz.prog 6 #[.string t] W (RetScan W (L, n, e))) ∧ (∀ W, Calls Tryz.prog 7 #[.string t] W (RetScan W (L, n, e))) ∧
          (∀ W v1 v2, TokAt W v1 L → TokAt W v2 L → Calls Tryz.prog 8 #[v1, v2, .bool true] W fun e w' => e = .returned (.bool true) ∧ Below W.heap.size W w')) := fun t ht => scans_same w t (by omega) hm hp
      clear h20 h9 hm hp hk
      go_enter Tryz.func4, Tryz.ntmps4
      go_wp2_with fail
      go_loopw [5, 6] (fun v5 v6 wr => ∃ (i : Nat) (L : List UInt8), v6 = .int .i64 (i : Int) ∧ i ≤ k ∧ Hid (QA.Bytes wr w.heap.size v5 L) ∧ Hid (Below w.heap.size w wr) ∧ L.length ≤ 8020) (fun _ v6 _ => k - (intOf v6).toNat)
      case atStart => exact ⟨0, [], rfl, Nat.zero_le _, QA.Bytes.nil _ _, Below.refl _ _, Nat.zero_le _⟩
      case round =>
        obtain ⟨i, L, rfl, hi, HO, HB, hL⟩ := hrel
        rename World => wr
        obtain ⟨o5, c5, rfl⟩ := HO.out.shape
        obtain ⟨m, hm⟩ : ∃ m, m = L.length := ⟨_, rfl⟩
        rw [← hm] at HO hL ⊢
        have HM := Lib.hid hm
        by_cases hgo : i < k ∧ m ≤ 8000
        · have t3 : (i : Int) < (k : Int) := by omega
          have t4 : decide ((m : Int) ≤ 8000) = true := decide_eq_true (by omega)
          have HI : Hid (i < k) := hgo.1
          have HW : Hid (wrap64 ((i : Int) + 1) = ((i + 1 : Nat) : Int)) := wadd (a := i) (b := 1) (by omega)
          have HL2 : Hid ((L ++ s.data.toList).length ≤ 8020) := by
            show _ ≤ _
            have h3 : s.data.toList.length = s.size := by rw [Array.length_toList]; rfl
            have h1 := HS.out
            rw [List.length_append, h3]
            omega
          have HL3 : Hid (L.length + s.size ≤ 140737488355328) := by show _ ≤ _; have := HS.out; omega
          clear hgo hm hL
          go_wp2_with (at_builtin; refine bytes_app rfl (.tmp 32) (.tmp 33) rfl (L := L) (s := s) rfl (by have h := HO.out; rw [HM.out] at h; first | exact h | (rw [HM.out]; exact h)) HB.out.size rfl HL3.out ?_; intro v' w4 hown4 _ hkeep)
          have HO5 := Lib.hid hown4
          have HB5 := Lib.hid (hkeep w w.heap.size (Nat.le_refl _) HB.out)
          clear hown4 hkeep
          refine ⟨⟨i + 1, L ++ s.data.toList, by first | rfl | go_num, HI.out, HO5, HB5, HL2.out⟩, ?_⟩
          have := HI.out
          simp only [intOf]
          omega
        · by_cases hik : i < k
          · have t3 : (i : Int) < (k : Int) := by omega
            have t4 : decide ((m : Int) ≤ 8000) = false := decide_eq_false (by omega)
            clear hik
            obtain ⟨L8, n8, e8, hl, h6, h7, h8⟩ := SS.out ⟨L.toArray⟩ (by show L.toArray.size ≤ 10000; rw [List.size_toArray]; omega)
            have S6 := Lib.hid h6; have S7 := Lib.hid h7; have S8 := Lib.hid h8
            obtain ⟨S, hS⟩ : ∃ S : ByteArray, S = ⟨L.toArray⟩ := ⟨_, rfl⟩
            rw [← hS] at S6 S7
            have CV : Hid (∀ W, Below wr.heap.size wr W → (convert 30 9 (.slice o5 m c5)).run Tryz.prog W = .ok (.string S) W) := fun W hb => by
              have h := bytes_conv (HO.out.below hb)
              rw [HM.out, hS]; rw [← HM.out]; first | exact h | (rw [HM.out] at h ⊢; exact h)
            have n1 : ((n8 : Int) == (n8 : Int)) = true := beq_self_eq_true _
            have e1 : (e8 == e8) = true := beq_self_eq_true _
            have cv := CV.out wr (Below.refl _ _)
            clear hgo hm hL hl h6 h7 h8 hS
            go_wp2_with fail
            clear cv
            refine (S6.out _ HB.out).mono ?_; rintro e' w1 ⟨v1, rfl, ho1, hb1⟩
            have T1 := Lib.hid ho1.tokAt
            have cv := CV.out w1 hb1
            have B1 := Lib.hid (bstep HB.out hb1); clear ho1 hb1
            obtain ⟨o1, c1, rfl, -⟩ := T1.out
            go_wp2_with fail
            clear cv
            refine (S7.out _).mono ?_; rintro e' w2 ⟨v2, rfl, ho2, hb2⟩
            have T2 := Lib.hid ho2.tokAt
            have T1' := Lib.hid (T1.out.go hb2)
            have B2 := Lib.hid (bstep B1.out hb2); clear ho2 hb2
            obtain ⟨o2, c2, rfl, -⟩ := T2.out
            clear T1
            go_wp2_with fail
            refine (S8.out _ _ _ T1'.out T2.out).mono ?_; rintro e' w3 ⟨rfl, hb3⟩
            have B3 := Lib.hid (bstep B2.out hb3); clear hb3
            go_wp2_with fail
            refine (AL.out _ B3.out).mono ?_; rintro e' w4 ⟨rfl, hb4⟩
            have HB9 := Lib.hid (bstep B3.out hb4); clear hb4
            go_wp2_with fail
            go_ret
            exact ⟨rfl, HB9.out⟩
          · have t3 : ¬ (i : Int) < (k : Int) := by omega
            clear hik
            obtain ⟨L8, n8, e8, hl, h6, h7, h8⟩ := SS.out ⟨L.toArray⟩ (by show L.toArray.size ≤ 10000; rw [List.size_toArray]; omega)
            have S6 := Lib.hid h6; have S7 := Lib.hid h7; have S8 := Lib.hid h8
            obtain ⟨S, hS⟩ : ∃ S : ByteArray, S = ⟨L.toArray⟩ := ⟨_, rfl⟩
            rw [← hS] at S6 S7
            have CV : Hid (∀ W, Below wr.heap.size wr W → (convert 30 9 (.slice o5 m c5)).run Tryz.prog W = .ok (.string S) W) := fun W hb => by
              have h := bytes_conv (HO.out.below hb)
              rw [HM.out, hS]; rw [← HM.out]; first | exact h | (rw [HM.out] at h ⊢; exact h)
            have n1 : ((n8 : Int) == (n8 : Int)) = true := beq_self_eq_true _
            have e1 : (e8 == e8) = true := beq_self_eq_true _
            have cv := CV.out wr (Below.refl _ _)
            clear hgo hm hL hl h6 h7 h8 hS
            go_wp2_with fail
            clear cv
            refine (S6.out _ HB.out).mono ?_; rintro e' w1 ⟨v1, rfl, ho1, hb1⟩
            have T1 := Lib.hid ho1.tokAt
            have cv := CV.out w1 hb1
            have B1 := Lib.hid (bstep HB.out hb1); clear ho1 hb1
            obtain ⟨o1, c1, rfl, -⟩ := T1.out
            go_wp2_with fail
            clear cv
            refine (S7.out _).mono ?_; rintro e' w2 ⟨v2, rfl, ho2, hb2⟩
            have T2 := Lib.hid ho2.tokAt
            have T1' := Lib.hid (T1.out.go hb2)
            have B2 := Lib.hid (bstep B1.out hb2); clear ho2 hb2
            obtain ⟨o2, c2, rfl, -⟩ := T2.out
            clear T1
            go_wp2_with fail
            refine (S8.out _ _ _ T1'.out T2.out).mono ?_; rintro e' w3 ⟨rfl, hb3⟩
            have B3 := Lib.hid (bstep B2.out hb3); clear hb3
            go_wp2_with fail
            refine (AL.out _ B3.out).mono ?_; rintro e' w4 ⟨rfl, hb4⟩
            have HB9 := Lib.hid (bstep B3.out hb4); clear hb4
            go_wp2_with fail
            go_ret
            exact ⟨rfl, HB9.out⟩
end Go.Proofs.YtegobakoflbnfaaGreatDoor
