/- LexNumbers: the law's walk. -/
import Derived.Test.YtegobakoflbnfaaDoorNm
namespace Go.Proofs.YtegobakoflbnfaaDoor
open Go Go.RowKit

set_option maxHeartbeats 6400000 in
set_option maxRecDepth 100000 in
theorem scan_big (w : World) (s : ByteArray) (h8 : 8000 < s.size) : Calls Tryd.prog 15 #[.string s] w (RetScan w ([], 0, 2)) := by
  go_enter Tryd.func15, Tryd.ntmps15
  go_wp2_with fail
  refine bodyPost_ret (v := .tuple #[.slice none 0 0, .int .i64 0, .int .i64 2]) (by simp [results, Tryd.f15, go_sem]) rfl ⟨.slice none 0 0, rfl, OwnT.nil (Nat.le_refl _), Below.refl _ _⟩
theorem scan_all (w : World) (s : ByteArray) (hm : MaxL w) (ht : Pow10 w) : Calls Tryd.prog 15 #[.string s] w (RetScan w (scanT s)) := by
  by_cases h8 : 8000 < s.size
  · have e : scanT s = ([], 0, 2) := by unfold scanT; rw [if_pos h8]
    rw [e]
    exact scan_big w s h8
  · exact scan_any w s (by omega) hm ht
set_option maxHeartbeats 6400000 in
set_option maxRecDepth 100000 in
theorem numbers_any (w : World) (s t : ByteArray) (b1 b2 : Nat) (hs : s.size ≤ 140737488355328) (ht : t.size ≤ 140737488355328) (hb1 : b1 < 256) (hb2 : b2 < 256) (hm : MaxL w) (hp : Pow10 w) :
    Calls Tryd.prog 10 #[.string s, .string t, .int .u8 (b1 : Int), .int .u8 (b2 : Int)] w fun e w' => e = .returned (.bool true) ∧ Below w.heap.size w w' := by
  have AL : Hid (∀ W, Below w.heap.size w W → Calls Tryd.prog 13 #[] W fun e w' => e = .returned (.bool true) ∧ Below W.heap.size W w') := fun W hb => alive_any W (hm.go hb) (hp.go hb)
  have SC : Hid (∀ W x, Below w.heap.size w W → Calls Tryd.prog 15 #[.string x] W (RetScan W (scanT x))) := fun W x hb => scan_all W x (hm.go hb) (hp.go hb)
  have DS := Lib.hid (digits_any w s hs)
  have DT := Lib.hid (digits_any w t ht)
  clear hm hp
  cases ds : dgB s
  · rw [ds] at DS
    clear ds hs ht
    go_enter Tryd.func10, Tryd.ntmps10
    go_wp2_with fail
    refine DS.out.mono ?_; rintro e w1 ⟨rfl, rfl⟩
    go_wp2_with fail
    refine (AL.out _ (Below.refl _ _)).mono ?_; rintro e w2 ⟨rfl, hb⟩
    have HB := Lib.hid hb; clear hb
    go_wp2_with fail
    go_ret
    exact ⟨rfl, HB.out⟩
  · rw [ds] at DS
    cases dt : dgB t
    · rw [dt] at DT
      clear ds dt hs ht
      go_enter Tryd.func10, Tryd.ntmps10
      go_wp2_with fail
      refine DS.out.mono ?_; rintro e w1 ⟨rfl, rfl⟩
      go_wp2_with fail
      refine DT.out.mono ?_; rintro e w1 ⟨rfl, rfl⟩
      go_wp2_with fail
      refine (AL.out _ (Below.refl _ _)).mono ?_; rintro e w2 ⟨rfl, hb⟩
      have HB := Lib.hid hb; clear hb
      go_wp2_with fail
      go_ret
      exact ⟨rfl, HB.out⟩
    · rw [dt] at DT
      obtain ⟨gs, gsn⟩ := dgB_dig ds
      obtain ⟨gt, gtn⟩ := dgB_dig dt
      clear ds dt
      have HS := Lib.hid hs; have HT := Lib.hid ht
      obtain ⟨n1, hn1⟩ : ∃ n, n = b1 % 15 := ⟨_, rfl⟩
      obtain ⟨n2, hn2⟩ : ∃ n, n = b2 % 15 := ⟨_, rfl⟩
      have R1 : Hid (Int.tmod (b1 : Int) 15 = (n1 : Int)) := by show _ = _; rw [hn1]; rfl
      have R2 : Hid (Int.tmod (b2 : Int) 15 = (n2 : Int)) := by show _ = _; rw [hn2]; rfl
      have N1 : Hid (n1 < 15) := by show _ < _; omega
      have N2 : Hid (n2 < 15) := by show _ < _; omega
      have GS := Lib.hid (And.intro gs gsn); have GT := Lib.hid (And.intro gt gtn)
      clear hn1 hn2 gs gsn gt gtn hs ht
      go_enter Tryd.func10, Tryd.ntmps10
      go_wp2_with fail
      refine DS.out.mono ?_; rintro e w1 ⟨rfl, rfl⟩
      go_wp2_with fail
      refine DT.out.mono ?_; rintro e w1 ⟨rfl, rfl⟩
      go_wp2_with fail
      go_loopw [9, 11] (fun v9 v11 wr => ∃ (i : Nat) (x : ByteArray), v9 = .string x ∧ v11 = .int .i64 (i : Int) ∧ i ≤ n1 ∧ Hid (Below w1.heap.size w1 wr) ∧ Hid (x.data.toList = List.replicate i 48 ++ s.data.toList)) (fun _ v11 _ => n1 - (intOf v11).toNat)
      case atStart => exact ⟨0, s, rfl, rfl, Nat.zero_le _, Below.refl _ _, rfl⟩
      case round =>
        obtain ⟨i, x, rfl, rfl, hi, HB1, HX⟩ := hrel
        have hxs : x.size = i + s.size := by
          have h1 : x.data.toList.length = x.size := Array.length_toList
          have h2 : s.data.toList.length = s.size := Array.length_toList
          rw [← h1, HX.out, List.length_append, List.length_replicate, h2]
        by_cases hlt : i < n1
        · have c1 : ¬ ((⟨#[48]⟩ : ByteArray).size + x.size > 9223372036854775807) := by
            have h1 : (⟨#[48]⟩ : ByteArray).size = 1 := rfl
            have := HS.out; have := N1.out
            omega
          have W3 := Lib.hid (wnat (n := i) (by have := N1.out; omega))
          have HX2 : Hid (((⟨#[48]⟩ : ByteArray) ++ x).data.toList = List.replicate (i + 1) 48 ++ s.data.toList) := by
            show _ = _
            rw [ByteArray.data_append, Array.toList_append, HX.out, List.replicate_succ]; rfl
          have HLT := Lib.hid hlt
          have hii : (i : Int) < (n1 : Int) := by omega
          have r1 := R1.out
          clear hxs HX
          go_wp2_with fail
          go_roundw
          case rel => exact ⟨i + 1, _, rfl, by first | exact congrArg (Value.int .i64) W3.out | go_num, HLT.out, HB1, HX2⟩
          case measure => have := HLT.out; first | (rw [W3.out]; simp [intOf]; omega) | (simp [intOf]; omega)
        · have hin : i = n1 := by omega
          subst hin
          have hxb : x.size ≤ 140737488355343 := by have := HS.out; have := N1.out; omega
          have HXB := Lib.hid hxb
          have hii : ¬ (i : Int) < (i : Int) := by omega
          have r1 := R1.out
          clear hxs hlt hxb
          go_wp2_with fail
          clear hii r1
          go_loopw [10, 12] (fun v10 v12 wr => ∃ (j : Nat) (y : ByteArray), v10 = .string y ∧ v12 = .int .i64 (j : Int) ∧ j ≤ n2 ∧ Hid (Below w1.heap.size w1 wr) ∧ Hid (y.data.toList = t.data.toList ++ List.replicate j 48)) (fun _ v12 _ => n2 - (intOf v12).toNat)
          case atStart => exact ⟨0, t, rfl, rfl, Nat.zero_le _, HB1, by show _ = _; rw [List.replicate_zero, List.append_nil]⟩
          case round =>
            obtain ⟨j, y, rfl, rfl, hj, HB0, HY⟩ := hrel
            have hys : y.size = t.size + j := by
              have h1 : y.data.toList.length = y.size := Array.length_toList
              have h2 : t.data.toList.length = t.size := Array.length_toList
              rw [← h1, HY.out, List.length_append, List.length_replicate, h2]
            by_cases hlt : j < n2
            · have c1 : ¬ (y.size + (⟨#[48]⟩ : ByteArray).size > 9223372036854775807) := by
                have h1 : (⟨#[48]⟩ : ByteArray).size = 1 := rfl
                have := HT.out; have := N2.out
                omega
              have W3 := Lib.hid (wnat (n := j) (by have := N2.out; omega))
              have HY2 : Hid ((y ++ (⟨#[48]⟩ : ByteArray)).data.toList = t.data.toList ++ List.replicate (j + 1) 48) := by
                show _ = _
                rw [ByteArray.data_append, Array.toList_append, HY.out, List.replicate_succ', List.append_assoc]
              have HLT := Lib.hid hlt
              have hii : (j : Int) < (n2 : Int) := by omega
              have r2 := R2.out
              clear hys HY
              go_wp2_with fail
              go_roundw
              case rel => exact ⟨j + 1, _, rfl, by first | exact congrArg (Value.int .i64) W3.out | go_num, HLT.out, HB0, HY2⟩
              case measure => have := HLT.out; first | (rw [W3.out]; simp [intOf]; omega) | (simp [intOf]; omega)
            · have hjn : j = n2 := by omega
              subst hjn
              have hii : ¬ (j : Int) < (j : Int) := by omega
              have r2 := R2.out
              have hyb : y.size ≤ 140737488355343 := by have := HT.out; have := N2.out; omega
              have e46 : (⟨#[46]⟩ : ByteArray).size = 1 := rfl
              have c1 : ¬ (s.size + (⟨#[46]⟩ : ByteArray).size > 9223372036854775807) := by have := HS.out; omega
              have c2 : ¬ ((s ++ ⟨#[46]⟩).size + t.size > 9223372036854775807) := by have := HS.out; have := HT.out; rw [ByteArray.size_append]; omega
              have c3 : ¬ (x.size + (⟨#[46]⟩ : ByteArray).size > 9223372036854775807) := by have := HXB.out; omega
              have c4 : ¬ ((x ++ ⟨#[46]⟩).size + y.size > 9223372036854775807) := by have := HXB.out; rw [ByteArray.size_append]; omega
              have HXS : Hid (x.size = i + s.size) := by
                have h1 : x.data.toList.length = x.size := Array.length_toList
                have h2 : s.data.toList.length = s.size := Array.length_toList
                show _ = _
                rw [← h1, HX.out, List.length_append, List.length_replicate, h2]
              have HYS := Lib.hid hys
              clear hys hlt hyb e46
              by_cases hx : 15 < x.size
              · have t1 : decide (15 < (x.size : Int)) = true := decide_eq_true (by omega)
                clear hx
                go_wp2_with fail
                clear c1 c2 c3 c4 hii r2
                refine (SC.out _ _ HB0.out).mono ?_; rintro e w2 ⟨va, rfl, hoa, hb1⟩
                have B1 := Lib.hid (bstep HB0.out hb1); clear hoa hb1
                go_wp2_with fail
                refine (SC.out _ _ B1.out).mono ?_; rintro e w3 ⟨vb, rfl, hob, hb2⟩
                have B2 := Lib.hid (bstep B1.out hb2); clear hob hb2
                go_wp2_with fail
                refine (AL.out _ B2.out).mono ?_; rintro e w4 ⟨rfl, hb⟩
                have HB := Lib.hid (bstep B2.out hb); clear hb
                go_wp2_with fail
                go_ret
                exact ⟨rfl, HB.out⟩
              · have t1 : decide (15 < (x.size : Int)) = false := decide_eq_false (by omega)
                by_cases hy : 15 < y.size
                · have t2 : decide (15 < (y.size : Int)) = true := decide_eq_true (by omega)
                  clear hx hy
                  go_wp2_with fail
                  clear c1 c2 c3 c4 hii r2
                  refine (SC.out _ _ HB0.out).mono ?_; rintro e w2 ⟨va, rfl, hoa, hb1⟩
                  have B1 := Lib.hid (bstep HB0.out hb1); clear hoa hb1
                  go_wp2_with fail
                  refine (SC.out _ _ B1.out).mono ?_; rintro e w3 ⟨vb, rfl, hob, hb2⟩
                  have B2 := Lib.hid (bstep B1.out hb2); clear hob hb2
                  go_wp2_with fail
                  refine (AL.out _ B2.out).mono ?_; rintro e w4 ⟨rfl, hb⟩
                  have HB := Lib.hid (bstep B2.out hb); clear hb
                  go_wp2_with fail
                  go_ret
                  exact ⟨rfl, HB.out⟩
                · have t2 : decide (15 < (y.size : Int)) = false := decide_eq_false (by omega)
                  have sS : scanT (s ++ ⟨#[46]⟩ ++ t) = ([(3, ⟨(fracL s.data.toList t.data.toList).toArray⟩, 0)], 0, 0) := by
                    have h2 : s.data.toList.length = s.size := Array.length_toList
                    have h3 : t.data.toList.length = t.size := Array.length_toList
                    have := HXS.out; have := HYS.out
                    rw [← scan_dec GS.out.1 GT.out.1 GS.out.2 GT.out.2 (by omega) (by omega)]
                    congr 1
                    apply ByteArray.ext
                    rw [← Array.toList_inj]
                    simp [ByteArray.data_append]
                  have sT : scanT (x ++ ⟨#[46]⟩ ++ y) = ([(3, ⟨(fracL s.data.toList t.data.toList).toArray⟩, 0)], 0, 0) := by
                    have h2 : x.data.toList.length = x.size := Array.length_toList
                    have h3 : y.data.toList.length = y.size := Array.length_toList
                    have gx : Dig x.data.toList ∧ x.data.toList ≠ [] := by
                      rw [HX.out]
                      exact ⟨dig_append (dig_noughts _) GS.out.1, fun h0 => GS.out.2 (List.append_eq_nil_iff.1 h0).2⟩
                    have gy : Dig y.data.toList ∧ y.data.toList ≠ [] := by
                      rw [HY.out]
                      exact ⟨dig_append GT.out.1 (dig_noughts _), fun h0 => GT.out.2 (List.append_eq_nil_iff.1 h0).1⟩
                    have hf : fracL x.data.toList y.data.toList = fracL s.data.toList t.data.toList := by rw [HX.out, HY.out, frac_heads, frac_tails]
                    rw [← hf, ← scan_dec gx.1 gy.1 gx.2 gy.2 (by omega) (by omega)]
                    congr 1
                    apply ByteArray.ext
                    rw [← Array.toList_inj]
                    simp [ByteArray.data_append]
                  have S1 : Hid (∀ W, Below w1.heap.size w1 W → Calls Tryd.prog 15 #[.string (s ++ ⟨#[46]⟩ ++ t)] W (RetScan W ([(3, ⟨(fracL s.data.toList t.data.toList).toArray⟩, 0)], 0, 0))) := fun W hb => by
                    rw [← sS]; exact SC.out W _ hb
                  have S2 : Hid (∀ W, Below w1.heap.size w1 W → Calls Tryd.prog 15 #[.string (x ++ ⟨#[46]⟩ ++ y)] W (RetScan W ([(3, ⟨(fracL s.data.toList t.data.toList).toArray⟩, 0)], 0, 0))) := fun W hb => by
                    rw [← sT]; exact SC.out W _ hb
                  obtain ⟨F, hF⟩ : ∃ F : ByteArray, F = ⟨(fracL s.data.toList t.data.toList).toArray⟩ := ⟨_, rfl⟩
                  rw [← hF] at S1 S2
                  have SAME : Hid (∀ W v1 v2, TokAt W v1 [(3, F, 0)] → TokAt W v2 [(3, F, 0)] → Calls Tryd.prog 16 #[v1, v2, .bool true] W fun e w' => e = .returned (.bool true) ∧ Below W.heap.size W w') := fun W v1 v2 h1 h2 => by
                    have := same_any W v1 v2 [(3, F, 0)] [(3, F, 0)] true h1 h2 (Nat.le_of_ble_eq_true rfl) (Nat.le_of_ble_eq_true rfl)
                    have e : sameB true [(3, F, 0)] [(3, F, 0)] = true := by simp [sameB]
                    rw [e] at this
                    exact this
                  clear hF sS sT hx hy
                  go_wp2_with fail
                  clear c1 c2 c3 c4 hii r2
                  refine (S1.out _ HB0.out).mono ?_; rintro e w2 ⟨va, rfl, hoa, hb1⟩
                  have B1 := Lib.hid (bstep HB0.out hb1)
                  have T1 := Lib.hid hoa.tokAt; clear hoa hb1
                  go_wp2_with fail
                  refine (S2.out _ B1.out).mono ?_; rintro e w3 ⟨vb, rfl, hob, hb2⟩
                  have B2 := Lib.hid (bstep B1.out hb2)
                  have T1 := Lib.hid (T1.out.go hb2)
                  have T2 := Lib.hid hob.tokAt; clear hob hb2
                  have CS := Lib.hid (SAME.out w3 _ _ T1.out T2.out)
                  obtain ⟨o1, cap1, rfl, ht1⟩ := T1.out
                  obtain ⟨g1, rfl, hc1⟩ := ht1 Nat.one_pos
                  obtain ⟨x0, -, -⟩ := hc1 0 Nat.one_pos
                  clear hc1 ht1
                  go_wp2_with fail
                  refine CS.out.mono ?_; rintro e w4 ⟨rfl, hb⟩
                  have B3 := Lib.hid (bstep B2.out hb); clear hb
                  go_wp2_with fail
                  refine (AL.out _ B3.out).mono ?_; rintro e w5 ⟨rfl, hb⟩
                  have HB := Lib.hid (bstep B3.out hb); clear hb
                  go_wp2_with fail
                  go_ret
                  exact ⟨rfl, HB.out⟩
end Go.Proofs.YtegobakoflbnfaaDoor
