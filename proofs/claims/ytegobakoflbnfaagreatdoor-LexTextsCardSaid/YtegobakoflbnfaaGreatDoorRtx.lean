/- The reference's Text. -/
import Derived.Test.YtegobakoflbnfaaGreatDoorRtm
namespace Go.Proofs.YtegobakoflbnfaaGreatDoor
open Go Go.RowKit

/-- the bytes gathered so far: those of the first tokens, or too many -/
def JInv (L : List Tk) (i : Nat) (J : List UInt8) : Prop := J = joinL (L.take i) ∨ (8000 < J.length ∧ 8000 < (joinL (L.take i)).length)
theorem join_take {L : List Tk} {i : Nat} (h : i < L.length) : joinL (L.take (i + 1)) = joinL (L.take i) ++ (if i = 0 then [] else [32]) ++ (wrT L[i]).data.toList := by
  rw [List.take_add_one, List.getElem?_eq_getElem h]
  show joinL (L.take i ++ [L[i]]) = _
  rw [join_snoc, List.length_take, Nat.min_eq_left (by omega)]
theorem JInv.skip {L : List Tk} {i : Nat} {J : List UInt8} (h : JInv L i J) (hi : i < L.length) (h8 : 8000 < J.length) : JInv L (i + 1) J := by
  right
  refine ⟨h8, ?_⟩
  rw [join_take hi, List.length_append, List.length_append]
  rcases h with h | h
  · rw [h] at h8; omega
  · omega
theorem JInv.more {L : List Tk} {i : Nat} {J : List UInt8} (h : JInv L i J) (hi : i < L.length) (h8 : ¬ 8000 < J.length) : JInv L (i + 1) (J ++ (if i = 0 then [] else [32]) ++ (wrT L[i]).data.toList) := by
  left
  rw [join_take hi]
  rcases h with h | h
  · rw [h]
  · exact absurd h.1 h8
set_option maxHeartbeats 16000000 in
set_option maxRecDepth 100000 in
theorem reftext_any (w : World) (v : Value) (L : List Tk) (hL : TokO w v L) (hlen : L.length ≤ 3000) (hsz : ∀ t ∈ L, t.2.1.size ≤ 140737488351232) :
    Calls Tryz.prog 11 #[v] w fun e w' => e = .returned (.tuple #[.string (textM L).1, .int .i64 (textM L).2]) ∧ Below w.heap.size w w' := by
  have WA : Hid (∀ W (t : Tk) (z : Int), t ∈ L → Calls Tryz.prog 19 #[.agg #[.int .i64 t.1, .string t.2.1, .int .i64 z]] W fun e w' => ∃ T, e = .returned (.tuple #[.string T, .bool (isT t)]) ∧ (isT t = true → T = wrT t) ∧ Below W.heap.size W w') := fun W t z h => refwr_any W t.1 t.2.1 z (hsz t h)
  have HT0 := Lib.hid hL
  have HLEN := Lib.hid hlen
  obtain ⟨oT, cT, rfl, -⟩ := hL
  obtain ⟨x, hx⟩ : ∃ x, x = textM L := ⟨_, rfl⟩
  rw [← hx]
  have HX := Lib.hid hx
  clear hx hlen hsz
  go_enter Tryz.func11, Tryz.ntmps11
  go_wp2_with fail
  go_loopw [4, 5] (fun v4 v5 wr => ∃ (i : Nat) (J : List UInt8), v5 = .int .i64 (i : Int) ∧ i ≤ L.length ∧ Hid ((L.take i).all isT = true) ∧ Hid (TokO wr (.slice oT L.length cT) L) ∧ Hid (Below w.heap.size w wr) ∧ Hid (QA.Bytes wr w.heap.size v4 J) ∧ J.length ≤ 8100 ∧ Hid (JInv L i J)) (fun _ v5 _ => L.length - (intOf v5).toNat)
  case atStart => exact ⟨0, [], rfl, Nat.zero_le _, rfl, HT0, Below.refl _ _, QA.Bytes.nil _ _, Nat.zero_le _, Or.inl rfl⟩
  case round =>
    obtain ⟨i, J, rfl, hi, HAL, HTn, HBn, HJ, hJl, HI⟩ := hrel
    rename World => wk
    obtain ⟨oJ, cJ, rfl⟩ := HJ.out.shape
    obtain ⟨m, hm⟩ : ∃ m, m = J.length := ⟨_, rfl⟩
    rw [← hm] at hJl
    by_cases hlt : i < L.length
    · obtain ⟨gT, off, rfl⟩ : ∃ g off, oT = some ⟨g, off, none⟩ := by
        obtain ⟨o', c', e', h'⟩ := HTn.out
        injection e' with e1 e2 e3
        subst e1
        obtain ⟨g, off, rfl, h2⟩ := h' (by omega)
        exact ⟨g, off, rfl⟩
      obtain ⟨x0, x1, z, x2⟩ := HTn.out.cells hlt
      have hmem : L[i] ∈ L := List.getElem_mem hlt
      obtain ⟨t, hte⟩ : ∃ t, t = L[i] := ⟨_, rfl⟩
      rw [← hte] at x0 x1 hmem
      have TK := Lib.hid (WA.out wk t z hmem)
      have W3 : Hid (wrap64 ((i : Int) + 1) = ((i + 1 : Nat) : Int)) := wadd (a := i) (b := 1) (by have := HLEN.out; omega)
      have HLT := Lib.hid hlt
      have hii : (i : Int) < (L.length : Int) := by omega
      cases hb : isT t
      · rw [hb] at TK
        have HR : Hid (x = (⟨#[]⟩, 1)) := by
          show _ = _
          rw [HX.out]
          unfold textM
          rw [if_neg]
          rw [Bool.not_eq_true, List.all_eq_false]
          exact ⟨_, hmem, by rw [hb]; decide⟩
        clear hte hmem hb hi hlt hm hJl
        go_wp2_with fail
        refine TK.out.mono ?_; rintro e w3 ⟨T, rfl, -, hb3⟩
        have HB3 := Lib.hid (bstep HBn.out hb3); clear hb3
        go_wp2_with fail
        refine bodyPost_ret (v := .tuple #[.string ⟨#[]⟩, .int .i64 1]) (by simp [results, Tryz.f11, go_sem]) rfl ⟨by rw [HR.out], HB3.out⟩
      · rw [hb] at TK
        have HAL2 : Hid ((L.take (i + 1)).all isT = true) := by
          show _ = _
          rw [List.take_add_one, List.getElem?_eq_getElem hlt, List.all_append, HAL.out, ← hte]
          show (true && (t :: []).all isT) = true
          rw [List.all_cons, hb]; rfl
        have HWR : Hid ((wrT t).size ≤ 42) := isT_short hb
        have hwl : (wrT t).data.toList.length = (wrT t).size := Array.length_toList
        have HWL := Lib.hid hwl
        by_cases h8 : 8000 < m
        · have t8 : decide (8000 < (m : Int)) = true := decide_eq_true (by omega)
          have HI2 : Hid (JInv L (i + 1) J) := HI.out.skip hlt (by omega)
          have HM : Hid (m = J.length) := hm
          have HJL : Hid (J.length ≤ 8100) := by show _ ≤ _; omega
          have HJ' : Hid (QA.Bytes wk w.heap.size (.slice oJ m cJ) J) := by have h9 := HJ.out; rw [← hm] at h9; exact h9
          rw [← hm]
          clear hte hmem hb hi hlt hm hJl h8 hwl HJ HI
          go_wp2_with fail
          refine TK.out.mono ?_; rintro e w3 ⟨T, rfl, hT, hb3⟩
          have HB3 := Lib.hid (bstep HBn.out hb3)
          have HT3 := Lib.hid (HTn.out.go hb3)
          have HJ3 := Lib.hid (HJ'.out.below hb3); clear hb3 hT
          go_wp2_with fail
          go_roundw
          case rel => exact ⟨i + 1, J, by rw [W3.out], HLT.out, HAL2, HT3, HB3, HJ3, HJL.out, HI2⟩
          case measure => exact meas_one HLT.out W3.out
        · have t8 : decide (8000 < (m : Int)) = false := decide_eq_false (by omega)
          have HI2 := HI.out.more hlt (by omega)
          rw [← hte] at HI2
          have HM : Hid (m = J.length ∧ m ≤ 8000) := ⟨hm, by omega⟩
          have HJ' : Hid (QA.Bytes wk w.heap.size (.slice oJ m cJ) J) := by have h9 := HJ.out; rw [← hm] at h9; exact h9
          rw [← hm]
          by_cases hi0 : i = 0
          · have t0 : decide (0 < i) = false := decide_eq_false (by omega)
            rw [if_pos hi0, List.append_nil] at HI2
            have HI3 := Lib.hid HI2
            clear hte hmem hb hi hlt hm hJl h8 hwl HJ HI HI2 hi0
            go_wp2_with fail
            refine TK.out.mono ?_; rintro e w3 ⟨T, rfl, hT, hb3⟩
            have HB3 := Lib.hid (bstep HBn.out hb3)
            have HT3 := Lib.hid (HTn.out.go hb3)
            have HJ3 := Lib.hid (HJ'.out.below hb3)
            obtain rfl := hT (by first | rfl | trivial)
            clear hb3 hT
            have HLx : Hid (J.length + (wrT t).size ≤ 140737488355328) := by show _ ≤ _; have := HM.out; have := HWR.out; omega
            go_wp2_with (at_builtin; refine bytes_app rfl (.tmp 32) (.tmp 33) rfl (L := J) (s := wrT t) rfl HJ3.out HB3.out.size rfl HLx.out ?_; intro v9 w9 hown9 _ hkeep9)
            have HO9 := Lib.hid hown9
            have HB9 := Lib.hid (hkeep9 w w.heap.size (Nat.le_refl _) HB3.out)
            have HT9 := Lib.hid (HT0.out.go HB9.out)
            clear hown9 hkeep9
            go_roundw
            case rel => exact ⟨i + 1, _, by rw [W3.out], HLT.out, HAL2, HT9, HB9, HO9, by have := HM.out; have := HWR.out; have := HWL.out; simp [List.length_append]; omega, HI3⟩
            case measure => exact meas_one HLT.out W3.out
          · have t0 : decide (0 < i) = true := decide_eq_true (by omega)
            rw [if_neg hi0] at HI2
            have HI3 := Lib.hid HI2
            have HL1 : Hid (J.length ≤ 1000000) := by show _ ≤ _; omega
            clear hte hmem hb hi hlt hm hJl h8 hwl HJ HI HI2 hi0
            go_wp2_with fail
            refine TK.out.mono ?_; rintro e w3 ⟨T, rfl, hT, hb3⟩
            have A2 := below_alloc w3 (.cells #[.int .u8 32] 5)
            have HB4 := Lib.hid (bstep (bstep HBn.out hb3) A2)
            have HJ4 := Lib.hid ((HJ'.out.below hb3).below A2)
            have HC4 : Hid ((w3.alloc (.cells #[.int .u8 32] 5)).cell? ⟨w3.heap.size, 0, none⟩ = some (.int .u8 32)) := cell_of_one (heap_alloc_new w3 _)
            obtain rfl := hT (by first | rfl | trivial)
            clear hb3 hT A2
            go_wp2_with (at_builtin; first | (refine bytes_one rfl (.tmp 29) (.tmp 30) rfl (L := J) (c := 32) rfl HJ4.out HB4.out.size rfl HC4.out HL1.out ?_; intro v8 w8 hown8 _ hkeep8) | refine stop_op 34 rfl ?_)
            have HJ8 := Lib.hid hown8
            have HB8 := Lib.hid (hkeep8 w w.heap.size (Nat.le_refl _) HB4.out)
            clear hown8 hkeep8
            have HLx : Hid ((J ++ [32]).length + (wrT t).size ≤ 140737488355328) := by show _ ≤ _; have := HM.out; have := HWR.out; rw [List.length_append, List.length_singleton]; omega
            apply Lib.hid
            refine bytes_app rfl (.tmp 32) (.tmp 33) rfl (L := J ++ [32]) (s := wrT t) rfl HJ8.out HB8.out.size rfl HLx.out ?_
            intro v9 w9 hown9 _ hkeep9
            have HO9 := Lib.hid hown9
            have HB9 := Lib.hid (hkeep9 w w.heap.size (Nat.le_refl _) HB8.out)
            clear hown9 hkeep9
            go_wp2_with fail
            have HT9 := Lib.hid (HT0.out.go HB9.out)
            go_roundw
            case rel => exact ⟨i + 1, _, by rw [W3.out], HLT.out, HAL2, HT9, HB9, HO9, by have := HM.out; have := HWR.out; have := HWL.out; simp [List.length_append]; omega, HI3⟩
            case measure => exact meas_one HLT.out W3.out
    · have hin : i = L.length := by omega
      subst hin
      have hall : L.all isT = true := by have h9 := HAL.out; rw [List.take_length] at h9; exact h9
      have hI := HI.out
      unfold JInv at hI
      rw [List.take_length] at hI
      have hii : ¬ (L.length : Int) < (L.length : Int) := by omega
      have hjs := joined_size L
      rw [← hm]
      by_cases h2 : 2000 < L.length
      · have t2 : decide (2000 < (L.length : Int)) = true := decide_eq_true (by omega)
        have HR : Hid (x = (⟨#[]⟩, 2)) := by
          show _ = _
          rw [HX.out]
          unfold textM
          rw [if_pos hall, if_pos (Or.inl h2)]
        clear hlt hi hall hI hjs h2 hm hJl HAL HI HJ
        go_wp2_with fail
        refine bodyPost_ret (v := .tuple #[.string ⟨#[]⟩, .int .i64 2]) (by simp [results, Tryz.f11, go_sem]) rfl ⟨by rw [HR.out], HBn.out⟩
      · have t2 : decide (2000 < (L.length : Int)) = false := decide_eq_false (by omega)
        by_cases h8 : 8000 < m
        · have t8 : decide (8000 < (m : Int)) = true := decide_eq_true (by omega)
          have HR : Hid (x = (⟨#[]⟩, 2)) := by
            show _ = _
            rw [HX.out]
            unfold textM
            rw [if_pos hall, if_pos (Or.inr (by
              rw [hjs]
              rcases hI with h | h
              · rw [← h]; omega
              · exact h.2))]
          clear hlt hi hall hI hjs h2 hm hJl HAL HI HJ h8
          go_wp2_with fail
          refine bodyPost_ret (v := .tuple #[.string ⟨#[]⟩, .int .i64 2]) (by simp [results, Tryz.f11, go_sem]) rfl ⟨by rw [HR.out], HBn.out⟩
        · have t8 : decide (8000 < (m : Int)) = false := decide_eq_false (by omega)
          have hJ : J = joinL L := by
            rcases hI with h | h
            · exact h
            · omega
          have HR : Hid (x = (⟨J.toArray⟩, 0)) := by
            show _ = _
            rw [HX.out]
            unfold textM
            rw [if_pos hall, if_neg (by intro h9; rw [hjs, ← hJ] at h9; rcases h9 with h9 | h9 <;> omega), hJ]; rfl
          have cv : (convert 30 9 (.slice oJ m cJ)).run Tryz.prog wk = .ok (.string ⟨J.toArray⟩) wk := by have h9 := bytes_conv HJ.out; rw [← hm] at h9; exact h9
          obtain ⟨S, hS⟩ : ∃ S : ByteArray, S = ⟨J.toArray⟩ := ⟨_, rfl⟩
          rw [← hS] at HR cv
          clear hlt hi hall hI hjs h2 hm hJl HAL HI HJ h8 hJ hS
          go_wp2_with fail
          refine bodyPost_ret (v := .tuple #[.string S, .int .i64 0]) (by simp [results, Tryz.f11, go_sem]) rfl ⟨by rw [HR.out], HBn.out⟩
end Go.Proofs.YtegobakoflbnfaaGreatDoor
