/- ends: the walk. -/
import Derived.Test.YtegobakoflbnfaaDoorEn
import Derived.Test.YtegobakoflbnfaaDoorW
import Derived.Deep.QuietTactic
import Derived.BigQuiet
namespace Go.Proofs.YtegobakoflbnfaaDoor
open Go Go.RowKit

theorem tok_cells {w : World} {g : Nat} {cap n : Nat} {T : List Tk} (h : TokAt w (.slice (some ⟨g, 0, none⟩) n cap) T) {i : Nat} (hi : i < T.length) :
    w.cell? ⟨g, i * 3, none⟩ = some (.int .i64 T[i].1) ∧ w.cell? ⟨g, i * 3 + 1, none⟩ = some (.string T[i].2.1) ∧ w.cell? ⟨g, i * 3 + 2, none⟩ = some (.int .i64 (T[i].2.2 : Int)) := by
  obtain ⟨o, c, e, h⟩ := h
  injection e with e1 e2 e3
  subst e1
  obtain ⟨g', e4, h⟩ := h (by omega)
  injection e4 with e5
  injection e5 with e6
  subst e6
  exact h i hi
theorem tok_single {w : World} {v : Value} {u : Tk} (h : TokAt w v [u]) : ∃ g cap, v = .slice (some ⟨g, 0, none⟩) 1 cap ∧ w.cell? ⟨g, 0, none⟩ = some (.int .i64 u.1) ∧ w.cell? ⟨g, 1, none⟩ = some (.string u.2.1) ∧ w.cell? ⟨g, 2, none⟩ = some (.int .i64 (u.2.2 : Int)) := by
  obtain ⟨o, c, rfl, h⟩ := h
  have h1 : 0 < [u].length := by simp
  obtain ⟨g, rfl, h2⟩ := h h1
  have := h2 0 h1
  exact ⟨g, c, rfl, this.1, this.2.1, this.2.2⟩
theorem str_beq {a b : ByteArray} (h : (a.toList == b.toList) = true) : a = b := by
  rw [Lib.toList_data, Lib.toList_data, beq_iff_eq] at h
  exact ByteArray.ext (Array.toList_inj.1 h)

set_option maxHeartbeats 12800000 in
set_option maxRecDepth 100000 in
theorem ends_any (w : World) (s : ByteArray) (v : Value) (T : List Tk) (hT : TokAt w v T) (hs : s.size ≤ 400) (hl : T.length ≤ 400) (hin : ∀ i (hi : i < T.length), TokIn s.data.toList T i T[i]) (hm : MaxL w) (hp : Pow10 w) :
    Calls Tryd.prog 17 #[.string s, v] w fun e w' => ∃ v', e = .returned (.tuple #[v', .bool true]) ∧ IntsAt w' v' (T.map (endT s.data.toList)) ∧ Below w.heap.size w w' := by
  have SC : Hid (∀ W x, Below w.heap.size w W → x.size ≤ 400 → Calls Tryd.prog 15 #[.string x] W (RetScan W (scanT x))) := fun W x hb hx => scan_any W x (by omega) (hm.go hb) (hp.go hb)
  obtain ⟨X, hX⟩ : ∃ X, X = s.data.toList := ⟨_, rfl⟩
  have hXs : X.length = s.size := by rw [hX]; exact Array.length_toList
  rw [← hX] at hin ⊢
  have HX := Lib.hid hX
  have HXS := Lib.hid hXs
  have HS4 : Hid (s.size ≤ 400) := hs
  have HLEN : Hid (T.length ≤ 400) := hl
  have HIN := Lib.hid hin
  have HT0 := Lib.hid hT
  obtain ⟨oT, cT, rfl, -⟩ := hT
  clear hm hp hX hXs hs hl hin
  go_enter Tryd.func17, Tryd.ntmps17
  go_wp2_with fail
  go_loopw [6, 7] (fun v6 v7 wr => ∃ i : Nat, v7 = .int .i64 (i : Int) ∧ i ≤ T.length ∧ Hid (OwnI wr w.heap.size v6 ((T.take i).map (endT X))) ∧ Hid (TokAt wr (.slice oT T.length cT) T) ∧ Hid (Below w.heap.size w wr)) (fun _ v7 _ => T.length - (intOf v7).toNat)
  case atStart => exact ⟨0, rfl, Nat.zero_le _, OwnI.nil (Nat.le_refl _), HT0, Below.refl _ _⟩
  case round =>
    obtain ⟨i, rfl, hi, HO, HTn, HBn⟩ := hrel
    have hl6 : ((T.take i).map (endT X)).length = i := by rw [List.length_map, List.length_take]; omega
    obtain ⟨o6, c6, h6⟩ := HO.out.shape
    rw [hl6] at h6
    subst h6
    clear hl6
    by_cases hlt : i < T.length
    · obtain ⟨gT, rfl⟩ : ∃ g, oT = some ⟨g, 0, none⟩ := by
        obtain ⟨o', c', e', h'⟩ := HTn.out
        injection e' with e1 e2 e3
        subst e1
        obtain ⟨g, rfl, h2⟩ := h' (by omega)
        exact ⟨g, rfl⟩
      have TI := HIN.out i hlt
      obtain ⟨t, hti⟩ : ∃ t, t = T[i] := ⟨_, rfl⟩
      rw [← hti] at TI
      obtain ⟨e, he⟩ : ∃ e, e = endT X t := ⟨_, rfl⟩
      have HEE := Lib.hid he
      obtain ⟨last, hla⟩ : ∃ last, last = lastT X T i := ⟨_, rfl⟩
      obtain ⟨kk, tt, p⟩ := t
      have hpos := TI.pos
      have HPE : Hid (p < e) := by show _ < _; rw [he]; unfold endT; show p < p + _; omega
      have HEL : Hid (e ≤ last) := by show _ ≤ _; rw [he, hla]; exact TI.le
      have HLS : Hid (last ≤ s.size) := by show _ ≤ _; rw [hla, ← HXS.out]; exact TI.last
      have HPL : Hid (p ≤ last) := by show _ ≤ _; have := HPE.out; have := HEL.out; omega
      have HL4 : Hid (last ≤ 400) := by show _ ≤ _; have := HLS.out; have := HS4.out; omega
      have HF1 : Hid (∀ k, k = e → (scanT (s.extract p k)).1 = [(kk, tt, 0)] ∧ (scanT (s.extract p k)).2.2 = 0 ∧ blankB (s.extract k last) = true) := fun k hk => by
        subst hk
        have h4 := HS4.out
        have h1 := HEL.out
        have h2 := HLS.out
        rw [scan_eq _ (by rw [ByteArray.size_extract]; omega), toList_extract, ← HX.out]
        have hsf := scan_self TI
        have he2 : p + lenT X (kk, tt, p) = k := he.symm
        rw [he2] at hsf
        rw [hsf]
        refine ⟨rfl, rfl, ?_⟩
        unfold blankB
        have hr := TI.rest
        rw [← hla, he2] at hr
        rw [toList_extract, ← HX.out, hr, ByteArray.size_extract]
        exact decide_eq_true (by omega)
      have HF2 : Hid (∀ k, p < k → k < e → (scanT (s.extract p k)).2.2 = 0 → blankB (s.extract k last) = true → False) := fun k h1 h2 h3 h4 => by
        have h5 := HEL.out
        have h6 := HLS.out
        have h7 := HS4.out
        rw [scan_eq _ (by rw [ByteArray.size_extract]; omega), toList_extract, ← HX.out] at h3
        unfold blankB at h4
        have h8 := of_decide_eq_true h4
        rw [toList_extract, ← HX.out, ByteArray.size_extract] at h8
        refine scan_short TI (k := k) h1 (by rw [he] at h2; exact h2) h3 ?_
        rw [← hla, h8]; omega
      have hii : (i : Int) < (T.length : Int) := by omega
      obtain ⟨i1, hi1e⟩ : ∃ q, q = i + 1 := ⟨_, rfl⟩
      have hw1 : wrap64 ((i : Int) + 1) = (i1 : Int) := by rw [hi1e]; exact wnat (by have := HLEN.out; omega)
      have HI1 := Lib.hid hi1e
      by_cases hlast : i + 1 < T.length
      · have hi2 : (i1 : Int) < (T.length : Int) := by omega
        have hlv : last = T[i + 1].2.2 := by rw [hla]; unfold lastT; rw [List.getElem?_eq_getElem hlast]
        obtain ⟨-, -, z2⟩ := tok_cells HTn.out hlast
        rw [← hlv, ← hi1e] at z2
        clear hla he hpos TI hlv hi hi1e hlast
        go_wp2_with fail
        clear hw1 hi2
        go_loopw [9, 10] (fun v9 v10 wr2 => ∃ k en : Nat, v9 = .int .i64 (en : Int) ∧ v10 = .int .i64 (k : Int) ∧ p ≤ k ∧ k ≤ last ∧ Hid (e ≤ k ∨ en = e) ∧ en ≤ 400 ∧ Hid (OwnI wr2 w.heap.size (.slice o6 i c6) ((T.take i).map (endT X))) ∧ Hid (TokAt wr2 (.slice (some ⟨gT, 0, none⟩) T.length cT) T) ∧ Hid (Below w.heap.size w wr2)) (fun _ v10 _ => (intOf v10).toNat)
        case atStart => exact ⟨last, 0, rfl, rfl, HPL.out, Nat.le_refl _, Or.inl HEL.out, Nat.zero_le _, HO, HTn, HBn⟩
        case round =>
          obtain ⟨k, en, rfl, rfl, hpk, hkl, HINV, hen, HO2, HT2, HB2⟩ := hrel
          rename World => wr2
          obtain ⟨x0, x1, x2⟩ := tok_cells HT2.out hlt
          rw [← hti] at x0 x1 x2
          simp only [] at x0 x1 x2
          by_cases hkp : p < k
          · have HKA : Hid (p < k) := hkp
            have HRNG : Hid (p ≤ k - 1 ∧ k - 1 ≤ last) := ⟨by omega, by omega⟩
            have hl4 := HL4.out
            have HK9 : Hid (k ≤ 400) := by show _ ≤ _; omega
            have HE9 : Hid (en ≤ 400) := hen
            have WK : Hid (wrap64 ((k : Int) - 1) = ((k - 1 : Nat) : Int)) := by show _ = _; unfold wrap64; omega
            have hkp2 : (p : Int) < (k : Int) := by omega
            have hsl : ∀ w, (Instr.slice 9 (.string s) (some (.int .i64 (p : Int))) (some (.int .i64 (k : Int))) none).run Tryd.prog w = .ok (.string (s.extract p k)) w := fun w => by
              have := HLS.out
              rw [run_slice_string_if w 9 s .i64 .i64 (p : Int) (k : Int) Tryd.underlying9, if_pos (by omega), if_pos (by omega)]; rfl
            have hsl2 : ∀ w, (Instr.slice 9 (.string s) (some (.int .i64 (k : Int))) (some (.int .i64 (last : Int))) none).run Tryd.prog w = .ok (.string (s.extract k last)) w := fun w => by
              have := HLS.out
              rw [run_slice_string_if w 9 s .i64 .i64 (k : Int) (last : Int) Tryd.underlying9, if_pos (by omega), if_pos (by omega)]; rfl
            have hsub : (s.extract p k).size ≤ 400 := by have := HLS.out; have := HS4.out; rw [ByteArray.size_extract]; omega
            have BLK0 := Lib.hid (fun W => blank_any W (s.extract k last) (by have := HS4.out; rw [ByteArray.size_extract]; omega))
            have SCK := Lib.hid (SC.out wr2 _ HB2.out hsub)
            have F1 := HF1.out k
            have F2 := HF2.out k (by omega)
            obtain ⟨bb, hbb⟩ : ∃ b, b = blankB (s.extract k last) := ⟨_, rfl⟩
            obtain ⟨⟨U, m2, e2⟩, hU⟩ : ∃ x, x = scanT (s.extract p k) := ⟨_, rfl⟩
            have BLK : Hid (∀ W, Calls Tryd.prog 18 #[.string (s.extract k last)] W fun e w' => e = .returned (.bool bb) ∧ w' = W) := by rw [hbb]; exact BLK0.out
            rw [← hU] at SCK F1 F2
            rw [← hbb] at F1 F2
            simp only [] at F1 F2
            have HFF1 := Lib.hid F1; have HFF2 := Lib.hid F2
            have HF : Hid (¬ (e2 = 0 ∧ bb = true ∧ U = [(kk, tt, 0)]) → (e ≤ k - 1 ∨ en = e)) := fun h => by
              by_cases h1 : k = e
              · obtain ⟨q1, q2, q3⟩ := HFF1.out h1
                exact absurd ⟨q2, q3, q1⟩ h
              · rcases HINV.out with h2 | h2
                · exact Or.inl (by omega)
                · exact Or.inr h2
            have HT : Hid (e2 = 0 ∧ bb = true → (e ≤ k - 1 ∨ k = e)) := fun h => by
              by_cases h1 : k = e
              · exact Or.inr h1
              · by_cases h2 : k < e
                · exact absurd (HFF2.out h2 h.1 h.2) (fun h => h)
                · exact Or.inl (by omega)
            clear hU hbb F1 F2 HFF1 HFF2 BLK0 HINV hkp hpk hkl hl4 hen hsub
            by_cases h0 : e2 = 0
            · subst h0
              go_wp2_with fail
              refine SCK.out.mono ?_; rintro e9 w3 ⟨v3, rfl, hob, hb3⟩
              have B3 := Lib.hid (bstep HB2.out hb3)
              have O3 := Lib.hid (HO2.out.go hb3)
              have T3 := Lib.hid (HT2.out.go hb3)
              have U3 := Lib.hid hob.tokAt
              clear hob hb3 HB2 HO2 HT2 x0 x1 x2
              obtain ⟨x0, x1, x2⟩ := tok_cells T3.out hlt
              rw [← hti] at x0 x1 x2
              simp only [] at x0 x1 x2
              by_cases hlen : U.length = 1
              · obtain ⟨⟨k2, s2, p2⟩, rfl⟩ : ∃ u, U = [u] := List.length_eq_one_iff.1 hlen
                obtain ⟨g3, c3, rfl, y0, y1, y2⟩ := tok_single U3.out
                by_cases hp2 : p2 = 0
                · subst hp2
                  by_cases hk2 : k2 = kk
                  · subst hk2
                    cases hs2 : (s2.toList == tt.toList)
                    · replace HF : Hid (e ≤ k - 1 ∨ en = e) := HF.out (fun h => by
                        have h9 := h.2.2
                        simp only [List.cons.injEq, Prod.mk.injEq, and_true, true_and] at h9
                        rw [h9] at hs2
                        simp at hs2)
                      go_wp2_with fail
                      go_quiet (fail)
                      go_wp2_with fail
                      go_roundw
                      case rel => exact ⟨k - 1, en, rfl, by first | exact congrArg (Value.int .i64) WK.out | go_num, HRNG.out.1, HRNG.out.2, HF, HE9.out, O3.out.go (below_drewN _ _ _), T3.out.go (below_drewN _ _ _), B3.out.trans (below_drewN _ _ _)⟩
                      case measure => have := HRNG.out.1; have := HKA.out; first | (rw [WK.out]; simp [intOf]; omega) | (simp [intOf]; omega)
                    · cases hbb : bb
                      · subst hbb
                        replace HF : Hid (e ≤ k - 1 ∨ en = e) := HF.out (fun h => by cases h.2.1)
                        go_wp2_with fail
                        go_quiet ((exact Calls.quiet_of_same (BLK.out _)))
                        go_wp2_with fail
                        go_roundw
                        case rel => exact ⟨k - 1, en, rfl, by first | exact congrArg (Value.int .i64) WK.out | go_num, HRNG.out.1, HRNG.out.2, HF, HE9.out, O3.out.go (below_drewN _ _ _), T3.out.go (below_drewN _ _ _), B3.out.trans (below_drewN _ _ _)⟩
                        case measure => have := HRNG.out.1; have := HKA.out; first | (rw [WK.out]; simp [intOf]; omega) | (simp [intOf]; omega)
                      · subst hbb
                        replace HT : Hid (e ≤ k - 1 ∨ k = e) := HT.out ⟨by first | rfl | trivial, by first | rfl | trivial⟩
                        go_wp2_with fail
                        go_quiet ((exact Calls.quiet_of_same (BLK.out _)))
                        go_wp2_with fail
                        go_roundw
                        case rel => exact ⟨k - 1, k, rfl, by first | exact congrArg (Value.int .i64) WK.out | go_num, HRNG.out.1, HRNG.out.2, HT, HK9.out, O3.out.go (below_drewN _ _ _), T3.out.go (below_drewN _ _ _), B3.out.trans (below_drewN _ _ _)⟩
                        case measure => have := HRNG.out.1; have := HKA.out; first | (rw [WK.out]; simp [intOf]; omega) | (simp [intOf]; omega)
                  · have hkb : (k2 == kk) = false := by rw [beq_eq_false_iff_ne]; exact hk2
                    replace HF : Hid (e ≤ k - 1 ∨ en = e) := HF.out (fun h => by
                      have h9 := h.2.2
                      simp only [List.cons.injEq, Prod.mk.injEq] at h9
                      exact hk2 h9.1.1)
                    go_wp2_with fail
                    go_quiet (fail)
                    go_wp2_with fail
                    go_roundw
                    case rel => exact ⟨k - 1, en, rfl, by first | exact congrArg (Value.int .i64) WK.out | go_num, HRNG.out.1, HRNG.out.2, HF, HE9.out, O3.out.go (below_drewN _ _ _), T3.out.go (below_drewN _ _ _), B3.out.trans (below_drewN _ _ _)⟩
                    case measure => have := HRNG.out.1; have := HKA.out; first | (rw [WK.out]; simp [intOf]; omega) | (simp [intOf]; omega)
                · have hpb : ((p2 : Int) == 0) = false := by rw [beq_eq_false_iff_ne]; omega
                  replace HF : Hid (e ≤ k - 1 ∨ en = e) := HF.out (fun h => by
                    have h9 := h.2.2
                    simp only [List.cons.injEq, Prod.mk.injEq] at h9
                    exact hp2 h9.1.2.2)
                  go_wp2_with fail
                  go_quiet (fail)
                  go_wp2_with fail
                  go_roundw
                  case rel => exact ⟨k - 1, en, rfl, by first | exact congrArg (Value.int .i64) WK.out | go_num, HRNG.out.1, HRNG.out.2, HF, HE9.out, O3.out.go (below_drewN _ _ _), T3.out.go (below_drewN _ _ _), B3.out.trans (below_drewN _ _ _)⟩
                  case measure => have := HRNG.out.1; have := HKA.out; first | (rw [WK.out]; simp [intOf]; omega) | (simp [intOf]; omega)
              · obtain ⟨o3, c3, rfl, -⟩ := U3.out
                have hlb : ((U.length : Int) == 1) = false := by rw [beq_eq_false_iff_ne]; omega
                replace HF : Hid (e ≤ k - 1 ∨ en = e) := HF.out (fun h => by rw [h.2.2] at hlen; exact hlen rfl)
                go_wp2_with fail
                go_quiet (fail)
                go_wp2_with fail
                go_roundw
                case rel => exact ⟨k - 1, en, rfl, by first | exact congrArg (Value.int .i64) WK.out | go_num, HRNG.out.1, HRNG.out.2, HF, HE9.out, O3.out.go (below_drewN _ _ _), T3.out.go (below_drewN _ _ _), B3.out.trans (below_drewN _ _ _)⟩
                case measure => have := HRNG.out.1; have := HKA.out; first | (rw [WK.out]; simp [intOf]; omega) | (simp [intOf]; omega)
            · have h0b : (e2 == 0) = false := by rw [beq_eq_false_iff_ne]; exact h0
              replace HF : Hid (e ≤ k - 1 ∨ en = e) := HF.out (fun h => h0 h.1)
              clear h0
              go_wp2_with fail
              refine SCK.out.mono ?_; rintro e9 w3 ⟨v3, rfl, hob, hb3⟩
              have B3 := Lib.hid (bstep HB2.out hb3)
              have O3 := Lib.hid (HO2.out.go hb3)
              have T3 := Lib.hid (HT2.out.go hb3)
              obtain ⟨o3, c3, rfl⟩ := hob.shape
              clear hob hb3 HB2 HO2 HT2 x0 x1 x2
              obtain ⟨x0, x1, x2⟩ := tok_cells T3.out hlt
              rw [← hti] at x0 x1 x2
              simp only [] at x0 x1 x2
              go_wp2_with fail
              go_quiet (fail)
              go_wp2_with fail
              go_roundw
              case rel => exact ⟨k - 1, en, rfl, by first | exact congrArg (Value.int .i64) WK.out | go_num, HRNG.out.1, HRNG.out.2, HF, HE9.out, O3.out.go (below_drewN _ _ _), T3.out.go (below_drewN _ _ _), B3.out.trans (below_drewN _ _ _)⟩
              case measure => have := HRNG.out.1; have := HKA.out; first | (rw [WK.out]; simp [intOf]; omega) | (simp [intOf]; omega)
          · obtain rfl : k = p := by omega
            have hene : en = e := by
              rcases HINV.out with h | h
              · have := HPE.out; omega
              · exact h
            subst hene
            have hep := HPE.out
            have hez : ((en : Int) == 0) = false := by rw [beq_eq_false_iff_ne]; omega
            have hkp2 : ¬ (k : Int) < (k : Int) := by omega
            have W3 : Hid (wrap64 ((i : Int) + 1) = ((i + 1 : Nat) : Int)) := wnat (by have := HLEN.out; omega)
            have HMAP : Hid ((T.take (i + 1)).map (endT X) = (T.take i).map (endT X) ++ [en]) := by
              show _ = _
              rw [List.take_add_one, List.getElem?_eq_getElem hlt, List.map_append, ← hti]
              show (T.take i).map (endT X) ++ [endT X (kk, tt, k)] = _
              rw [← HEE.out]
            have HLT := Lib.hid hlt
            have HLL : Hid (((T.take i).map (endT X)).length ≤ 2000) := by
              have := HLEN.out
              show _ ≤ _
              rw [List.length_map, List.length_take]; omega
            clear hep HINV hkp hpk hkl hen
            have e1 : wr2.heap.size < (wr2.alloc (.cells #[.int .i64 (en : Int)] 3)).heap.size := by simp
            have c9 : (wr2.alloc (.cells #[.int .i64 (en : Int)] 3)).cell? ⟨wr2.heap.size, 0, none⟩ = some (.int .i64 (en : Int)) := by rw [cell_of_row _ _ _ _ _ _ (heap_alloc_new wr2 _)]; rfl
            have C9 := Lib.hid c9
            have HA := Lib.hid (below_alloc wr2 (.cells #[.int .i64 (en : Int)] 3))
            have HO4 := Lib.hid (HO2.out.go HA.out)
            have HT4 := Lib.hid (HT2.out.go HA.out)
            have HB4 := Lib.hid (bstep HB2.out HA.out)
            clear c9 e1 HO2 HA
            go_wp2_with (at_builtin; refine int_app rfl (.tmp 104) (.tmp 106) rfl rfl HO4.out rfl C9.out HLL.out ?_; intro v' w4 hown4 hkeep)
            have HO5 : Hid (OwnI w4 w.heap.size v' ((T.take (i + 1)).map (endT X))) := by
              show OwnI _ _ _ _
              rw [HMAP.out]; exact hown4
            have HB5 := Lib.hid (hkeep w w.heap.size (Nat.le_refl _) HB4.out)
            have HT5 := Lib.hid (HT0.out.go HB5.out)
            clear hown4 hkeep
            go_wp2_with fail
            go_roundw
            case rel => exact ⟨i + 1, by first | exact congrArg (Value.int .i64) W3.out | go_num, HLT.out, HO5, HT5, HB5⟩
            case measure => have := HLT.out; first | (rw [W3.out]; simp [intOf]; omega) | (simp [intOf]; omega)
      · have hi2 : ¬ (i1 : Int) < (T.length : Int) := by omega
        have hlv : last = s.size := by rw [hla]; unfold lastT; rw [List.getElem?_eq_none (by omega)]; exact HXS.out
        subst hlv
        clear hla he hpos TI hi hi1e hlast
        go_wp2_with fail
        clear hw1 hi2
        go_loopw [9, 10] (fun v9 v10 wr2 => ∃ k en : Nat, v9 = .int .i64 (en : Int) ∧ v10 = .int .i64 (k : Int) ∧ p ≤ k ∧ k ≤ s.size ∧ Hid (e ≤ k ∨ en = e) ∧ en ≤ 400 ∧ Hid (OwnI wr2 w.heap.size (.slice o6 i c6) ((T.take i).map (endT X))) ∧ Hid (TokAt wr2 (.slice (some ⟨gT, 0, none⟩) T.length cT) T) ∧ Hid (Below w.heap.size w wr2)) (fun _ v10 _ => (intOf v10).toNat)
        case atStart => exact ⟨s.size, 0, rfl, rfl, HPL.out, Nat.le_refl _, Or.inl HEL.out, Nat.zero_le _, HO, HTn, HBn⟩
        case round =>
          obtain ⟨k, en, rfl, rfl, hpk, hkl, HINV, hen, HO2, HT2, HB2⟩ := hrel
          rename World => wr2
          obtain ⟨x0, x1, x2⟩ := tok_cells HT2.out hlt
          rw [← hti] at x0 x1 x2
          simp only [] at x0 x1 x2
          by_cases hkp : p < k
          · have HKA : Hid (p < k) := hkp
            have HRNG : Hid (p ≤ k - 1 ∧ k - 1 ≤ s.size) := ⟨by omega, by omega⟩
            have hl4 := HL4.out
            have HK9 : Hid (k ≤ 400) := by show _ ≤ _; omega
            have HE9 : Hid (en ≤ 400) := hen
            have WK : Hid (wrap64 ((k : Int) - 1) = ((k - 1 : Nat) : Int)) := by show _ = _; unfold wrap64; omega
            have hkp2 : (p : Int) < (k : Int) := by omega
            have hsl : ∀ w, (Instr.slice 9 (.string s) (some (.int .i64 (p : Int))) (some (.int .i64 (k : Int))) none).run Tryd.prog w = .ok (.string (s.extract p k)) w := fun w => by
              have := HLS.out
              rw [run_slice_string_if w 9 s .i64 .i64 (p : Int) (k : Int) Tryd.underlying9, if_pos (by omega), if_pos (by omega)]; rfl
            have hsl2 : ∀ w, (Instr.slice 9 (.string s) (some (.int .i64 (k : Int))) (some (.int .i64 (s.size : Int))) none).run Tryd.prog w = .ok (.string (s.extract k s.size)) w := fun w => by
              have := HLS.out
              rw [run_slice_string_if w 9 s .i64 .i64 (k : Int) (s.size : Int) Tryd.underlying9, if_pos (by omega), if_pos (by omega)]; rfl
            have hsub : (s.extract p k).size ≤ 400 := by have := HLS.out; have := HS4.out; rw [ByteArray.size_extract]; omega
            have BLK0 := Lib.hid (fun W => blank_any W (s.extract k s.size) (by have := HS4.out; rw [ByteArray.size_extract]; omega))
            have SCK := Lib.hid (SC.out wr2 _ HB2.out hsub)
            have F1 := HF1.out k
            have F2 := HF2.out k (by omega)
            obtain ⟨bb, hbb⟩ : ∃ b, b = blankB (s.extract k s.size) := ⟨_, rfl⟩
            obtain ⟨⟨U, m2, e2⟩, hU⟩ : ∃ x, x = scanT (s.extract p k) := ⟨_, rfl⟩
            have BLK : Hid (∀ W, Calls Tryd.prog 18 #[.string (s.extract k s.size)] W fun e w' => e = .returned (.bool bb) ∧ w' = W) := by rw [hbb]; exact BLK0.out
            rw [← hU] at SCK F1 F2
            rw [← hbb] at F1 F2
            simp only [] at F1 F2
            have HFF1 := Lib.hid F1; have HFF2 := Lib.hid F2
            have HF : Hid (¬ (e2 = 0 ∧ bb = true ∧ U = [(kk, tt, 0)]) → (e ≤ k - 1 ∨ en = e)) := fun h => by
              by_cases h1 : k = e
              · obtain ⟨q1, q2, q3⟩ := HFF1.out h1
                exact absurd ⟨q2, q3, q1⟩ h
              · rcases HINV.out with h2 | h2
                · exact Or.inl (by omega)
                · exact Or.inr h2
            have HT : Hid (e2 = 0 ∧ bb = true → (e ≤ k - 1 ∨ k = e)) := fun h => by
              by_cases h1 : k = e
              · exact Or.inr h1
              · by_cases h2 : k < e
                · exact absurd (HFF2.out h2 h.1 h.2) (fun h => h)
                · exact Or.inl (by omega)
            clear hU hbb F1 F2 HFF1 HFF2 BLK0 HINV hkp hpk hkl hl4 hen hsub
            by_cases h0 : e2 = 0
            · subst h0
              go_wp2_with fail
              refine SCK.out.mono ?_; rintro e9 w3 ⟨v3, rfl, hob, hb3⟩
              have B3 := Lib.hid (bstep HB2.out hb3)
              have O3 := Lib.hid (HO2.out.go hb3)
              have T3 := Lib.hid (HT2.out.go hb3)
              have U3 := Lib.hid hob.tokAt
              clear hob hb3 HB2 HO2 HT2 x0 x1 x2
              obtain ⟨x0, x1, x2⟩ := tok_cells T3.out hlt
              rw [← hti] at x0 x1 x2
              simp only [] at x0 x1 x2
              by_cases hlen : U.length = 1
              · obtain ⟨⟨k2, s2, p2⟩, rfl⟩ : ∃ u, U = [u] := List.length_eq_one_iff.1 hlen
                obtain ⟨g3, c3, rfl, y0, y1, y2⟩ := tok_single U3.out
                by_cases hp2 : p2 = 0
                · subst hp2
                  by_cases hk2 : k2 = kk
                  · subst hk2
                    cases hs2 : (s2.toList == tt.toList)
                    · replace HF : Hid (e ≤ k - 1 ∨ en = e) := HF.out (fun h => by
                        have h9 := h.2.2
                        simp only [List.cons.injEq, Prod.mk.injEq, and_true, true_and] at h9
                        rw [h9] at hs2
                        simp at hs2)
                      go_wp2_with fail
                      go_quiet (fail)
                      go_wp2_with fail
                      go_roundw
                      case rel => exact ⟨k - 1, en, rfl, by first | exact congrArg (Value.int .i64) WK.out | go_num, HRNG.out.1, HRNG.out.2, HF, HE9.out, O3.out.go (below_drewN _ _ _), T3.out.go (below_drewN _ _ _), B3.out.trans (below_drewN _ _ _)⟩
                      case measure => have := HRNG.out.1; have := HKA.out; first | (rw [WK.out]; simp [intOf]; omega) | (simp [intOf]; omega)
                    · cases hbb : bb
                      · subst hbb
                        replace HF : Hid (e ≤ k - 1 ∨ en = e) := HF.out (fun h => by cases h.2.1)
                        go_wp2_with fail
                        go_quiet ((exact Calls.quiet_of_same (BLK.out _)))
                        go_wp2_with fail
                        go_roundw
                        case rel => exact ⟨k - 1, en, rfl, by first | exact congrArg (Value.int .i64) WK.out | go_num, HRNG.out.1, HRNG.out.2, HF, HE9.out, O3.out.go (below_drewN _ _ _), T3.out.go (below_drewN _ _ _), B3.out.trans (below_drewN _ _ _)⟩
                        case measure => have := HRNG.out.1; have := HKA.out; first | (rw [WK.out]; simp [intOf]; omega) | (simp [intOf]; omega)
                      · subst hbb
                        replace HT : Hid (e ≤ k - 1 ∨ k = e) := HT.out ⟨by first | rfl | trivial, by first | rfl | trivial⟩
                        go_wp2_with fail
                        go_quiet ((exact Calls.quiet_of_same (BLK.out _)))
                        go_wp2_with fail
                        go_roundw
                        case rel => exact ⟨k - 1, k, rfl, by first | exact congrArg (Value.int .i64) WK.out | go_num, HRNG.out.1, HRNG.out.2, HT, HK9.out, O3.out.go (below_drewN _ _ _), T3.out.go (below_drewN _ _ _), B3.out.trans (below_drewN _ _ _)⟩
                        case measure => have := HRNG.out.1; have := HKA.out; first | (rw [WK.out]; simp [intOf]; omega) | (simp [intOf]; omega)
                  · have hkb : (k2 == kk) = false := by rw [beq_eq_false_iff_ne]; exact hk2
                    replace HF : Hid (e ≤ k - 1 ∨ en = e) := HF.out (fun h => by
                      have h9 := h.2.2
                      simp only [List.cons.injEq, Prod.mk.injEq] at h9
                      exact hk2 h9.1.1)
                    go_wp2_with fail
                    go_quiet (fail)
                    go_wp2_with fail
                    go_roundw
                    case rel => exact ⟨k - 1, en, rfl, by first | exact congrArg (Value.int .i64) WK.out | go_num, HRNG.out.1, HRNG.out.2, HF, HE9.out, O3.out.go (below_drewN _ _ _), T3.out.go (below_drewN _ _ _), B3.out.trans (below_drewN _ _ _)⟩
                    case measure => have := HRNG.out.1; have := HKA.out; first | (rw [WK.out]; simp [intOf]; omega) | (simp [intOf]; omega)
                · have hpb : ((p2 : Int) == 0) = false := by rw [beq_eq_false_iff_ne]; omega
                  replace HF : Hid (e ≤ k - 1 ∨ en = e) := HF.out (fun h => by
                    have h9 := h.2.2
                    simp only [List.cons.injEq, Prod.mk.injEq] at h9
                    exact hp2 h9.1.2.2)
                  go_wp2_with fail
                  go_quiet (fail)
                  go_wp2_with fail
                  go_roundw
                  case rel => exact ⟨k - 1, en, rfl, by first | exact congrArg (Value.int .i64) WK.out | go_num, HRNG.out.1, HRNG.out.2, HF, HE9.out, O3.out.go (below_drewN _ _ _), T3.out.go (below_drewN _ _ _), B3.out.trans (below_drewN _ _ _)⟩
                  case measure => have := HRNG.out.1; have := HKA.out; first | (rw [WK.out]; simp [intOf]; omega) | (simp [intOf]; omega)
              · obtain ⟨o3, c3, rfl, -⟩ := U3.out
                have hlb : ((U.length : Int) == 1) = false := by rw [beq_eq_false_iff_ne]; omega
                replace HF : Hid (e ≤ k - 1 ∨ en = e) := HF.out (fun h => by rw [h.2.2] at hlen; exact hlen rfl)
                go_wp2_with fail
                go_quiet (fail)
                go_wp2_with fail
                go_roundw
                case rel => exact ⟨k - 1, en, rfl, by first | exact congrArg (Value.int .i64) WK.out | go_num, HRNG.out.1, HRNG.out.2, HF, HE9.out, O3.out.go (below_drewN _ _ _), T3.out.go (below_drewN _ _ _), B3.out.trans (below_drewN _ _ _)⟩
                case measure => have := HRNG.out.1; have := HKA.out; first | (rw [WK.out]; simp [intOf]; omega) | (simp [intOf]; omega)
            · have h0b : (e2 == 0) = false := by rw [beq_eq_false_iff_ne]; exact h0
              replace HF : Hid (e ≤ k - 1 ∨ en = e) := HF.out (fun h => h0 h.1)
              clear h0
              go_wp2_with fail
              refine SCK.out.mono ?_; rintro e9 w3 ⟨v3, rfl, hob, hb3⟩
              have B3 := Lib.hid (bstep HB2.out hb3)
              have O3 := Lib.hid (HO2.out.go hb3)
              have T3 := Lib.hid (HT2.out.go hb3)
              obtain ⟨o3, c3, rfl⟩ := hob.shape
              clear hob hb3 HB2 HO2 HT2 x0 x1 x2
              obtain ⟨x0, x1, x2⟩ := tok_cells T3.out hlt
              rw [← hti] at x0 x1 x2
              simp only [] at x0 x1 x2
              go_wp2_with fail
              go_quiet (fail)
              go_wp2_with fail
              go_roundw
              case rel => exact ⟨k - 1, en, rfl, by first | exact congrArg (Value.int .i64) WK.out | go_num, HRNG.out.1, HRNG.out.2, HF, HE9.out, O3.out.go (below_drewN _ _ _), T3.out.go (below_drewN _ _ _), B3.out.trans (below_drewN _ _ _)⟩
              case measure => have := HRNG.out.1; have := HKA.out; first | (rw [WK.out]; simp [intOf]; omega) | (simp [intOf]; omega)
          · obtain rfl : k = p := by omega
            have hene : en = e := by
              rcases HINV.out with h | h
              · have := HPE.out; omega
              · exact h
            subst hene
            have hep := HPE.out
            have hez : ((en : Int) == 0) = false := by rw [beq_eq_false_iff_ne]; omega
            have hkp2 : ¬ (k : Int) < (k : Int) := by omega
            have W3 : Hid (wrap64 ((i : Int) + 1) = ((i + 1 : Nat) : Int)) := wnat (by have := HLEN.out; omega)
            have HMAP : Hid ((T.take (i + 1)).map (endT X) = (T.take i).map (endT X) ++ [en]) := by
              show _ = _
              rw [List.take_add_one, List.getElem?_eq_getElem hlt, List.map_append, ← hti]
              show (T.take i).map (endT X) ++ [endT X (kk, tt, k)] = _
              rw [← HEE.out]
            have HLT := Lib.hid hlt
            have HLL : Hid (((T.take i).map (endT X)).length ≤ 2000) := by
              have := HLEN.out
              show _ ≤ _
              rw [List.length_map, List.length_take]; omega
            clear hep HINV hkp hpk hkl hen
            have e1 : wr2.heap.size < (wr2.alloc (.cells #[.int .i64 (en : Int)] 3)).heap.size := by simp
            have c9 : (wr2.alloc (.cells #[.int .i64 (en : Int)] 3)).cell? ⟨wr2.heap.size, 0, none⟩ = some (.int .i64 (en : Int)) := by rw [cell_of_row _ _ _ _ _ _ (heap_alloc_new wr2 _)]; rfl
            have C9 := Lib.hid c9
            have HA := Lib.hid (below_alloc wr2 (.cells #[.int .i64 (en : Int)] 3))
            have HO4 := Lib.hid (HO2.out.go HA.out)
            have HT4 := Lib.hid (HT2.out.go HA.out)
            have HB4 := Lib.hid (bstep HB2.out HA.out)
            clear c9 e1 HO2 HA
            go_wp2_with (at_builtin; refine int_app rfl (.tmp 104) (.tmp 106) rfl rfl HO4.out rfl C9.out HLL.out ?_; intro v' w4 hown4 hkeep)
            have HO5 : Hid (OwnI w4 w.heap.size v' ((T.take (i + 1)).map (endT X))) := by
              show OwnI _ _ _ _
              rw [HMAP.out]; exact hown4
            have HB5 := Lib.hid (hkeep w w.heap.size (Nat.le_refl _) HB4.out)
            have HT5 := Lib.hid (HT0.out.go HB5.out)
            clear hown4 hkeep
            go_wp2_with fail
            go_roundw
            case rel => exact ⟨i + 1, by first | exact congrArg (Value.int .i64) W3.out | go_num, HLT.out, HO5, HT5, HB5⟩
            case measure => have := HLT.out; first | (rw [W3.out]; simp [intOf]; omega) | (simp [intOf]; omega)
    · have hin2 : i = T.length := by omega
      subst hin2
      have hii : ¬ ((T.length : Int) < (T.length : Int)) := by omega
      have HO2 : Hid (OwnI wr w.heap.size (.slice o6 T.length c6) (T.map (endT X))) := by
        show OwnI _ _ _ _
        have h9 := HO.out
        rw [List.take_length] at h9
        exact h9
      clear HO hlt hi
      go_wp2_with fail
      refine bodyPost_ret (v := .tuple #[.slice o6 T.length c6, .bool true]) (by simp [results, Tryd.f17, go_sem]) rfl ⟨_, rfl, HO2.out.at, HBn.out⟩
end Go.Proofs.YtegobakoflbnfaaDoor
