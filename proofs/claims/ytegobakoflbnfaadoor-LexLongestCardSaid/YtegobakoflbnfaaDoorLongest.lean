/- LexLongest: the law's walk. -/
import Derived.Test.YtegobakoflbnfaaDoorPlaces
namespace Go.Proofs.YtegobakoflbnfaaDoor
open Go Go.RowKit

set_option maxHeartbeats 6400000 in
set_option maxRecDepth 100000 in
theorem longest_any (w : World) (s : ByteArray) (_hs : s.size ≤ 140737488355328) (hm : MaxL w) (hp : Pow10 w) : Calls Tryd.prog 7 #[.string s] w fun e w' => e = .returned (.bool true) ∧ Below w.heap.size w w' := by
  have AL : Hid (∀ W, Below w.heap.size w W → Calls Tryd.prog 13 #[] W fun e w' => e = .returned (.bool true) ∧ Below W.heap.size W w') := fun W hb => alive_any W (hm.go hb) (hp.go hb)
  clear _hs
  by_cases h4 : 400 < s.size
  · have t1 : decide (400 < (s.size : Int)) = true := decide_eq_true (by omega)
    clear hm hp h4
    go_enter Tryd.func7, Tryd.ntmps7
    go_wp2_with fail
    refine (AL.out _ (Below.refl _ _)).mono ?_; rintro e w1 ⟨rfl, hb⟩
    have HB := Lib.hid hb; clear hb
    go_wp2_with fail
    go_ret
    exact ⟨rfl, HB.out⟩
  · have t1 : decide (400 < (s.size : Int)) = false := decide_eq_false (by omega)
    have h4' : s.size ≤ 400 := by omega
    have S1 := Lib.hid (scan_any w s (by omega) hm hp)
    have HS4 := Lib.hid h4'
    have hsc := scan_eq s (by omega)
    have hlen := sc_len _ 0 s.data.toList (Nat.le_refl _)
    have hch := sc_chain s.data.toList _ 0 s.data.toList (Nat.le_refl _) rfl (Nat.zero_le _)
    have hsz : s.data.toList.length = s.size := Array.length_toList
    rw [← hsc] at hlen hch
    have SC : Hid (∀ W x, Below w.heap.size w W → x.size ≤ 400 → Calls Tryd.prog 15 #[.string x] W (RetScan W (scanT x))) := fun W x hb hx => scan_any W x (by omega) (hm.go hb) (hp.go hb)
    have EN : Hid (∀ W v T, Below w.heap.size w W → TokAt W v T → T.length ≤ 400 → (∀ i (hi : i < T.length), TokIn s.data.toList T i T[i]) → Calls Tryd.prog 17 #[.string s, v] W fun e w' => ∃ v', e = .returned (.tuple #[v', .bool true]) ∧ IntsAt w' v' (T.map (endT s.data.toList)) ∧ Below W.heap.size W w') := fun W v T hb h1 h2 h3 => ends_any W s v T h1 h4' h2 h3 (hm.go hb) (hp.go hb)
    obtain ⟨⟨T, m, e⟩, hT⟩ : ∃ x, x = scanT s := ⟨_, rfl⟩
    rw [← hT] at S1 hlen hch
    simp only [] at hlen hch
    clear hm hp hT h4 hsc h4'
    by_cases he : e = 0
    · subst he
      have HCH := Lib.hid (hch rfl)
      have HLN : Hid (T.length ≤ 400) := by show _ ≤ _; have := HS4.out; omega
      have HSZ := Lib.hid hsz
      clear hch hlen hsz
      go_enter Tryd.func7, Tryd.ntmps7
      go_wp2_with fail
      refine S1.out.mono ?_; rintro e w1 ⟨vT, rfl, hoa, hb1⟩
      have B1 := Lib.hid hb1; have OT := Lib.hid hoa.tokAt; clear hoa hb1 S1
      have ENT := Lib.hid (EN.out w1 vT T B1.out OT.out HLN.out (chain_at HCH.out))
      obtain ⟨oT, cT, rfl, -⟩ := OT.out
      go_wp2_with fail
      refine ENT.out.mono ?_; rintro e w2 ⟨v2, rfl, hi2, hb2⟩
      have B2 := Lib.hid (bstep B1.out hb2); have OT2 := Lib.hid (OT.out.go hb2); have I2 := Lib.hid hi2; clear hi2 hb2 ENT OT B1 EN
      obtain ⟨oE, cE, rfl, -⟩ := I2.out
      go_wp2_with fail
      go_loopw [8] (fun v8 wr => ∃ i : Nat, v8 = .int .i64 (i : Int) ∧ i ≤ T.length ∧ Hid (TokAt wr (.slice oT T.length cT) T) ∧ Hid (IntsAt wr (.slice oE (T.map (endT s.data.toList)).length cE) (T.map (endT s.data.toList))) ∧ Hid (Below w.heap.size w wr)) (fun v8 _ => T.length - (intOf v8).toNat)
      case atStart => exact ⟨0, rfl, Nat.zero_le _, OT2, I2, B2⟩
      case round =>
        obtain ⟨i, rfl, hi, OTn, In, Bn⟩ := hrel
        clear OT2 I2 B2
        rename World => wk
        by_cases hlt : i < T.length
        · obtain ⟨gT, rfl⟩ : ∃ g, oT = some ⟨g, 0, none⟩ := by
            obtain ⟨o', c', e', h'⟩ := OTn.out
            injection e' with e1 e2 e3
            subst e1
            obtain ⟨g, rfl, h2⟩ := h' (by omega)
            exact ⟨g, rfl⟩
          have hlm : i < (T.map (endT s.data.toList)).length := by rw [List.length_map]; exact hlt
          obtain ⟨gE, rfl⟩ : ∃ g, oE = some ⟨g, 0, none⟩ := by
            obtain ⟨o', c', e', h'⟩ := In.out
            injection e' with e1 e2 e3
            subst e1
            obtain ⟨g, rfl, h2⟩ := h' i hlm
            exact ⟨g, rfl⟩
          have y0 := ints_cell In.out hlm
          have TI := chain_at HCH.out i hlt
          obtain ⟨t, hti⟩ : ∃ t, t = T[i] := ⟨_, rfl⟩
          have hE : ((T.map (endT s.data.toList))[i] : Nat) = endT s.data.toList t := by
            rw [List.getElem_map, hti]
          rw [hE] at y0
          rw [← hti] at TI
          obtain ⟨e, hee⟩ : ∃ e, e = endT s.data.toList t := ⟨_, rfl⟩
          rw [← hee] at y0 hE
          obtain ⟨kk, tt, p⟩ := t
          have HPE : Hid (p < e) := by
            have := TI.pos
            show _ < _; rw [hee]; unfold endT; show p < p + _; omega
          have HES : Hid (e ≤ s.size) := by
            have h1 := TI.le
            have h2 := TI.last
            show _ ≤ _; rw [hee, ← HSZ.out]; exact Nat.le_trans h1 h2
          have HFL : Hid (∀ k, e ≤ k → k ≤ s.size → (scanT (s.extract p k)).2.2 = 0 → (scanT (s.extract p k)).1.length = 1 → blankB (s.extract e k) = true) := fun k h1 h2 h3 h4 => by
            rw [scan_eq _ (by have := HS4.out; rw [ByteArray.size_extract]; omega), toList_extract] at h3 h4
            refine blank_cut h1 h2 ?_
            have hee2 : e = p + lenT s.data.toList (kk, tt, p) := hee
            have h5 := scan_long TI (k := k) (by rw [← hee2]; exact h1) (by rw [HSZ.out]; exact h2) h3 h4
            rw [hee2]; exact h5
          have HMT := Lib.hid hE
          have HTI := Lib.hid hti
          have W3 := Lib.hid (wnat (n := i) (by have := HLN.out; omega))
          have We : Hid (wrap64 ((e : Int) + 1) = ((e + 1 : Nat) : Int)) := wnat (by have := HES.out; have := HS4.out; omega)
          have HLT := Lib.hid hlt
          have HLM := Lib.hid hlm
          have hii : (i : Int) < (T.length : Int) := by omega
          have hi3 : (i : Int) < ((T.map (endT s.data.toList)).length : Int) := by rw [List.length_map]; exact hii
          clear hE hee TI hi hti
          go_wp2_with fail
          go_loopw [9] (fun v9 wr2 => ∃ k : Nat, v9 = .int .i64 (k : Int) ∧ e < k ∧ k ≤ s.size + 1 ∧ Hid (TokAt wr2 (.slice (some ⟨gT, 0, none⟩) T.length cT) T) ∧ Hid (IntsAt wr2 (.slice (some ⟨gE, 0, none⟩) (T.map (endT s.data.toList)).length cE) (T.map (endT s.data.toList))) ∧ Hid (Below w.heap.size w wr2)) (fun v9 _ => s.size + 1 - (intOf v9).toNat)
          case atStart => exact ⟨e + 1, congrArg (Value.int .i64) We.out, Nat.lt_succ_self _, by have := HES.out; omega, OTn, In, Bn⟩
          case round =>
            obtain ⟨k, rfl, hek, hks, O2, I2, Bk⟩ := hrel
            clear OTn In Bn y0
            rename World => wz
            obtain ⟨-, -, x2⟩ := tok_cells O2.out HLT.out
            rw [← HTI.out] at x2
            simp only [] at x2
            have y0 := ints_cell I2.out HLM.out
            rw [HMT.out] at y0
            have W20 : Hid (wrap64 ((e : Int) + 20) = ((e + 20 : Nat) : Int)) := by show _ = _; have := HES.out; have := HS4.out; unfold wrap64; omega
            by_cases h1 : k ≤ s.size
            · have h1i : (k : Int) ≤ (s.size : Int) := by omega
              by_cases h2 : k ≤ e + 20
              · have h2i : (k : Int) ≤ wrap64 ((e : Int) + 20) := by rw [W20.out]; omega
                have hsl : ∀ w, (Instr.slice 9 (.string s) (some (.int .i64 (p : Int))) (some (.int .i64 (k : Int))) none).run Tryd.prog w = .ok (.string (s.extract p k)) w := fun w => by
                  have := HPE.out
                  rw [run_slice_string_if w 9 s .i64 .i64 (p : Int) (k : Int) Tryd.underlying9, if_pos (by omega), if_pos (by omega)]; rfl
                have hsl2 : ∀ w, (Instr.slice 9 (.string s) (some (.int .i64 (e : Int))) (some (.int .i64 (k : Int))) none).run Tryd.prog w = .ok (.string (s.extract e k)) w := fun w => by
                  rw [run_slice_string_if w 9 s .i64 .i64 (e : Int) (k : Int) Tryd.underlying9, if_pos (by omega), if_pos (by omega)]; rfl
                have SCK := Lib.hid (SC.out wz (s.extract p k) Bk.out (by have := HS4.out; rw [ByteArray.size_extract]; omega))
                have FL := HFL.out k (by omega) h1
                obtain ⟨⟨U, m2, e2⟩, hU⟩ : ∃ x, x = scanT (s.extract p k) := ⟨_, rfl⟩
                rw [← hU] at SCK FL
                simp only [] at FL
                have BLK0 := Lib.hid (fun W => blank_any W (s.extract e k) (by have := HS4.out; rw [ByteArray.size_extract]; omega))
                have Wk := Lib.hid (wnat (n := k) (by have := HS4.out; omega))
                have HK1 : Hid (e < k + 1) := by show _ < _; omega
                have HK2 : Hid (k + 1 ≤ s.size + 1) := by show _ ≤ _; omega
                clear hU hek hks h2
                by_cases h0 : e2 = 0
                · subst h0
                  by_cases hlen : U.length = 1
                  · have BLK : Hid (∀ W, Calls Tryd.prog 18 #[.string (s.extract e k)] W fun e w' => e = .returned (.bool true) ∧ w' = W) := fun W => by
                      have := BLK0.out W
                      rw [FL rfl hlen] at this
                      exact this
                    have hlb : ((U.length : Int) == 1) = true := by rw [hlen]; rfl
                    clear FL BLK0
                    go_wp2_with fail
                    refine SCK.out.mono ?_; rintro e9 w3 ⟨v3, rfl, hob, hb3⟩
                    have B3 := Lib.hid (bstep Bk.out hb3)
                    have O3 := Lib.hid (O2.out.go hb3)
                    have I3 := Lib.hid (I2.out.go hb3)
                    obtain ⟨o3, c3, rfl⟩ := hob.shape
                    clear hob hb3 Bk O2 I2 y0 x2 hlen
                    have y0 := ints_cell I3.out HLM.out
                    rw [HMT.out] at y0
                    go_wp2_with fail
                    refine (BLK.out _).mono ?_; rintro e9 w4 ⟨rfl, rfl⟩
                    go_wp2_with fail
                    go_roundw
                    case rel => exact ⟨k + 1, by first | exact congrArg (Value.int .i64) Wk.out | go_num, HK1.out, HK2.out, O3, I3, B3⟩
                    case measure => have := HK2.out; first | (rw [Wk.out]; simp [intOf]; omega) | (simp [intOf]; omega)
                  · have hlb : ((U.length : Int) == 1) = false := by rw [beq_eq_false_iff_ne]; omega
                    clear FL BLK0
                    go_wp2_with fail
                    refine SCK.out.mono ?_; rintro e9 w3 ⟨v3, rfl, hob, hb3⟩
                    have B3 := Lib.hid (bstep Bk.out hb3)
                    have O3 := Lib.hid (O2.out.go hb3)
                    have I3 := Lib.hid (I2.out.go hb3)
                    obtain ⟨o3, c3, rfl⟩ := hob.shape
                    clear hob hb3 Bk O2 I2 y0 x2 hlen
                    go_wp2_with fail
                    go_roundw
                    case rel => exact ⟨k + 1, by first | exact congrArg (Value.int .i64) Wk.out | go_num, HK1.out, HK2.out, O3, I3, B3⟩
                    case measure => have := HK2.out; first | (rw [Wk.out]; simp [intOf]; omega) | (simp [intOf]; omega)
                · have h0b : (e2 == 0) = false := by rw [beq_eq_false_iff_ne]; exact h0
                  clear FL BLK0 h0
                  go_wp2_with fail
                  refine SCK.out.mono ?_; rintro e9 w3 ⟨v3, rfl, hob, hb3⟩
                  have B3 := Lib.hid (bstep Bk.out hb3)
                  have O3 := Lib.hid (O2.out.go hb3)
                  have I3 := Lib.hid (I2.out.go hb3)
                  obtain ⟨o3, c3, rfl⟩ := hob.shape
                  clear hob hb3 Bk O2 I2 y0 x2
                  go_wp2_with fail
                  go_roundw
                  case rel => exact ⟨k + 1, by first | exact congrArg (Value.int .i64) Wk.out | go_num, HK1.out, HK2.out, O3, I3, B3⟩
                  case measure => have := HK2.out; first | (rw [Wk.out]; simp [intOf]; omega) | (simp [intOf]; omega)
              · have h2i : ¬ (k : Int) ≤ wrap64 ((e : Int) + 20) := by rw [W20.out]; omega
                clear hek hks h2
                go_wp2_with fail
                go_roundw
                case rel => exact ⟨i + 1, by first | exact congrArg (Value.int .i64) W3.out | go_num, HLT.out, O2, I2, Bk⟩
                case measure => have := HLT.out; first | (rw [W3.out]; simp [intOf]; omega) | (simp [intOf]; omega)
            · have h1i : ¬ (k : Int) ≤ (s.size : Int) := by omega
              clear hek hks h1
              go_wp2_with fail
              go_roundw
              case rel => exact ⟨i + 1, by first | exact congrArg (Value.int .i64) W3.out | go_num, HLT.out, O2, I2, Bk⟩
              case measure => have := HLT.out; first | (rw [W3.out]; simp [intOf]; omega) | (simp [intOf]; omega)
        · have hin : i = T.length := by omega
          subst hin
          have hii : ¬ (T.length : Int) < (T.length : Int) := by omega
          clear hlt hi
          go_wp2_with fail
          refine (AL.out _ Bn.out).mono ?_; rintro e w4 ⟨rfl, hb⟩
          have HB := Lib.hid (bstep Bn.out hb); clear hb
          go_wp2_with fail
          go_ret
          exact ⟨rfl, HB.out⟩
    · have e0 : (e != 0) = true := by rw [bne_iff_ne]; exact he
      clear hch hlen he
      go_enter Tryd.func7, Tryd.ntmps7
      go_wp2_with fail
      refine S1.out.mono ?_; rintro e w1 ⟨vT, rfl, hoa, hb1⟩
      have B1 := Lib.hid hb1; clear hoa hb1
      go_wp2_with fail
      refine (AL.out _ B1.out).mono ?_; rintro e w1 ⟨rfl, hb⟩
      have HB := Lib.hid (bstep B1.out hb); clear hb
      go_wp2_with fail
      go_ret
      exact ⟨rfl, HB.out⟩
end Go.Proofs.YtegobakoflbnfaaDoor
