/- LexSpaces: the law's walk. -/
import Derived.Test.YtegobakoflbnfaaDoorSp
namespace Go.Proofs.YtegobakoflbnfaaDoor
open Go Go.RowKit

/-- a slice of bytes in memory -/
def U8s (w : World) (v : Value) (zs : List Int) : Prop :=
  ∃ o cap, v = .slice o zs.length cap ∧ (∀ i, i < zs.length → ∃ b off, o = some ⟨b, off, none⟩ ∧ w.cell? ⟨b, off + i, none⟩ = some (.int .u8 (zs.getD i 0)) ∧ 0 ≤ zs.getD i 0 ∧ zs.getD i 0 < 256)
theorem U8s.go {w w' : World} {v : Value} {zs : List Int} (h : U8s w v zs) (hb : Below w.heap.size w w') : U8s w' v zs := by
  obtain ⟨o, cap, rfl, h⟩ := h
  refine ⟨o, cap, rfl, fun i hi => ?_⟩
  obtain ⟨b, off, rfl, hc, hz⟩ := h i hi
  exact ⟨b, off, rfl, (hb.cell (World.block_lt_of_cell? w _ hc)).trans hc, hz⟩

set_option maxHeartbeats 6400000 in
set_option maxRecDepth 100000 in
theorem spaces_any (w : World) (s : ByteArray) (v : Value) (zs : List Int) (hz : U8s w v zs) (hm : MaxL w) (hp : Pow10 w) : Calls Tryd.prog 8 #[.string s, v] w fun e w' => e = .returned (.bool true) ∧ Below w.heap.size w w' := by
  have AL : Hid (∀ W, Below w.heap.size w W → Calls Tryd.prog 13 #[] W fun e w' => e = .returned (.bool true) ∧ Below W.heap.size W w') := fun W hb => alive_any W (hm.go hb) (hp.go hb)
  by_cases h4 : 400 < s.size
  · have t1 : decide (400 < (s.size : Int)) = true := decide_eq_true (by omega)
    clear hm hp h4 hz
    go_enter Tryd.func8, Tryd.ntmps8
    go_wp2_with fail
    refine (AL.out _ (Below.refl _ _)).mono ?_; rintro e w1 ⟨rfl, hb⟩
    have HB := Lib.hid hb; clear hb
    go_wp2_with fail
    go_ret
    exact ⟨rfl, HB.out⟩
  · have t1 : decide (400 < (s.size : Int)) = false := decide_eq_false (by omega)
    have SC : Hid (∀ W x, Below w.heap.size w W → x.size ≤ 8000 → Calls Tryd.prog 15 #[.string x] W (RetScan W (scanT x))) := fun W x hb hx => scan_any W x (by omega) (hm.go hb) (hp.go hb)
    have S1 := Lib.hid (SC.out w s (Below.refl _ _) (by omega))
    have HS4 : Hid (s.size ≤ 400) := by show _ ≤ _; omega
    have F := spaces_facts s zs (by omega)
    obtain ⟨⟨T, m, e⟩, hT⟩ : ∃ x, x = scanT s := ⟨_, rfl⟩
    rw [← hT] at S1 F
    simp only [] at F
    have HZ := Lib.hid hz
    clear hm hp hz hT h4
    by_cases he : e = 0
    · subst he
      obtain ⟨F1, F2, F3, F4⟩ := F rfl
      clear F
      obtain ⟨TOT, hTOT⟩ : ∃ x, x = insT s.data.toList (pcL zs) T 0 0 := ⟨_, rfl⟩
      rw [← hTOT] at F3 F4
      have HTOT := Lib.hid hTOT
      clear hTOT
      have HF1 := Lib.hid F1; have HF2 := Lib.hid F2; have HF3 := Lib.hid F3; have HF4 := Lib.hid F4
      clear F1 F2 F3 F4
      obtain ⟨om, cm, rfl, -⟩ := HZ.out
      go_enter Tryd.func8, Tryd.ntmps8
      go_wp2_with fail
      refine S1.out.mono ?_; rintro e w1 ⟨vT, rfl, hoa, hb1⟩
      have B1 := Lib.hid hb1; have OT := Lib.hid hoa.tokAt; have Z1 := Lib.hid (HZ.out.go hb1); clear hoa hb1 HZ S1
      obtain ⟨oT, cT, rfl, -⟩ := OT.out
      go_wp2_with fail
      go_loopw [8, 9, 10] (fun v8 v9 v10 wr => ∃ (i last : Nat) (u : ByteArray), v8 = .string u ∧ v9 = .int .i64 (last : Int) ∧ v10 = .int .i64 (i : Int) ∧ i ≤ T.length ∧ Hid (u.data.toList ++ insT s.data.toList (pcL zs) (T.drop i) last i = TOT) ∧ Hid (Asc s.size last (T.drop i)) ∧ Hid (TokAt wr (.slice oT T.length cT) T) ∧ Hid (U8s wr (.slice om zs.length cm) zs) ∧ Hid (Below w.heap.size w wr)) (fun _ _ v10 _ => T.length - (intOf v10).toNat)
      case atStart => exact ⟨0, 0, ⟨#[]⟩, rfl, rfl, rfl, Nat.zero_le _, HTOT.out.symm, HF1, OT, Z1, B1⟩
      case round =>
        clear OT Z1 B1
        obtain ⟨i, last, u, rfl, rfl, rfl, hi, HU, HA, OTn, Zn, Bn⟩ := hrel
        by_cases hlt : i < T.length
        · obtain ⟨gT, rfl, hc⟩ : ∃ g, oT = some ⟨g, 0, none⟩ ∧ ∀ j (hj : j < T.length), wr.cell? ⟨g, j * 3 + 2, none⟩ = some (.int .i64 (T[j].2.2 : Int)) := by
            obtain ⟨o', c', e', h'⟩ := OTn.out
            injection e' with e1 e2 e3
            subst e1
            obtain ⟨g, rfl, h2⟩ := h' (by omega)
            exact ⟨g, rfl, fun j hj => (h2 j hj).2.2⟩
          have x2 := hc i hlt
          have hA := HA.out
          have hU := HU.out
          rw [List.drop_eq_getElem_cons hlt] at hA hU
          obtain ⟨p, hpe⟩ : ∃ p, p = T[i].2.2 := ⟨_, rfl⟩
          rw [← hpe] at x2
          have hA1 : last ≤ p := by rw [hpe]; exact hA.1
          have hA2 : Asc s.size p (T.drop (i + 1)) := by rw [hpe]; exact hA.2
          have hps := hA2.le
          have hU2 : u.data.toList ++ ((s.data.toList.take p).drop last ++ pcL zs i ++ insT s.data.toList (pcL zs) (T.drop (i + 1)) p (i + 1)) = TOT := by rw [hpe]; exact hU
          have hul : u.size ≤ 5601 := by
            have h1 := congrArg List.length hU2
            have h2 : u.data.toList.length = u.size := Array.length_toList
            have h3 := HF3.out
            rw [List.length_append] at h1
            omega
          have hxs : (s.extract last p).size ≤ 400 := by
            have := HS4.out
            rw [ByteArray.size_extract]; omega
          have hsl : ∀ w, (Instr.slice 9 (.string s) (some (.int .i64 (last : Int))) (some (.int .i64 (p : Int))) none).run Tryd.prog w = .ok (.string (s.extract last p)) w := fun w => by
            rw [run_slice_string_if w 9 s .i64 .i64 (last : Int) (p : Int) Tryd.underlying9, if_pos (by omega), if_pos (by omega)]; rfl
          have c1 : ¬ (u.size + (s.extract last p).size > 9223372036854775807) := by omega
          have W3 := Lib.hid (wnat (n := i) (by have := HF2.out; omega))
          have HU3 : Hid ((u ++ s.extract last p).data.toList ++ (pcL zs i ++ insT s.data.toList (pcL zs) (T.drop (i + 1)) p (i + 1)) = TOT) := by
            show _ = _
            rw [← hU2, ByteArray.data_append, Array.toList_append, toList_extract]
            simp only [List.append_assoc]
          have HA3 := Lib.hid hA2
          have HLT := Lib.hid hlt
          have hii : (i : Int) < (T.length : Int) := by omega
          clear hc hA hU hpe hA1 hA2 hps hU2 HA HU
          by_cases hz2 : i < zs.length
          · have hzz : (i : Int) < (zs.length : Int) := by omega
            obtain ⟨bm, of, rfl, hcm, hz0, hz1⟩ : ∃ b off, om = some ⟨b, off, none⟩ ∧ wr.cell? ⟨b, off + i, none⟩ = some (.int .u8 (zs.getD i 0)) ∧ 0 ≤ zs.getD i 0 ∧ zs.getD i 0 < 256 := by
              obtain ⟨o', c', e', h'⟩ := Zn.out
              injection e' with e1 e2 e3
              subst e1
              exact h' i hz2
            obtain ⟨zn, hzn⟩ : ∃ n : Nat, zs.getD i 0 = (n : Int) := ⟨(zs.getD i 0).toNat, by omega⟩
            have hpcl : pcL zs i = pc4 (zn % 4) := by unfold pcL; rw [if_pos hz2, hzn]; rfl
            rw [hzn] at hcm
            have hr5 : zn % 4 < 4 := Nat.mod_lt _ (by decide)
            clear hz2 hlt
            rcases (show zn % 4 = 0 ∨ zn % 4 = 1 ∨ zn % 4 = 2 ∨ zn % 4 = 3 by omega) with hr4 | hr4 | hr4 | hr4
            · have hr : Int.tmod (zn : Int) 4 = 0 := by
                have h9 : Int.tmod (zn : Int) 4 = ((zn % 4 : Nat) : Int) := rfl
                rw [h9, hr4]; rfl
              have hpc : pcL zs i = pc4 0 := by rw [hpcl, hr4]
              have c2 : ¬ ((u ++ s.extract last p).size + (⟨(pc4 0).toArray⟩ : ByteArray).size > 9223372036854775807) := by
                have h8 : (⟨(pc4 0).toArray⟩ : ByteArray).size = (pc4 0).length := rfl
                have h9 := (pc4_piece 0).2
                rw [ByteArray.size_append]
                omega
              have HU4 : Hid (((u ++ s.extract last p) ++ (⟨(pc4 0).toArray⟩ : ByteArray)).data.toList ++ insT s.data.toList (pcL zs) (T.drop (i + 1)) p (i + 1) = TOT) := by
                show _ = _
                rw [← HU3.out, hpc, ByteArray.data_append, Array.toList_append, List.append_assoc]
              have A1 := Lib.hid (below_alloc wr (.cells #[.string ⟨#[]⟩, .string ⟨#[32]⟩, .string ⟨#[10, 9]⟩, .string ⟨#[32, 47, 47, 32, 109, 111, 100, 101, 108, 32, 61, 32, 10]⟩] 9))
              have x22 : (wr.alloc (.cells #[.string ⟨#[]⟩, .string ⟨#[32]⟩, .string ⟨#[10, 9]⟩, .string ⟨#[32, 47, 47, 32, 109, 111, 100, 101, 108, 32, 61, 32, 10]⟩] 9)).cell? ⟨gT, i * 3 + 2, none⟩ = some (.int .i64 (p : Int)) := (A1.out.cell (World.block_lt_of_cell? wr _ x2)).trans x2
              have hcm2 : (wr.alloc (.cells #[.string ⟨#[]⟩, .string ⟨#[32]⟩, .string ⟨#[10, 9]⟩, .string ⟨#[32, 47, 47, 32, 109, 111, 100, 101, 108, 32, 61, 32, 10]⟩] 9)).cell? ⟨bm, of + i, none⟩ = some (.int .u8 (zn : Int)) := (A1.out.cell (World.block_lt_of_cell? wr _ hcm)).trans hcm
              have E4 : Hid ((⟨(pc4 0).toArray⟩ : ByteArray) = ⟨#[]⟩) := rfl
              rw [E4.out] at c2
              clear hpc hpcl hxs hul hr4 HU3 hzn hz0 hz1
              go_wp2_with fail
              go_roundw
              case rel => exact ⟨i + 1, p, _, rfl, rfl, by first | exact congrArg (Value.int .i64) W3.out | go_num, HLT.out, by rw [← E4.out]; exact HU4, HA3, OTn.out.go A1.out, Zn.out.go A1.out, bstep Bn.out A1.out⟩
              case measure => have := HLT.out; first | (rw [W3.out]; simp [intOf]; omega) | (simp [intOf]; omega)
            · have hr : Int.tmod (zn : Int) 4 = 1 := by
                have h9 : Int.tmod (zn : Int) 4 = ((zn % 4 : Nat) : Int) := rfl
                rw [h9, hr4]; rfl
              have hpc : pcL zs i = pc4 1 := by rw [hpcl, hr4]
              have c2 : ¬ ((u ++ s.extract last p).size + (⟨(pc4 1).toArray⟩ : ByteArray).size > 9223372036854775807) := by
                have h8 : (⟨(pc4 1).toArray⟩ : ByteArray).size = (pc4 1).length := rfl
                have h9 := (pc4_piece 1).2
                rw [ByteArray.size_append]
                omega
              have HU4 : Hid (((u ++ s.extract last p) ++ (⟨(pc4 1).toArray⟩ : ByteArray)).data.toList ++ insT s.data.toList (pcL zs) (T.drop (i + 1)) p (i + 1) = TOT) := by
                show _ = _
                rw [← HU3.out, hpc, ByteArray.data_append, Array.toList_append, List.append_assoc]
              have A1 := Lib.hid (below_alloc wr (.cells #[.string ⟨#[]⟩, .string ⟨#[32]⟩, .string ⟨#[10, 9]⟩, .string ⟨#[32, 47, 47, 32, 109, 111, 100, 101, 108, 32, 61, 32, 10]⟩] 9))
              have x22 : (wr.alloc (.cells #[.string ⟨#[]⟩, .string ⟨#[32]⟩, .string ⟨#[10, 9]⟩, .string ⟨#[32, 47, 47, 32, 109, 111, 100, 101, 108, 32, 61, 32, 10]⟩] 9)).cell? ⟨gT, i * 3 + 2, none⟩ = some (.int .i64 (p : Int)) := (A1.out.cell (World.block_lt_of_cell? wr _ x2)).trans x2
              have hcm2 : (wr.alloc (.cells #[.string ⟨#[]⟩, .string ⟨#[32]⟩, .string ⟨#[10, 9]⟩, .string ⟨#[32, 47, 47, 32, 109, 111, 100, 101, 108, 32, 61, 32, 10]⟩] 9)).cell? ⟨bm, of + i, none⟩ = some (.int .u8 (zn : Int)) := (A1.out.cell (World.block_lt_of_cell? wr _ hcm)).trans hcm
              have E4 : Hid ((⟨(pc4 1).toArray⟩ : ByteArray) = ⟨#[32]⟩) := rfl
              rw [E4.out] at c2
              clear hpc hpcl hxs hul hr4 HU3 hzn hz0 hz1
              go_wp2_with fail
              go_roundw
              case rel => exact ⟨i + 1, p, _, rfl, rfl, by first | exact congrArg (Value.int .i64) W3.out | go_num, HLT.out, by rw [← E4.out]; exact HU4, HA3, OTn.out.go A1.out, Zn.out.go A1.out, bstep Bn.out A1.out⟩
              case measure => have := HLT.out; first | (rw [W3.out]; simp [intOf]; omega) | (simp [intOf]; omega)
            · have hr : Int.tmod (zn : Int) 4 = 2 := by
                have h9 : Int.tmod (zn : Int) 4 = ((zn % 4 : Nat) : Int) := rfl
                rw [h9, hr4]; rfl
              have hpc : pcL zs i = pc4 2 := by rw [hpcl, hr4]
              have c2 : ¬ ((u ++ s.extract last p).size + (⟨(pc4 2).toArray⟩ : ByteArray).size > 9223372036854775807) := by
                have h8 : (⟨(pc4 2).toArray⟩ : ByteArray).size = (pc4 2).length := rfl
                have h9 := (pc4_piece 2).2
                rw [ByteArray.size_append]
                omega
              have HU4 : Hid (((u ++ s.extract last p) ++ (⟨(pc4 2).toArray⟩ : ByteArray)).data.toList ++ insT s.data.toList (pcL zs) (T.drop (i + 1)) p (i + 1) = TOT) := by
                show _ = _
                rw [← HU3.out, hpc, ByteArray.data_append, Array.toList_append, List.append_assoc]
              have A1 := Lib.hid (below_alloc wr (.cells #[.string ⟨#[]⟩, .string ⟨#[32]⟩, .string ⟨#[10, 9]⟩, .string ⟨#[32, 47, 47, 32, 109, 111, 100, 101, 108, 32, 61, 32, 10]⟩] 9))
              have x22 : (wr.alloc (.cells #[.string ⟨#[]⟩, .string ⟨#[32]⟩, .string ⟨#[10, 9]⟩, .string ⟨#[32, 47, 47, 32, 109, 111, 100, 101, 108, 32, 61, 32, 10]⟩] 9)).cell? ⟨gT, i * 3 + 2, none⟩ = some (.int .i64 (p : Int)) := (A1.out.cell (World.block_lt_of_cell? wr _ x2)).trans x2
              have hcm2 : (wr.alloc (.cells #[.string ⟨#[]⟩, .string ⟨#[32]⟩, .string ⟨#[10, 9]⟩, .string ⟨#[32, 47, 47, 32, 109, 111, 100, 101, 108, 32, 61, 32, 10]⟩] 9)).cell? ⟨bm, of + i, none⟩ = some (.int .u8 (zn : Int)) := (A1.out.cell (World.block_lt_of_cell? wr _ hcm)).trans hcm
              have E4 : Hid ((⟨(pc4 2).toArray⟩ : ByteArray) = ⟨#[10, 9]⟩) := rfl
              rw [E4.out] at c2
              clear hpc hpcl hxs hul hr4 HU3 hzn hz0 hz1
              go_wp2_with fail
              go_roundw
              case rel => exact ⟨i + 1, p, _, rfl, rfl, by first | exact congrArg (Value.int .i64) W3.out | go_num, HLT.out, by rw [← E4.out]; exact HU4, HA3, OTn.out.go A1.out, Zn.out.go A1.out, bstep Bn.out A1.out⟩
              case measure => have := HLT.out; first | (rw [W3.out]; simp [intOf]; omega) | (simp [intOf]; omega)
            · have hr : Int.tmod (zn : Int) 4 = 3 := by
                have h9 : Int.tmod (zn : Int) 4 = ((zn % 4 : Nat) : Int) := rfl
                rw [h9, hr4]; rfl
              have hpc : pcL zs i = pc4 3 := by rw [hpcl, hr4]
              have c2 : ¬ ((u ++ s.extract last p).size + (⟨(pc4 3).toArray⟩ : ByteArray).size > 9223372036854775807) := by
                have h8 : (⟨(pc4 3).toArray⟩ : ByteArray).size = (pc4 3).length := rfl
                have h9 := (pc4_piece 3).2
                rw [ByteArray.size_append]
                omega
              have HU4 : Hid (((u ++ s.extract last p) ++ (⟨(pc4 3).toArray⟩ : ByteArray)).data.toList ++ insT s.data.toList (pcL zs) (T.drop (i + 1)) p (i + 1) = TOT) := by
                show _ = _
                rw [← HU3.out, hpc, ByteArray.data_append, Array.toList_append, List.append_assoc]
              have A1 := Lib.hid (below_alloc wr (.cells #[.string ⟨#[]⟩, .string ⟨#[32]⟩, .string ⟨#[10, 9]⟩, .string ⟨#[32, 47, 47, 32, 109, 111, 100, 101, 108, 32, 61, 32, 10]⟩] 9))
              have x22 : (wr.alloc (.cells #[.string ⟨#[]⟩, .string ⟨#[32]⟩, .string ⟨#[10, 9]⟩, .string ⟨#[32, 47, 47, 32, 109, 111, 100, 101, 108, 32, 61, 32, 10]⟩] 9)).cell? ⟨gT, i * 3 + 2, none⟩ = some (.int .i64 (p : Int)) := (A1.out.cell (World.block_lt_of_cell? wr _ x2)).trans x2
              have hcm2 : (wr.alloc (.cells #[.string ⟨#[]⟩, .string ⟨#[32]⟩, .string ⟨#[10, 9]⟩, .string ⟨#[32, 47, 47, 32, 109, 111, 100, 101, 108, 32, 61, 32, 10]⟩] 9)).cell? ⟨bm, of + i, none⟩ = some (.int .u8 (zn : Int)) := (A1.out.cell (World.block_lt_of_cell? wr _ hcm)).trans hcm
              have E4 : Hid ((⟨(pc4 3).toArray⟩ : ByteArray) = ⟨#[32, 47, 47, 32, 109, 111, 100, 101, 108, 32, 61, 32, 10]⟩) := rfl
              rw [E4.out] at c2
              clear hpc hpcl hxs hul hr4 HU3 hzn hz0 hz1
              go_wp2_with fail
              go_roundw
              case rel => exact ⟨i + 1, p, _, rfl, rfl, by first | exact congrArg (Value.int .i64) W3.out | go_num, HLT.out, by rw [← E4.out]; exact HU4, HA3, OTn.out.go A1.out, Zn.out.go A1.out, bstep Bn.out A1.out⟩
              case measure => have := HLT.out; first | (rw [W3.out]; simp [intOf]; omega) | (simp [intOf]; omega)
          · have hzz : ¬ (i : Int) < (zs.length : Int) := by omega
            have hpcl : pcL zs i = [] := by unfold pcL; rw [if_neg hz2]
            have HU4 : Hid ((u ++ s.extract last p).data.toList ++ insT s.data.toList (pcL zs) (T.drop (i + 1)) p (i + 1) = TOT) := by
              show _ = _
              rw [← HU3.out, hpcl, List.nil_append]
            clear hpcl hxs hul HU3 hz2 hlt
            go_wp2_with fail
            go_roundw
            case rel => exact ⟨i + 1, p, _, rfl, rfl, by first | exact congrArg (Value.int .i64) W3.out | go_num, HLT.out, HU4, HA3, OTn, Zn, Bn⟩
            case measure => have := HLT.out; first | (rw [W3.out]; simp [intOf]; omega) | (simp [intOf]; omega)
        · have hin : i = T.length := by omega
          subst hin
          have hA := HA.out
          have hU := HU.out
          rw [List.drop_length] at hA hU
          have hls : last ≤ s.size := hA
          have hU2 : u.data.toList ++ (s.data.toList.drop last ++ [10]) = TOT := hU
          have hul : u.size ≤ 5601 := by
            have h1 := congrArg List.length hU2
            have h2 : u.data.toList.length = u.size := Array.length_toList
            have h3 := HF3.out
            rw [List.length_append] at h1
            omega
          have hxs : (s.extract last s.size).size ≤ 400 := by
            have := HS4.out
            rw [ByteArray.size_extract]; omega
          have hsl : ∀ w, (Instr.slice 9 (.string s) (some (.int .i64 (last : Int))) none none).run Tryd.prog w = .ok (.string (s.extract last s.size)) w := fun w => by
            rw [run_slice_string_from_if w 9 s .i64 (last : Int) Tryd.underlying9, if_pos (by omega)]; rfl
          have c1 : ¬ (u.size + (s.extract last s.size).size > 9223372036854775807) := by omega
          have c2 : ¬ ((u ++ s.extract last s.size).size + (⟨#[10]⟩ : ByteArray).size > 9223372036854775807) := by
            have h9 : (⟨#[10]⟩ : ByteArray).size = 1 := rfl
            rw [ByteArray.size_append]; omega
          have hfin : (u ++ s.extract last s.size ++ (⟨#[10]⟩ : ByteArray)).data.toList = TOT := by
            rw [← hU2, ByteArray.data_append, ByteArray.data_append, Array.toList_append, Array.toList_append, toList_from, List.append_assoc]
          have hfs : (u ++ s.extract last s.size ++ (⟨#[10]⟩ : ByteArray)).size ≤ 8000 := by
            have h9 : (⟨#[10]⟩ : ByteArray).size = 1 := rfl
            rw [ByteArray.size_append, ByteArray.size_append]; omega
          obtain ⟨G1, G2, G3⟩ := HF4.out _ hfin
          have S2 := Lib.hid (SC.out wr _ Bn.out hfs)
          obtain ⟨⟨T2, m2, e2⟩, hT2⟩ : ∃ x, x = scanT (u ++ s.extract last s.size ++ (⟨#[10]⟩ : ByteArray)) := ⟨_, rfl⟩
          rw [← hT2] at S2 G1 G2 G3
          simp only [] at G1 G2 G3
          subst G1
          have HG2 := Lib.hid G2; have HG3 := Lib.hid G3
          have hii : ¬ ((T.length : Int) < (T.length : Int)) := by omega
          clear hT2 G2 G3 hfs hfin hxs hul hU2 hU hA HA HU hlt hi
          go_wp2_with fail
          clear c1 c2 hsl
          refine S2.out.mono ?_; rintro e w3 ⟨v2, rfl, hob, hb2⟩
          have B3 := Lib.hid (bstep Bn.out hb2)
          have T2a := Lib.hid hob.tokAt
          have OT3 := Lib.hid (OTn.out.go hb2); clear hob hb2
          have hl1 := HF2.out; have hl2 := HG3.out
          have CS : Hid (Calls Tryd.prog 16 #[.slice oT T.length cT, v2, .bool false] w3 fun e w' => e = .returned (.bool true) ∧ Below w3.heap.size w3 w') := by
            have := same_any w3 _ _ T T2 false OT3.out T2a.out (by omega) (by omega)
            rw [HG2.out] at this
            exact this
          go_wp2_with fail
          refine CS.out.mono ?_; rintro e w4 ⟨rfl, hb⟩
          have B4 := Lib.hid (bstep B3.out hb); clear hb
          go_wp2_with fail
          refine (AL.out _ B4.out).mono ?_; rintro e w5 ⟨rfl, hb⟩
          have HB := Lib.hid (bstep B4.out hb); clear hb
          go_wp2_with fail
          go_ret
          exact ⟨rfl, HB.out⟩
    · have e0 : (e != 0) = true := by rw [bne_iff_ne]; exact he
      obtain ⟨om, cm, rfl, -⟩ := HZ.out
      clear F he
      go_enter Tryd.func8, Tryd.ntmps8
      go_wp2_with fail
      refine S1.out.mono ?_; rintro e w1 ⟨vT, rfl, hoa, hb1⟩
      have B1 := Lib.hid hb1; clear hoa hb1
      go_wp2_with fail
      refine (AL.out _ B1.out).mono ?_; rintro e w1 ⟨rfl, hb⟩
      have HB := Lib.hid (bstep B1.out hb); clear hb
      go_wp2_with fail
      go_ret
      exact ⟨rfl, HB.out⟩
end Go.Proofs.YtegobakoflbnfaaDoor
