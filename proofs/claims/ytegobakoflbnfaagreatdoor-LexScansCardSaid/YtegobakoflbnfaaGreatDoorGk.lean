/- The reference's next: a word. The reference's next: a string. The reference's next: a number. The reference's next: a symbol, or none. The reference's Scan: as the program's. LexScans: the law's walk. Bytes that a call gathers: the append of a text, the text of them. -/
import Derived.Test.YtegobakoflbnfaaGreatDoorGj
import Derived.BigQuiet
import Derived.Test.YtegobakoflbnfaaGreatDoorGe
import Derived.Test.YtegobakoflbnfaaGreatDoorGd
import Derived.Test.YtegobakoflbnfaaGreatDoorGi
import Derived.Lib.AppendStr
import Derived.Laws.BytesArg
namespace Go.Proofs.YtegobakoflbnfaaGreatDoor
open Go Go.RowKit

def IsStrs (L : List ByteArray) : Rel := ⟨fun v w => StrAt w v L, fun v w w' hb h => by
  obtain ⟨g, h1, h2⟩ := h
  exact ⟨g, h1, fun i hi => (hb.cell (World.block_lt_of_cell? w _ (h2 i hi))).trans (h2 i hi)⟩⟩
def RetAt (w : World) (a : Nat) (x : T3) (e : Ending) (w' : World) : Prop := e = .returned (.tuple #[.agg #[.int .i64 x.1, .string x.2.1, .int .i64 (a : Int)], .int .i64 (x.2.2 : Nat)]) ∧ Below w.heap.size w w'
set_option maxHeartbeats 4000000 in
set_option maxRecDepth 100000 in
theorem next_word (w : World) (s : ByteArray) (hs : s.size ≤ 140737488355328) (a : Nat) (ha : a < s.size) (hl : isLet s[a].toNat = true) : Calls Tryz.prog 15 #[.string s, .int .i64 (a : Int)] w (RetAt w a (rwordL (s.data.toList.drop a))) := by
  have BX0 := BoxT.new w (.int .i64 0) (.string ⟨#[]⟩) (.int .i64 0)
  have B0 := below_alloc w (.cells #[.int .i64 0, .string ⟨#[]⟩, .int .i64 0] 37)
  have s1 : (w.alloc (.cells #[.int .i64 0, .string ⟨#[]⟩, .int .i64 0] 37)).heap.size = w.heap.size + 1 := by simp
  have BY0 := BoxT.new (w.alloc (.cells #[.int .i64 0, .string ⟨#[]⟩, .int .i64 0] 37)) (.int .i64 0) (.string ⟨#[]⟩) (.int .i64 (a : Int))
  have B1 := below_alloc (w.alloc (.cells #[.int .i64 0, .string ⟨#[]⟩, .int .i64 0] 37)) (.cells #[.int .i64 0, .string ⟨#[]⟩, .int .i64 (a : Int)] 37)
  rw [s1] at BY0
  have BX := Lib.hid (BX0.go B1); have BY := Lib.hid BY0; have HB := Lib.hid (bstep B0 B1)
  have hle := pre_le (runP false) (s.data.toList.drop a)
  rw [List.length_drop, Array.length_toList] at hle
  have RU := Lib.hid (fun W => rrun_at W s hs a (by omega) false)
  obtain ⟨n, hn⟩ : ∃ n, pre (runP false) (s.data.toList.drop a) = n := ⟨_, rfl⟩
  obtain ⟨c, hc⟩ : ∃ c, c = s[a] := ⟨_, rfl⟩
  have LE := Lib.hid (fun W => letter_any W c.toNat)
  rw [← hc] at hl
  rw [hl] at LE
  have hci : (s[a].toNat : Int) = (c.toNat : Int) := by rw [hc]
  obtain ⟨x, hx⟩ : ∃ x, x = rwordL (s.data.toList.drop a) := ⟨_, rfl⟩
  have HX := Lib.hid hx
  rw [← hx]
  unfold rwordL at HX
  rw [hn] at RU HX hle
  have hsz : s.data.size = s.size := rfl
  have hns : a + n ≤ s.size := by omega
  have HNS := Lib.hid hns
  have HW := Lib.hid (wadd (a := a) (b := n) (by omega))
  have ha2 : (a : Int) < (s.size : Int) := by omega
  clear BX0 BY0 B0 B1 hle hx hn s1 hl hsz
  go_enter Tryz.func15, Tryz.ntmps15
  go_wp2_with fail
  generalize ((w.alloc (.cells #[.int .i64 0, .string ⟨#[]⟩, .int .i64 0] 37)).alloc (.cells #[.int .i64 0, .string ⟨#[]⟩, .int .i64 (a : Int)] 37)) = w1 at *
  refine (LE.out _).mono ?_; rintro e w2 ⟨rfl, rfl⟩
  go_wp2_with fail
  refine (RU.out _).mono ?_; rintro e w2 ⟨rfl, rfl⟩
  obtain ⟨x0, x1, x2, f0, f1, f2⟩ := BX.out.facts
  obtain ⟨y0, y1, y2, g0, g1, g2⟩ := BY.out.facts
  by_cases h20 : 20 < n
  · have t1 : decide (20 < (n : Int)) = true := decide_eq_true (by omega)
    have HR : Hid (x = noT) := by show _ = _; rw [HX.out, if_pos h20]
    clear h20
    go_wp2_with fail
    obtain ⟨e0, e1, e2, hb⟩ := tok_ret BX.out (.int .i64 0) (.string ⟨#[]⟩) (.int .i64 (a : Int)) HB.out (by omega)
    refine bodyPost_ret (v := .tuple #[.agg #[.int .i64 0, .string ⟨#[]⟩, .int .i64 (a : Int)], .int .i64 0]) ?_ rfl ⟨by rw [HR.out]; rfl, hb⟩
    simp [results, Tryz.f15, go_sem, e0, e1, e2]
  · have t1 : decide (20 < (n : Int)) = false := decide_eq_false (by omega)
    have h20' := h20
    have hne : w.heap.size ≠ w.heap.size + 1 := by omega
    have KY := Lib.hid (fun W => keys_any W)
    have IN := Lib.hid (fun W v (h : StrAt W v keysB) => in_any W v keysB (s.extract a (a + n)) h (by decide))
    have HKY : Hid (anyS keysB (s.extract a (a + n)) = isKey ((s.data.toList.drop a).take n)) := by
      show _ = _
      rw [any_key, Lib.toList_data, toList_extract, List.drop_take, Nat.add_sub_cancel_left]
    have HTX : Hid ((⟨((s.data.toList.drop a).take n).toArray⟩ : ByteArray) = s.extract a (a + n)) := by
      show _ = _
      apply ByteArray.ext
      rw [← Array.toList_inj, toList_extract, List.drop_take, Nat.add_sub_cancel_left]
    obtain ⟨T, hT⟩ : ∃ T, T = s.extract a (a + n) := ⟨_, rfl⟩
    rw [← hT] at IN HKY HTX
    have HTT := Lib.hid hT
    clear hT
    go_wp2_with fail
    go_region
    rw [← HTT.out]
    have y3 : BoxT (((w2.setCell ⟨w.heap.size + 1, 0, none⟩ (.int .i64 1)).setCell ⟨w.heap.size + 1, 1, none⟩ (.string T)).drew) (w.heap.size + 1) (.int .i64 1) (.string T) (.int .i64 (a : Int)) := by
      have h1 := heap_setCell_same w2 (w.heap.size + 1) 0 _ 37 (.int .i64 1) BY.out
      exact heap_setCell_same _ (w.heap.size + 1) 1 _ 37 _ h1
    have x3 : BoxT (((w2.setCell ⟨w.heap.size + 1, 0, none⟩ (.int .i64 1)).setCell ⟨w.heap.size + 1, 1, none⟩ (.string T)).drew) w.heap.size (.int .i64 0) (.string ⟨#[]⟩) (.int .i64 0) := by
      have h1 := (heap_setCell_other w2 ⟨w.heap.size + 1, 0, none⟩ w.heap.size (.int .i64 1) hne).trans BX.out
      exact (heap_setCell_other _ ⟨w.heap.size + 1, 1, none⟩ w.heap.size _ hne).trans h1
    have b3 : Below w.heap.size w (((w2.setCell ⟨w.heap.size + 1, 0, none⟩ (.int .i64 1)).setCell ⟨w.heap.size + 1, 1, none⟩ (.string T)).drew) :=
      ((HB.out.setCell (p := ⟨w.heap.size + 1, 0, none⟩) (by show w.heap.size ≤ w.heap.size + 1; omega) _).setCell (p := ⟨w.heap.size + 1, 1, none⟩) (by show w.heap.size ≤ w.heap.size + 1; omega) _).drew
    have Y3 := Lib.hid y3; have X3 := Lib.hid x3; have B3 := Lib.hid b3
    clear y3 x3 b3 BX BY HB x0 x1 x2 f0 f1 f2 y0 y1 y2 g0 g1 g2
    generalize ((w2.setCell ⟨w.heap.size + 1, 0, none⟩ (.int .i64 1)).setCell ⟨w.heap.size + 1, 1, none⟩ (.string T)).drew = w4 at *
    go_wp2_with fail
    obtain ⟨q, hq⟩ : ∃ q, q = isKey ((s.data.toList.drop a).take n) := ⟨_, rfl⟩
    have HQ := Lib.hid hq
    rw [← hq] at HKY
    clear hq
    refine region_inv 3 204 [(36, IsStrs keysB), (37, Is (.pointer (some ⟨w.heap.size + 1, 1, none⟩))), (38, Is (.string T))] (by kernel_rfl) rfl (by kernel_rfl) ?_ ?_
    · refine steps_cons rfl (fun A_ W hb hr hg K hK => ?_) <| steps_cons rfl (fun A_ W hb hr hg K hK => ?_) <| steps_cons rfl (fun A_ W hb hr hg K hK => ?_) trivial
      · clear hb hr; go_simp
        refine (KY.out W).mono ?_; rintro e w5 ⟨v5, rfl, hv5, hb5⟩
        exact hK _ _ hb5 hv5
      · have e0 : A_.tmps[6]?.getD undef = .pointer (some ⟨w.heap.size + 1, 0, none⟩) := hb 6 (by kernel_rfl)
        clear hb hr; go_simp; exact hK _ _ (Below.refl _ _) rfl
      · have e0 : A_.tmps[37]?.getD undef = .pointer (some ⟨w.heap.size + 1, 1, none⟩) := hr 37 (by kernel_rfl)
        obtain ⟨y0, y1, y2, -, -, -⟩ := (Y3.out.go hg).facts
        clear hb hr; go_simp; exact hK _ _ (Below.refl _ _) rfl
    rintro g4 w14 hb14 ⟨h18, -, h20, -⟩
    simp only [List.drop_succ_cons, List.drop_zero, List.take_succ_cons, List.take_zero, putHead, Option.getD_some, Act.put, List.setIfInBounds_toArray, List.set_cons_zero, List.set_cons_succ]
    replace h20 : g4 38 = .string T := h20
    replace h18 : StrAt w14 (g4 36) keysB := h18
    rw [h20]
    generalize g4 36 = vk at *
    have IN2 := Lib.hid (IN.out w14 vk h18)
    rw [HKY.out] at IN2
    clear IN h18
    go_wp2_with fail
    refine IN2.out.mono ?_; rintro e w15 ⟨rfl, rfl⟩
    have HR : Hid (x = (if q then 2 else 1, T, n)) := by
      show _ = _
      rw [HX.out, if_neg h20', HTX.out, ← HQ.out]
    have Y4 := Lib.hid (Y3.out.go hb14); have X4 := Lib.hid (X3.out.go hb14); have B4 := Lib.hid (bstep B3.out hb14)
    obtain ⟨x0, x1, x2, f0, f1, f2⟩ := X4.out.facts
    obtain ⟨y0, y1, y2, g0, g1, g2⟩ := Y4.out.facts
    clear hb14 h20 Y3 X3 B3
    cases q
    · go_wp2_with fail
      obtain ⟨e0, e1, e2, hb⟩ := tok_ret X4.out (.int .i64 1) (.string T) (.int .i64 (a : Int)) B4.out (by omega)
      refine bodyPost_ret (v := .tuple #[.agg #[.int .i64 1, .string T, .int .i64 (a : Int)], .int .i64 (n : Nat)]) ?_ rfl ⟨by rw [HR.out]; rfl, hb⟩
      simp [results, Tryz.f15, go_sem, e0, e1, e2]
    · have y5 : BoxT (w15.setCell ⟨w.heap.size + 1, 0, none⟩ (.int .i64 2)) (w.heap.size + 1) (.int .i64 2) (.string T) (.int .i64 (a : Int)) := heap_setCell_same _ (w.heap.size + 1) 0 _ 37 (.int .i64 2) Y4.out
      have x5 : BoxT (w15.setCell ⟨w.heap.size + 1, 0, none⟩ (.int .i64 2)) w.heap.size (.int .i64 0) (.string ⟨#[]⟩) (.int .i64 0) := (heap_setCell_other _ ⟨w.heap.size + 1, 0, none⟩ w.heap.size (.int .i64 2) hne).trans X4.out
      have X5 := Lib.hid x5
      have B5 := Lib.hid (B4.out.setCell (p := ⟨w.heap.size + 1, 0, none⟩) (by show w.heap.size ≤ w.heap.size + 1; omega) (.int .i64 2))
      obtain ⟨z0, z1, z2, -, -, -⟩ := y5.facts
      obtain ⟨-, -, -, k0, k1, k2⟩ := x5.facts
      clear x5 y5
      go_wp2_with fail
      obtain ⟨e0, e1, e2, hb⟩ := tok_ret X5.out (.int .i64 2) (.string T) (.int .i64 (a : Int)) B5.out (by omega)
      refine bodyPost_ret (v := .tuple #[.agg #[.int .i64 2, .string T, .int .i64 (a : Int)], .int .i64 (n : Nat)]) ?_ rfl ⟨by rw [HR.out]; rfl, hb⟩
      simp [results, Tryz.f15, go_sem, e0, e1, e2]
end Go.Proofs.YtegobakoflbnfaaGreatDoor

namespace Go.Proofs.YtegobakoflbnfaaGreatDoor
open Go Go.RowKit

set_option maxHeartbeats 4000000 in
set_option maxRecDepth 100000 in
theorem next_quote (w : World) (s : ByteArray) (hs : s.size ≤ 140737488355328) (a : Nat) (ha : a < s.size) (hq : s[a] = 34) : Calls Tryz.prog 15 #[.string s, .int .i64 (a : Int)] w (RetAt w a (rquoL (s.data.toList.drop a))) := by
  have BX0 := BoxT.new w (.int .i64 0) (.string ⟨#[]⟩) (.int .i64 0)
  have B0 := below_alloc w (.cells #[.int .i64 0, .string ⟨#[]⟩, .int .i64 0] 37)
  have s1 : (w.alloc (.cells #[.int .i64 0, .string ⟨#[]⟩, .int .i64 0] 37)).heap.size = w.heap.size + 1 := by simp
  have BY0 := BoxT.new (w.alloc (.cells #[.int .i64 0, .string ⟨#[]⟩, .int .i64 0] 37)) (.int .i64 0) (.string ⟨#[]⟩) (.int .i64 (a : Int))
  have B1 := below_alloc (w.alloc (.cells #[.int .i64 0, .string ⟨#[]⟩, .int .i64 0] 37)) (.cells #[.int .i64 0, .string ⟨#[]⟩, .int .i64 (a : Int)] 37)
  rw [s1] at BY0
  have BX := Lib.hid (BX0.go B1); have BY := Lib.hid BY0; have HB := Lib.hid (bstep B0 B1)
  have hci : (s[a].toNat : Int) = 34 := by rw [hq]; rfl
  have LE : Hid (∀ W, Calls Tryz.prog 28 #[.int .u8 34] W fun e w' => e = .returned (.bool false) ∧ w' = W) := fun W => letter_any W 34
  have DG : Hid (∀ W, Calls Tryz.prog 32 #[.int .u8 34] W fun e w' => e = .returned (.bool false) ∧ w' = W) := fun W => digit_any W 34
  obtain ⟨l, hl⟩ : ∃ l, l = s.data.toList.drop (a + 1) := ⟨_, rfl⟩
  have hll : l.length + (a + 1) = s.size := by rw [hl, List.length_drop, Array.length_toList]; show s.size - (a + 1) + (a + 1) = s.size; omega
  have hd1 : (s.data.toList.drop a).drop 1 = l := by rw [List.drop_drop, hl]
  have hd2 : (s.data.toList.drop a).length = l.length + 1 := by rw [List.length_drop, Array.length_toList]; show s.size - a = _; omega
  obtain ⟨x, hx⟩ : ∃ x, x = rquoL (s.data.toList.drop a) := ⟨_, rfl⟩
  rw [← hx]
  unfold rquoL at hx
  rw [hd1, hd2] at hx
  obtain ⟨P, hP⟩ : ∃ P, P = pre notQ l := ⟨_, rfl⟩
  rw [← hP] at hx
  have HX := Lib.hid hx; have HL := Lib.hid hl; have HLL := Lib.hid hll; have HP := Lib.hid hP
  have HW := Lib.hid (wadd (a := a) (b := 1) (by omega))
  have ha2 : (a : Int) < (s.size : Int) := by omega
  have HA := Lib.hid ha
  clear BX0 BY0 B0 B1 hx s1 hl hll hd1 hd2 hP hq
  go_enter Tryz.func15, Tryz.ntmps15
  go_wp2_with fail
  generalize ((w.alloc (.cells #[.int .i64 0, .string ⟨#[]⟩, .int .i64 0] 37)).alloc (.cells #[.int .i64 0, .string ⟨#[]⟩, .int .i64 (a : Int)] 37)) = w1 at *
  refine (LE.out _).mono ?_; rintro e w2 ⟨rfl, rfl⟩
  go_wp2_with fail
  refine (DG.out _).mono ?_; rintro e w2 ⟨rfl, rfl⟩
  go_wp2_with fail
  go_loopw [11] (fun v11 wr => ∃ j : Nat, v11 = .int .i64 ((a + 1 + j : Nat) : Int) ∧ j ≤ l.length ∧ wr = w2 ∧ Hid ((l.take j).all notQ = true)) (fun v11 _ => s.size - (intOf v11).toNat)
  case atStart => exact ⟨0, rfl, Nat.zero_le _, rfl, rfl⟩
  case round =>
    obtain ⟨j, rfl, hj, rfl, HI⟩ := hrel
    have hll := HLL.out
    obtain ⟨m, hm⟩ : ∃ m, m = a + 1 + j := ⟨_, rfl⟩
    rw [← hm]
    have HM := Lib.hid hm
    by_cases hlt : m < s.size
    · have hjl : j < l.length := by omega
      have hb := Lib.data_getElem? s m hlt
      obtain ⟨b, hbe⟩ : ∃ b, b = s[m] := ⟨_, rfl⟩
      rw [← hbe] at hb
      have hbd : l[j]? = some b := by rw [HL.out, List.getElem?_drop, ← hm]; exact hb
      have hbi : (s[m].toNat : Int) = (b.toNat : Int) := by rw [hbe]
      have HV := Lib.hid (wadd (a := m) (b := 1) (by omega))
      have hl2 : (m : Int) < (s.size : Int) := by omega
      have HLT := Lib.hid hlt
      have HJ := Lib.hid hjl
      rcases Nat.decEq b.toNat 34 with h34 | h34
      · have f34 : ((b.toNat : Int) == 34) = false := by rw [beq_eq_false_iff_ne]; omega
        have HI2 : Hid ((l.take (j + 1)).all notQ = true) := by
          show _ = _
          have h1 : notQ b = true := by
            have := u8_ne (n := 34) (by decide) h34
            have this : (b == 34) = false := this
            unfold notQ bne; rw [this]; rfl
          rw [List.take_add_one, hbd, List.all_append, HI.out, Option.toList_some, List.all_cons, h1]; rfl
        clear hb hbd hjl h34 hm hj hll
        go_wp2_with fail
        go_roundw
        case rel => exact ⟨j + 1, by rw [show a + 1 + (j + 1) = m + 1 from by have := HM.out; omega]; first | rfl | go_num, HJ.out, trivial, HI2⟩
        case measure => have := HLT.out; simp [intOf]; omega
      · have f34 : ((b.toNat : Int) == 34) = true := by rw [beq_iff_eq]; omega
        have hjP : P = j := by
          rw [HP.out]
          refine pre_at notQ l j HI.out hj (.inr ⟨b, hbd, ?_⟩)
          rw [u8_of (by decide) h34]; rfl
        have hT : (l.take j) = (s.extract (a + 1) m).data.toList := by
          rw [toList_extract, List.drop_take, HL.out, hm, show a + 1 + j - (a + 1) = j by omega]
        have hT2 : (⟨(l.take j).toArray⟩ : ByteArray) = s.extract (a + 1) m := by
          apply ByteArray.ext
          rw [← Array.toList_inj, ← hT]
        have hx := HX.out
        rw [hjP, hT2] at hx
        have hszT : (s.extract (a + 1) m).size ≤ 140737488355328 := by rw [ByteArray.size_extract]; omega
        obtain ⟨T, hTT⟩ : ∃ T, T = s.extract (a + 1) m := ⟨_, rfl⟩
        have HT := Lib.hid hTT
        rw [← hTT] at hx hszT
        have IS := Lib.hid (fun W => isstring_any W T hszT)
        have n0 : ((m : Int) == (s.size : Int)) = false := by rw [beq_eq_false_iff_ne]; omega
        have hmle : m ≤ s.size := by omega
        have ham : a + 1 ≤ m := by omega
        obtain ⟨x0, x1, x2, f0, f1, f2⟩ := BX.out.facts
        obtain ⟨y0, y1, y2, g0, g1, g2⟩ := BY.out.facts
        cases hst : isStrB T
        · rw [hst] at IS
          have HR : Hid (x = noT) := by show _ = _; rw [hx, hst, if_pos (.inr rfl)]
          clear hx hst hT hT2 hb hbd hjP hll hjl hm hTT h34 hj
          go_wp2_with fail
          rw [← HT.out]
          refine (IS.out _).mono ?_; rintro e w5 ⟨rfl, rfl⟩
          go_wp2_with fail
          obtain ⟨e0, e1, e2, hb⟩ := tok_ret BX.out (.int .i64 0) (.string ⟨#[]⟩) (.int .i64 (a : Int)) HB.out (by omega)
          refine bodyPost_ret (v := .tuple #[.agg #[.int .i64 0, .string ⟨#[]⟩, .int .i64 (a : Int)], .int .i64 0]) ?_ rfl ⟨by rw [HR.out]; rfl, hb⟩
          simp [results, Tryz.f15, go_sem, e0, e1, e2]
        · rw [hst] at IS
          have HR : Hid (x = (4, T, j + 2)) := by
            show _ = _
            rw [hx, hst, if_neg]
            exact fun h => h.elim (fun h => by omega) (fun h => by cases h)
          clear hx hst hT hT2 hb hbd hjP hll hjl hm hTT h34 hj
          have HV2 : Hid (wrap64 (((m + 1 : Nat) : Int) - (a : Int)) = ((j + 2 : Nat) : Int)) := by
            show _ = _
            have := HM.out
            unfold wrap64; omega
          go_wp2_with fail
          rw [← HT.out]
          refine (IS.out _).mono ?_; rintro e w5 ⟨rfl, rfl⟩
          go_wp2_with fail
          go_region
          rw [← HT.out]
          have hne : w.heap.size ≠ w.heap.size + 1 := by omega
          have y3 : BoxT (((w5.setCell ⟨w.heap.size + 1, 0, none⟩ (.int .i64 4)).setCell ⟨w.heap.size + 1, 1, none⟩ (.string T)).drew) (w.heap.size + 1) (.int .i64 4) (.string T) (.int .i64 (a : Int)) := by
            have h1 := heap_setCell_same w5 (w.heap.size + 1) 0 _ 37 (.int .i64 4) BY.out
            exact heap_setCell_same _ (w.heap.size + 1) 1 _ 37 _ h1
          have x3 : BoxT (((w5.setCell ⟨w.heap.size + 1, 0, none⟩ (.int .i64 4)).setCell ⟨w.heap.size + 1, 1, none⟩ (.string T)).drew) w.heap.size (.int .i64 0) (.string ⟨#[]⟩) (.int .i64 0) := by
            have h1 := (heap_setCell_other w5 ⟨w.heap.size + 1, 0, none⟩ w.heap.size (.int .i64 4) hne).trans BX.out
            exact (heap_setCell_other _ ⟨w.heap.size + 1, 1, none⟩ w.heap.size _ hne).trans h1
          have b3 : Below w.heap.size w (((w5.setCell ⟨w.heap.size + 1, 0, none⟩ (.int .i64 4)).setCell ⟨w.heap.size + 1, 1, none⟩ (.string T)).drew) :=
            ((HB.out.setCell (p := ⟨w.heap.size + 1, 0, none⟩) (by show w.heap.size ≤ w.heap.size + 1; omega) _).setCell (p := ⟨w.heap.size + 1, 1, none⟩) (by show w.heap.size ≤ w.heap.size + 1; omega) _).drew
          have X3 := Lib.hid x3; have B3 := Lib.hid b3
          clear x0 x1 x2 f0 f1 f2 y0 y1 y2 g0 g1 g2
          obtain ⟨x0, x1, x2, f0, f1, f2⟩ := x3.facts
          obtain ⟨y0, y1, y2, g0, g1, g2⟩ := y3.facts
          clear y3 x3 b3 BX BY HB
          generalize ((w5.setCell ⟨w.heap.size + 1, 0, none⟩ (.int .i64 4)).setCell ⟨w.heap.size + 1, 1, none⟩ (.string T)).drew = w4 at *
          go_wp2_with fail
          obtain ⟨e0, e1, e2, hb⟩ := tok_ret X3.out (.int .i64 4) (.string T) (.int .i64 (a : Int)) B3.out (by omega)
          refine bodyPost_ret (v := .tuple #[.agg #[.int .i64 4, .string T, .int .i64 (a : Int)], .int .i64 ((j + 2 : Nat) : Int)]) ?_ rfl ⟨by rw [HR.out], hb⟩
          simp [results, Tryz.f15, go_sem, e0, e1, e2]
          have := HM.out
          omega
    · have hjl : j = l.length := by omega
      have hme : m = s.size := by omega
      have hjP : P = j := by
        rw [HP.out]
        exact pre_at notQ l j HI.out hj (.inl (by rw [List.getElem?_eq_none (by omega)]))
      have HR : Hid (x = noT) := by show _ = _; rw [HX.out, if_pos (.inl (by omega))]
      have n0 : ((m : Int) == (s.size : Int)) = true := by rw [beq_iff_eq]; omega
      have hl2 : ¬ (m : Int) < (s.size : Int) := by omega
      obtain ⟨x0, x1, x2, f0, f1, f2⟩ := BX.out.facts
      obtain ⟨y0, y1, y2, g0, g1, g2⟩ := BY.out.facts
      clear hlt hjl hjP hll hj hm hme
      go_wp2_with fail
      obtain ⟨e0, e1, e2, hb⟩ := tok_ret BX.out (.int .i64 0) (.string ⟨#[]⟩) (.int .i64 (a : Int)) HB.out (by omega)
      refine bodyPost_ret (v := .tuple #[.agg #[.int .i64 0, .string ⟨#[]⟩, .int .i64 (a : Int)], .int .i64 0]) ?_ rfl ⟨by rw [HR.out]; rfl, hb⟩
      simp [results, Tryz.f15, go_sem, e0, e1, e2]
end Go.Proofs.YtegobakoflbnfaaGreatDoor

namespace Go.Proofs.YtegobakoflbnfaaGreatDoor
open Go Go.RowKit

/-- the two boxes of next: what it answers, and the token that it makes -/
def Two (w w' : World) (k : Int) (t : ByteArray) (a : Nat) : Prop := BoxT w' w.heap.size (.int .i64 0) (.string ⟨#[]⟩) (.int .i64 0) ∧ BoxT w' (w.heap.size + 1) (.int .i64 k) (.string t) (.int .i64 (a : Int)) ∧ Below w.heap.size w w'
theorem Two.new (w : World) (a : Nat) : Two w ((w.alloc (.cells #[.int .i64 0, .string ⟨#[]⟩, .int .i64 0] 37)).alloc (.cells #[.int .i64 0, .string ⟨#[]⟩, .int .i64 (a : Int)] 37)) 0 ⟨#[]⟩ a := by
  have BX0 := BoxT.new w (.int .i64 0) (.string ⟨#[]⟩) (.int .i64 0)
  have B0 := below_alloc w (.cells #[.int .i64 0, .string ⟨#[]⟩, .int .i64 0] 37)
  have s1 : (w.alloc (.cells #[.int .i64 0, .string ⟨#[]⟩, .int .i64 0] 37)).heap.size = w.heap.size + 1 := by simp
  have BY0 := BoxT.new (w.alloc (.cells #[.int .i64 0, .string ⟨#[]⟩, .int .i64 0] 37)) (.int .i64 0) (.string ⟨#[]⟩) (.int .i64 (a : Int))
  have B1 := below_alloc (w.alloc (.cells #[.int .i64 0, .string ⟨#[]⟩, .int .i64 0] 37)) (.cells #[.int .i64 0, .string ⟨#[]⟩, .int .i64 (a : Int)] 37)
  rw [s1] at BY0
  exact ⟨BX0.go B1, BY0, bstep B0 B1⟩
theorem Two.kind {w w' : World} {k : Int} {t : ByteArray} {a : Nat} (h : Two w w' k t a) (k' : Int) : Two w (w'.setCell ⟨w.heap.size + 1, 0, none⟩ (.int .i64 k')) k' t a :=
  ⟨(heap_setCell_other w' ⟨w.heap.size + 1, 0, none⟩ w.heap.size (.int .i64 k') (by show w.heap.size ≠ w.heap.size + 1; omega)).trans h.1, heap_setCell_same w' (w.heap.size + 1) 0 _ 37 (.int .i64 k') h.2.1,
    h.2.2.setCell (p := ⟨w.heap.size + 1, 0, none⟩) (by show w.heap.size ≤ w.heap.size + 1; omega) _⟩
theorem Two.text {w w' : World} {k : Int} {t : ByteArray} {a : Nat} (h : Two w w' k t a) (t' : ByteArray) : Two w (w'.setCell ⟨w.heap.size + 1, 1, none⟩ (.string t')) k t' a :=
  ⟨(heap_setCell_other w' ⟨w.heap.size + 1, 1, none⟩ w.heap.size (.string t') (by show w.heap.size ≠ w.heap.size + 1; omega)).trans h.1, heap_setCell_same w' (w.heap.size + 1) 1 _ 37 (.string t') h.2.1,
    h.2.2.setCell (p := ⟨w.heap.size + 1, 1, none⟩) (by show w.heap.size ≤ w.heap.size + 1; omega) _⟩
theorem Two.drew {w w' : World} {k : Int} {t : ByteArray} {a : Nat} (h : Two w w' k t a) : Two w w'.drew k t a := ⟨h.1, h.2.1, h.2.2.drew⟩
theorem Two.go {w w' w2 : World} {k : Int} {t : ByteArray} {a : Nat} (h : Two w w' k t a) (hb : Below w'.heap.size w' w2) : Two w w2 k t a := ⟨h.1.go hb, h.2.1.go hb, bstep h.2.2 hb⟩
theorem wtwo {n m : Nat} (h : n + 1 + m ≤ 140737488355328) : wrap64 (wrap64 ((n : Int) + 1) + (m : Int)) = (n : Int) + 1 + (m : Int) := by
  have h1 : wrap64 ((n : Int) + 1) = (n : Int) + 1 := by unfold wrap64; omega
  rw [h1]; clear h1; unfold wrap64; omega
theorem dg_isD {l : List UInt8} (h : l.all (runP true) = true) : l.all QA.isD = true := by
  rw [List.all_eq_true] at h ⊢
  intro b hb
  have := h b hb
  rw [runP_true] at this
  unfold isDg at this
  unfold QA.isD
  simpa using this
theorem rplaces_all (l : List UInt8) (n : Nat) : ((l.drop (n + 1)).take (rplaces l n)).all (runP true) = true := by
  unfold rplaces
  split
  · exact pre_all _ _
  · simp
set_option maxHeartbeats 6400000 in
set_option maxRecDepth 100000 in
theorem next_digit (w : World) (s : ByteArray) (hs : s.size ≤ 140737488355328) (a : Nat) (ha : a < s.size) (hl : isLet s[a].toNat = false) (hd : isDg s[a].toNat = true) : Calls Tryz.prog 15 #[.string s, .int .i64 (a : Int)] w (RetAt w a (rnumL (s.data.toList.drop a))) := by
  have TW := Lib.hid (Two.new w a)
  obtain ⟨l, hle⟩ : ∃ l, l = s.data.toList.drop a := ⟨_, rfl⟩
  have hll : l.length + a = s.size := by rw [hle, List.length_drop, Array.length_toList]; show s.size - a + a = _; omega
  obtain ⟨n, hn⟩ : ∃ n, n = pre (runP true) l := ⟨_, rfl⟩
  have hnl : n ≤ l.length := by rw [hn]; exact pre_le _ _
  have RU : Hid (∀ W, Calls Tryz.prog 29 #[.string s, .int .i64 (a : Int), .bool true] W fun e w' => e = .returned (.int .i64 (n : Int)) ∧ w' = W) := fun W => by
    have := rrun_at W s hs a (by omega) true
    rwa [← hle, ← hn] at this
  obtain ⟨p, hp⟩ : ∃ p, p = a + n := ⟨_, rfl⟩
  have hps : p ≤ s.size := by omega
  have hdn : (l.take n).all QA.isD = true := by rw [hn]; exact dg_isD (pre_all _ _)
  have hxn : (s.extract a p).data.toList = l.take n := by rw [toList_extract, List.drop_take, hp, Nat.add_sub_cancel_left, hle]
  obtain ⟨m, hm⟩ : ∃ m, m = rplaces l n := ⟨_, rfl⟩
  have hdm : ((l.drop (n + 1)).take m).all QA.isD = true := by rw [hm]; exact dg_isD (rplaces_all _ _)
  obtain ⟨x, hx⟩ : ∃ x, x = rnumL l := ⟨_, rfl⟩
  rw [← hle, ← hx]
  unfold rnumL at hx
  rw [← hn, ← hm] at hx
  have HX := Lib.hid hx
  obtain ⟨c, hc⟩ : ∃ c, c = s[a] := ⟨_, rfl⟩
  have LE := Lib.hid (fun W => letter_any W c.toNat)
  have DG := Lib.hid (fun W => digit_any W c.toNat)
  rw [← hc] at hl hd
  rw [hl] at LE
  rw [hd] at DG
  have hci : (s[a].toNat : Int) = (c.toNat : Int) := by rw [hc]
  have ha2 : (a : Int) < (s.size : Int) := by omega
  have W1 : Hid (wrap64 ((a : Int) + (n : Int)) = (p : Int)) := by show _ = _; unfold wrap64; omega
  have HP := Lib.hid hp; have HPS := Lib.hid hps; have HDN := Lib.hid hdn; have HXN := Lib.hid hxn; have HM := Lib.hid hm; have HDM := Lib.hid hdm; have HL := Lib.hid hle; have HLL := Lib.hid hll
  have NU : Hid (∀ W t k L, t = ⟨(QA.numText (QA.dval (l.take n ++ L)) k).toArray⟩ → k ≤ 15 → n ≤ 15 → (∀ u : ByteArray, u.data.toList = L → u.size = k → L.all QA.isD = true → Calls Tryz.prog 33 #[.string (s.extract a p), .string u] W fun e w' => e = .returned (.string t) ∧ Below W.heap.size W w')) := fun W t k L ht hk hn15 u hu huk hL => by
    have h1 : (s.extract a p).size ≤ 15 := by rw [ByteArray.size_extract]; have := HP.out; omega
    have := QA.number_any W (s.extract a p) u h1 (by omega) (by rw [HXN.out, hu, List.all_append, HDN.out, hL]; rfl)
    rw [HXN.out, hu, huk, ← ht] at this
    exact this
  have hlt0 : p < s.size ∨ ¬ p < s.size := Nat.lt_or_ge p s.size |>.imp id (fun h => by omega)
  have hcase : (p < s.size ∧ l[n]? = s[p]? ∧ s[p]?.isSome = true) ∨ (¬ p < s.size ∧ m = 0) := by
    rcases hlt0 with h | h
    · left
      refine ⟨h, ?_, by simp [h]⟩
      rw [hle, List.getElem?_drop, ← hp, Lib.data_getElem? s p h]
      simp [h]
    · right
      refine ⟨h, ?_⟩
      rw [hm]; unfold rplaces
      rw [List.getElem?_eq_none (by omega)]
      rfl
  clear hl hd hx hc hn hnl hp hps hdn hxn hm hdm hle hll hlt0
  go_enter Tryz.func15, Tryz.ntmps15
  go_wp2_with fail
  generalize ((w.alloc (.cells #[.int .i64 0, .string ⟨#[]⟩, .int .i64 0] 37)).alloc (.cells #[.int .i64 0, .string ⟨#[]⟩, .int .i64 (a : Int)] 37)) = w1 at *
  refine (LE.out _).mono ?_; rintro e w2 ⟨rfl, rfl⟩
  go_wp2_with fail
  refine (DG.out _).mono ?_; rintro e w2 ⟨rfl, rfl⟩
  go_wp2_with fail
  refine (RU.out _).mono ?_; rintro e w2 ⟨rfl, rfl⟩
  obtain ⟨x0, x1, x2, f0, f1, f2⟩ := TW.out.1.facts
  obtain ⟨y0, y1, y2, g0, g1, g2⟩ := TW.out.2.1.facts
  clear RU LE DG
  rcases hcase with ⟨hlt, hln, -⟩ | ⟨hlt, hm0⟩
  · have hl2 : (p : Int) < (s.size : Int) := by omega
    obtain ⟨b, hbe⟩ : ∃ b, b = s[p] := ⟨_, rfl⟩
    have hbi : (s[p].toNat : Int) = (b.toNat : Int) := by rw [hbe]
    have hln2 : l[n]? = some b := by rw [hln, hbe]; simp [hlt]
    rcases Nat.decEq b.toNat 46 with h46 | h46
    · have f46 : ((b.toNat : Int) == 46) = false := by rw [beq_eq_false_iff_ne]; omega
      have hm0 : m = 0 := by
        rw [HM.out]; unfold rplaces
        rw [if_neg]
        rw [hln2]
        intro h
        exact h46 (by rw [Option.some.inj h]; rfl)
      subst hm0
      clear hln hln2 hbe h46
      by_cases h15 : 15 < n
      · have t1 : decide (15 < (n : Int)) = true := decide_eq_true (by omega)
        have HR : Hid (x = noT) := by show _ = _; rw [HX.out, if_pos (.inl h15)]
        clear h15
        have w1 := W1.out
        go_wp2_with fail
        obtain ⟨e0, e1, e2, hb⟩ := tok_ret TW.out.1 (.int .i64 0) (.string ⟨#[]⟩) (.int .i64 (a : Int)) TW.out.2.2 (Nat.le_refl _)
        refine bodyPost_ret (v := .tuple #[.agg #[.int .i64 0, .string ⟨#[]⟩, .int .i64 (a : Int)], .int .i64 0]) ?_ rfl ⟨by rw [HR.out]; rfl, hb⟩
        simp [results, Tryz.f15, go_sem, e0, e1, e2]
      · have t1 : decide (15 < (n : Int)) = false := decide_eq_false (by omega)
        have HR : Hid (x = (3, ⟨(QA.numText (QA.dval (l.take n ++ [])) 0).toArray⟩, n)) := by
          show _ = _
          rw [HX.out, if_neg (by omega)]; simp
        obtain ⟨T, hT⟩ : ∃ T : ByteArray, T = ⟨(QA.numText (QA.dval (l.take n ++ [])) 0).toArray⟩ := ⟨_, rfl⟩
        rw [← hT] at HR
        have NC : Hid (∀ W, Calls Tryz.prog 33 #[.string (s.extract a p), .string ⟨#[]⟩] W fun e w' => e = .returned (.string T) ∧ Below W.heap.size W w') := fun W => NU.out W T 0 [] hT (by omega) (by omega) ⟨#[]⟩ rfl rfl rfl
        have TW2 := Lib.hid (TW.out.kind 3)
        have ap : (a : Int) ≤ (p : Int) := by have := HP.out; omega
        have ps : (p : Int) ≤ (s.size : Int) := by have := HPS.out; omega
        clear h15 hT NU
        have w1 := W1.out
        go_wp2_with fail
        clear w1
        refine (NC.out _).mono ?_; rintro e w5 ⟨rfl, hb5⟩
        have TW3 := Lib.hid (TW2.out.go hb5)
        have TW4 := Lib.hid (TW3.out.text T)
        clear x0 x1 x2 f0 f1 f2 y0 y1 y2 g0 g1 g2 hb5
        obtain ⟨z0, z1, z2, k0, k1, k2⟩ := TW3.out.2.1.facts
        obtain ⟨y0, y1, y2, g0, g1, g2⟩ := TW4.out.2.1.facts
        obtain ⟨x0, x1, x2, f0, f1, f2⟩ := TW4.out.1.facts
        go_wp2_with fail
        obtain ⟨e0, e1, e2, hb⟩ := tok_ret TW4.out.1 (.int .i64 3) (.string T) (.int .i64 (a : Int)) TW4.out.2.2 (Nat.le_refl _)
        refine bodyPost_ret (v := .tuple #[.agg #[.int .i64 3, .string T, .int .i64 (a : Int)], .int .i64 (n : Nat)]) ?_ rfl ⟨by rw [HR.out], hb⟩
        simp [results, Tryz.f15, go_sem, e0, e1, e2]

    · have f46 : ((b.toNat : Int) == 46) = true := by rw [beq_iff_eq]; omega
      have hb46 : b = 46 := u8_of (n := 46) (by decide) h46
      have hml : m = pre (runP true) (l.drop (n + 1)) := by
        rw [HM.out]; unfold rplaces
        rw [if_pos (by rw [hln2, hb46])]
      have HML := Lib.hid hml
      have RV : Hid (∀ W, Calls Tryz.prog 29 #[.string s, .int .i64 ((p : Int) + 1), .bool true] W fun e w' => e = .returned (.int .i64 (m : Int)) ∧ w' = W) := fun W => by
        have := rrun_at W s hs (p + 1) (by omega) true
        rw [show s.data.toList.drop (p + 1) = l.drop (n + 1) by rw [HL.out, List.drop_drop, HP.out, Nat.add_assoc], ← hml] at this
        exact this
      clear hln hln2 hbe h46 hml hb46
      have w1 := W1.out
      go_wp2_with fail
      clear w1
      refine (RV.out _).mono ?_; rintro e w2 ⟨rfl, rfl⟩
      clear RV hbi f46 hl2 hlt
      by_cases hm0 : m = 0
      · subst hm0
        clear HML
        by_cases h15 : 15 < n
        · have t1 : decide (15 < (n : Int)) = true := decide_eq_true (by omega)
          have HR : Hid (x = noT) := by show _ = _; rw [HX.out, if_pos (.inl h15)]
          clear h15
          have w1 := W1.out
          go_wp2_with fail
          obtain ⟨e0, e1, e2, hb⟩ := tok_ret TW.out.1 (.int .i64 0) (.string ⟨#[]⟩) (.int .i64 (a : Int)) TW.out.2.2 (Nat.le_refl _)
          refine bodyPost_ret (v := .tuple #[.agg #[.int .i64 0, .string ⟨#[]⟩, .int .i64 (a : Int)], .int .i64 0]) ?_ rfl ⟨by rw [HR.out]; rfl, hb⟩
          simp [results, Tryz.f15, go_sem, e0, e1, e2]
        · have t1 : decide (15 < (n : Int)) = false := decide_eq_false (by omega)
          have HR : Hid (x = (3, ⟨(QA.numText (QA.dval (l.take n ++ [])) 0).toArray⟩, n)) := by
            show _ = _
            rw [HX.out, if_neg (by omega)]; simp
          obtain ⟨T, hT⟩ : ∃ T : ByteArray, T = ⟨(QA.numText (QA.dval (l.take n ++ [])) 0).toArray⟩ := ⟨_, rfl⟩
          rw [← hT] at HR
          have NC : Hid (∀ W, Calls Tryz.prog 33 #[.string (s.extract a p), .string ⟨#[]⟩] W fun e w' => e = .returned (.string T) ∧ Below W.heap.size W w') := fun W => NU.out W T 0 [] hT (by omega) (by omega) ⟨#[]⟩ rfl rfl rfl
          have TW2 := Lib.hid (TW.out.kind 3)
          have ap : (a : Int) ≤ (p : Int) := by have := HP.out; omega
          have ps : (p : Int) ≤ (s.size : Int) := by have := HPS.out; omega
          clear h15 hT NU
          have w1 := W1.out
          go_wp2_with fail
          clear w1
          refine (NC.out _).mono ?_; rintro e w5 ⟨rfl, hb5⟩
          have TW3 := Lib.hid (TW2.out.go hb5)
          have TW4 := Lib.hid (TW3.out.text T)
          clear x0 x1 x2 f0 f1 f2 y0 y1 y2 g0 g1 g2 hb5
          obtain ⟨z0, z1, z2, k0, k1, k2⟩ := TW3.out.2.1.facts
          obtain ⟨y0, y1, y2, g0, g1, g2⟩ := TW4.out.2.1.facts
          obtain ⟨x0, x1, x2, f0, f1, f2⟩ := TW4.out.1.facts
          go_wp2_with fail
          obtain ⟨e0, e1, e2, hb⟩ := tok_ret TW4.out.1 (.int .i64 3) (.string T) (.int .i64 (a : Int)) TW4.out.2.2 (Nat.le_refl _)
          refine bodyPost_ret (v := .tuple #[.agg #[.int .i64 3, .string T, .int .i64 (a : Int)], .int .i64 (n : Nat)]) ?_ rfl ⟨by rw [HR.out], hb⟩
          simp [results, Tryz.f15, go_sem, e0, e1, e2]

      · by_cases h15 : 15 < n ∨ 15 < m
        · have HR : Hid (x = noT) := by show _ = _; rw [HX.out, if_pos h15]
          by_cases h15n : 15 < n
          · have t1 : decide (15 < (n : Int)) = true := decide_eq_true (by omega)
            clear h15 h15n
            go_wp2_with fail
            obtain ⟨e0, e1, e2, hb⟩ := tok_ret TW.out.1 (.int .i64 0) (.string ⟨#[]⟩) (.int .i64 (a : Int)) TW.out.2.2 (Nat.le_refl _)
            refine bodyPost_ret (v := .tuple #[.agg #[.int .i64 0, .string ⟨#[]⟩, .int .i64 (a : Int)], .int .i64 0]) ?_ rfl ⟨by rw [HR.out]; rfl, hb⟩
            simp [results, Tryz.f15, go_sem, e0, e1, e2]
          · have t1 : decide (15 < (n : Int)) = false := decide_eq_false (by omega)
            have t2 : decide (15 < (m : Int)) = true := decide_eq_true (by omega)
            clear h15 h15n
            go_wp2_with fail
            obtain ⟨e0, e1, e2, hb⟩ := tok_ret TW.out.1 (.int .i64 0) (.string ⟨#[]⟩) (.int .i64 (a : Int)) TW.out.2.2 (Nat.le_refl _)
            refine bodyPost_ret (v := .tuple #[.agg #[.int .i64 0, .string ⟨#[]⟩, .int .i64 (a : Int)], .int .i64 0]) ?_ rfl ⟨by rw [HR.out]; rfl, hb⟩
            simp [results, Tryz.f15, go_sem, e0, e1, e2]
        · have t1 : decide (15 < (n : Int)) = false := decide_eq_false (by omega)
          have t2 : decide (15 < (m : Int)) = false := decide_eq_false (by omega)
          have t3 : ((m : Int) == 0) = false := by rw [beq_eq_false_iff_ne]; omega
          have hml : m ≤ (l.drop (n + 1)).length := by rw [HML.out]; exact pre_le _ _
          rw [List.length_drop] at hml
          obtain ⟨p1, hp1⟩ : ∃ p1, p1 = p + 1 := ⟨_, rfl⟩
          obtain ⟨q, hq⟩ : ∃ q, q = p1 + m := ⟨_, rfl⟩
          have hqs : q ≤ s.size := by have := HP.out; have := HLL.out; omega
          have hxm : (s.extract p1 q).data.toList = (l.drop (n + 1)).take m := by
            rw [toList_extract, List.drop_take, hq, Nat.add_sub_cancel_left, HL.out, List.drop_drop, hp1, HP.out, Nat.add_assoc]
          have hxs : (s.extract p1 q).size = m := by rw [ByteArray.size_extract]; omega
          have hlm : ((l.drop (n + 1)).take m).length = m := by rw [List.length_take, List.length_drop]; omega
          have HR : Hid (x = (3, ⟨(QA.numText (QA.dval (l.take n ++ (l.drop (n + 1)).take m)) m).toArray⟩, n + 1 + m)) := by
            show _ = _
            rw [HX.out, if_neg h15, if_neg (by omega : ¬ m = 0), hlm]
          obtain ⟨T, hT⟩ : ∃ T : ByteArray, T = ⟨(QA.numText (QA.dval (l.take n ++ (l.drop (n + 1)).take m)) m).toArray⟩ := ⟨_, rfl⟩
          rw [← hT] at HR
          have NC : Hid (∀ W, Calls Tryz.prog 33 #[.string (s.extract a p), .string (s.extract p1 q)] W fun e w' => e = .returned (.string T) ∧ Below W.heap.size W w') := fun W => NU.out W T m _ hT (by omega) (by omega) _ hxm hxs HDM.out
          have TW2 := Lib.hid (TW.out.kind 3)
          have SL1a : Hid ((a : Int) ≤ (p : Int)) := by show _ ≤ _; have := HP.out; omega
          have SL1b : Hid ((p : Int) ≤ (s.size : Int)) := by show _ ≤ _; have := HPS.out; omega
          have SL2a : Hid ((p1 : Int) ≤ (q : Int)) := by show _ ≤ _; omega
          have SL2b : Hid ((q : Int) ≤ (s.size : Int)) := by show _ ≤ _; omega
          have W2 : Hid (wrap64 ((p : Int) + 1) = (p1 : Int)) := by show _ = _; unfold wrap64; omega
          have W3 : Hid (wrap64 ((p1 : Int) + (m : Int)) = (q : Int)) := by show _ = _; unfold wrap64; omega
          have W5 := Lib.hid (wtwo (n := n) (m := m) (by have := HLL.out; omega))
          clear h15 hT NU hml hp1 hq hqs hxm hxs hlm
          go_wp2_with fail
          generalize w2.setCell ⟨w.heap.size + 1, 0, none⟩ (.int .i64 3) = w6 at *
          refine region_inv 20 204 [(89, Is (.string s)), (90, Is (.int .i64 (a : Int))), (91, Is (.int .i64 (a : Int))), (92, Is (.int .i64 (n : Int))), (93, Is (.int .i64 (p : Int))), (94, Is (.string (s.extract a p))), (95, Is (.string s)), (96, Is (.int .i64 (a : Int))), (97, Is (.int .i64 (n : Int))), (98, Is (.int .i64 (p : Int))), (99, Is (.int .i64 (p1 : Int))), (100, Is (.int .i64 (a : Int))), (101, Is (.int .i64 (n : Int))), (102, Is (.int .i64 (p : Int))), (103, Is (.int .i64 (p1 : Int))), (104, Is (.int .i64 (m : Int))), (105, Is (.int .i64 (q : Int))), (106, Is (.string (s.extract p1 q))), (107, Is (.string T)), (108, Is (.pointer (some ⟨w.heap.size + 1, 1, none⟩)))] (by kernel_rfl) rfl (by kernel_rfl) ?_ ?_
          · refine steps_cons rfl (fun A_ W hb hr hg K hK => ?_) <| steps_cons rfl (fun A_ W hb hr hg K hK => ?_) <| steps_cons rfl (fun A_ W hb hr hg K hK => ?_) <| steps_cons rfl (fun A_ W hb hr hg K hK => ?_) <| steps_cons rfl (fun A_ W hb hr hg K hK => ?_) <| steps_cons rfl (fun A_ W hb hr hg K hK => ?_) <| steps_cons rfl (fun A_ W hb hr hg K hK => ?_) <| steps_cons rfl (fun A_ W hb hr hg K hK => ?_) <| steps_cons rfl (fun A_ W hb hr hg K hK => ?_) <| steps_cons rfl (fun A_ W hb hr hg K hK => ?_) <| steps_cons rfl (fun A_ W hb hr hg K hK => ?_) <| steps_cons rfl (fun A_ W hb hr hg K hK => ?_) <| steps_cons rfl (fun A_ W hb hr hg K hK => ?_) <| steps_cons rfl (fun A_ W hb hr hg K hK => ?_) <| steps_cons rfl (fun A_ W hb hr hg K hK => ?_) <| steps_cons rfl (fun A_ W hb hr hg K hK => ?_) <| steps_cons rfl (fun A_ W hb hr hg K hK => ?_) <| steps_cons rfl (fun A_ W hb hr hg K hK => ?_) <| steps_cons rfl (fun A_ W hb hr hg K hK => ?_) <| steps_cons rfl (fun A_ W hb hr hg K hK => ?_) trivial
            · have e0 : A_.tmps[0]?.getD undef = .string s := hb 0 (by kernel_rfl)
              clear hb hr; go_simp; exact hK _ _ (Below.refl _ _) rfl
            · have e0 : A_.tmps[1]?.getD undef = .int .i64 (a : Int) := hb 1 (by kernel_rfl)
              clear hb hr; go_simp; exact hK _ _ (Below.refl _ _) rfl
            · have e0 : A_.tmps[1]?.getD undef = .int .i64 (a : Int) := hb 1 (by kernel_rfl)
              clear hb hr; go_simp; exact hK _ _ (Below.refl _ _) rfl
            · have e0 : A_.tmps[9]?.getD undef = .int .i64 (n : Int) := hb 9 (by kernel_rfl)
              clear hb hr; go_simp; exact hK _ _ (Below.refl _ _) rfl
            · have e0 : A_.tmps[91]?.getD undef = .int .i64 (a : Int) := hr 91 (by kernel_rfl)
              have e1 : A_.tmps[92]?.getD undef = .int .i64 (n : Int) := hr 92 (by kernel_rfl)
              clear hb hr; go_simp; exact hK _ _ (Below.refl _ _) (congrArg (Value.int .i64) ((IntWalk.i64_left _).trans W1.out))
            · have e0 : A_.tmps[89]?.getD undef = .string s := hr 89 (by kernel_rfl)
              have e1 : A_.tmps[90]?.getD undef = .int .i64 (a : Int) := hr 90 (by kernel_rfl)
              have e2 : A_.tmps[93]?.getD undef = .int .i64 (p : Int) := hr 93 (by kernel_rfl)
              have := SL1a.out; have := SL1b.out; clear hb hr; go_simp; exact hK _ _ (Below.refl _ _) rfl
            · have e0 : A_.tmps[0]?.getD undef = .string s := hb 0 (by kernel_rfl)
              clear hb hr; go_simp; exact hK _ _ (Below.refl _ _) rfl
            · have e0 : A_.tmps[1]?.getD undef = .int .i64 (a : Int) := hb 1 (by kernel_rfl)
              clear hb hr; go_simp; exact hK _ _ (Below.refl _ _) rfl
            · have e0 : A_.tmps[9]?.getD undef = .int .i64 (n : Int) := hb 9 (by kernel_rfl)
              clear hb hr; go_simp; exact hK _ _ (Below.refl _ _) rfl
            · have e0 : A_.tmps[96]?.getD undef = .int .i64 (a : Int) := hr 96 (by kernel_rfl)
              have e1 : A_.tmps[97]?.getD undef = .int .i64 (n : Int) := hr 97 (by kernel_rfl)
              clear hb hr; go_simp; exact hK _ _ (Below.refl _ _) (congrArg (Value.int .i64) ((IntWalk.i64_left _).trans W1.out))
            · have e0 : A_.tmps[98]?.getD undef = .int .i64 (p : Int) := hr 98 (by kernel_rfl)
              clear hb hr; go_simp; exact hK _ _ (Below.refl _ _) (congrArg (Value.int .i64) ((IntWalk.i64_left _).trans W2.out))
            · have e0 : A_.tmps[1]?.getD undef = .int .i64 (a : Int) := hb 1 (by kernel_rfl)
              clear hb hr; go_simp; exact hK _ _ (Below.refl _ _) rfl
            · have e0 : A_.tmps[9]?.getD undef = .int .i64 (n : Int) := hb 9 (by kernel_rfl)
              clear hb hr; go_simp; exact hK _ _ (Below.refl _ _) rfl
            · have e0 : A_.tmps[100]?.getD undef = .int .i64 (a : Int) := hr 100 (by kernel_rfl)
              have e1 : A_.tmps[101]?.getD undef = .int .i64 (n : Int) := hr 101 (by kernel_rfl)
              clear hb hr; go_simp; exact hK _ _ (Below.refl _ _) (congrArg (Value.int .i64) ((IntWalk.i64_left _).trans W1.out))
            · have e0 : A_.tmps[102]?.getD undef = .int .i64 (p : Int) := hr 102 (by kernel_rfl)
              clear hb hr; go_simp; exact hK _ _ (Below.refl _ _) (congrArg (Value.int .i64) ((IntWalk.i64_left _).trans W2.out))
            · have e0 : A_.tmps[10]?.getD undef = .int .i64 (m : Int) := hb 10 (by kernel_rfl)
              clear hb hr; go_simp; exact hK _ _ (Below.refl _ _) rfl
            · have e0 : A_.tmps[103]?.getD undef = .int .i64 (p1 : Int) := hr 103 (by kernel_rfl)
              have e1 : A_.tmps[104]?.getD undef = .int .i64 (m : Int) := hr 104 (by kernel_rfl)
              clear hb hr; go_simp; exact hK _ _ (Below.refl _ _) (congrArg (Value.int .i64) ((IntWalk.i64_left _).trans W3.out))
            · have e0 : A_.tmps[95]?.getD undef = .string s := hr 95 (by kernel_rfl)
              have e1 : A_.tmps[99]?.getD undef = .int .i64 (p1 : Int) := hr 99 (by kernel_rfl)
              have e2 : A_.tmps[105]?.getD undef = .int .i64 (q : Int) := hr 105 (by kernel_rfl)
              have := SL2a.out; have := SL2b.out; clear hb hr; go_simp; exact hK _ _ (Below.refl _ _) rfl
            · have e0 : A_.tmps[94]?.getD undef = .string (s.extract a p) := hr 94 (by kernel_rfl)
              have e1 : A_.tmps[106]?.getD undef = .string (s.extract p1 q) := hr 106 (by kernel_rfl)
              clear hb hr; go_simp
              refine (NC.out W).mono ?_; rintro e w5 ⟨rfl, hb5⟩
              exact hK _ _ hb5 rfl
            · have e0 : A_.tmps[6]?.getD undef = .pointer (some ⟨w.heap.size + 1, 0, none⟩) := hb 6 (by kernel_rfl)
              clear hb hr; go_simp; exact hK _ _ (Below.refl _ _) rfl
          rintro g4 w14 hb14 ⟨-, -, -, -, -, -, -, -, -, -, -, -, -, -, -, -, -, -, h19, h20, -⟩
          simp only [List.drop_succ_cons, List.drop_zero, List.take_succ_cons, List.take_zero, putHead, Option.getD_some, Act.put, List.setIfInBounds_toArray, List.set_cons_zero, List.set_cons_succ]
          replace h20 : g4 108 = .pointer (some ⟨w.heap.size + 1, 1, none⟩) := h20
          replace h19 : g4 107 = .string T := h19
          rw [h20, h19]
        
          have TW3 := Lib.hid (TW2.out.go hb14)
          have TW4 := Lib.hid (TW3.out.text T)
          clear x0 x1 x2 f0 f1 f2 y0 y1 y2 g0 g1 g2 hb14 h19 h20
          obtain ⟨z0, z1, z2, k0, k1, k2⟩ := TW3.out.2.1.facts
          obtain ⟨y0, y1, y2, g0, g1, g2⟩ := TW4.out.2.1.facts
          obtain ⟨x0, x1, x2, f0, f1, f2⟩ := TW4.out.1.facts
          go_wp2_with fail
          obtain ⟨e0, e1, e2, hb⟩ := tok_ret TW4.out.1 (.int .i64 3) (.string T) (.int .i64 (a : Int)) TW4.out.2.2 (Nat.le_refl _)
          refine bodyPost_ret (v := .tuple #[.agg #[.int .i64 3, .string T, .int .i64 (a : Int)], .int .i64 ((n + 1 + m : Nat) : Int)]) ?_ rfl ⟨by rw [HR.out], hb⟩
          simp [results, Tryz.f15, go_sem, e0, e1, e2]
          exact W5.out

  · have hl2 : ¬ (p : Int) < (s.size : Int) := by omega
    subst hm0
    clear hlt
    by_cases h15 : 15 < n
    · have t1 : decide (15 < (n : Int)) = true := decide_eq_true (by omega)
      have HR : Hid (x = noT) := by show _ = _; rw [HX.out, if_pos (.inl h15)]
      clear h15
      have w1 := W1.out
      go_wp2_with fail
      obtain ⟨e0, e1, e2, hb⟩ := tok_ret TW.out.1 (.int .i64 0) (.string ⟨#[]⟩) (.int .i64 (a : Int)) TW.out.2.2 (Nat.le_refl _)
      refine bodyPost_ret (v := .tuple #[.agg #[.int .i64 0, .string ⟨#[]⟩, .int .i64 (a : Int)], .int .i64 0]) ?_ rfl ⟨by rw [HR.out]; rfl, hb⟩
      simp [results, Tryz.f15, go_sem, e0, e1, e2]
    · have t1 : decide (15 < (n : Int)) = false := decide_eq_false (by omega)
      have HR : Hid (x = (3, ⟨(QA.numText (QA.dval (l.take n ++ [])) 0).toArray⟩, n)) := by
        show _ = _
        rw [HX.out, if_neg (by omega)]; simp
      obtain ⟨T, hT⟩ : ∃ T : ByteArray, T = ⟨(QA.numText (QA.dval (l.take n ++ [])) 0).toArray⟩ := ⟨_, rfl⟩
      rw [← hT] at HR
      have NC : Hid (∀ W, Calls Tryz.prog 33 #[.string (s.extract a p), .string ⟨#[]⟩] W fun e w' => e = .returned (.string T) ∧ Below W.heap.size W w') := fun W => NU.out W T 0 [] hT (by omega) (by omega) ⟨#[]⟩ rfl rfl rfl
      have TW2 := Lib.hid (TW.out.kind 3)
      have ap : (a : Int) ≤ (p : Int) := by have := HP.out; omega
      have ps : (p : Int) ≤ (s.size : Int) := by have := HPS.out; omega
      clear h15 hT NU
      have w1 := W1.out
      go_wp2_with fail
      clear w1
      refine (NC.out _).mono ?_; rintro e w5 ⟨rfl, hb5⟩
      have TW3 := Lib.hid (TW2.out.go hb5)
      have TW4 := Lib.hid (TW3.out.text T)
      clear x0 x1 x2 f0 f1 f2 y0 y1 y2 g0 g1 g2 hb5
      obtain ⟨z0, z1, z2, k0, k1, k2⟩ := TW3.out.2.1.facts
      obtain ⟨y0, y1, y2, g0, g1, g2⟩ := TW4.out.2.1.facts
      obtain ⟨x0, x1, x2, f0, f1, f2⟩ := TW4.out.1.facts
      go_wp2_with fail
      obtain ⟨e0, e1, e2, hb⟩ := tok_ret TW4.out.1 (.int .i64 3) (.string T) (.int .i64 (a : Int)) TW4.out.2.2 (Nat.le_refl _)
      refine bodyPost_ret (v := .tuple #[.agg #[.int .i64 3, .string T, .int .i64 (a : Int)], .int .i64 (n : Nat)]) ?_ rfl ⟨by rw [HR.out], hb⟩
      simp [results, Tryz.f15, go_sem, e0, e1, e2]


end Go.Proofs.YtegobakoflbnfaaGreatDoor

namespace Go.Proofs.YtegobakoflbnfaaGreatDoor
open Go Go.RowKit

def symF (l : List UInt8) : List ByteArray → T3
  | [] => noT
  | k :: ks => if Lib.hasPrefix l k.data.toList then (5, k, k.size) else symF l ks
theorem symF_of (l : List UInt8) : ∀ L : List (List UInt8), (match L.find? (fun k => Lib.hasPrefix l k) with | some k => (5, ⟨k.toArray⟩, k.length) | none => noT) = symF l (L.map fun k => ⟨k.toArray⟩)
  | [] => rfl
  | k :: L => by
    rw [List.find?_cons, List.map_cons, symF]
    cases Lib.hasPrefix l k
    · rw [if_neg Bool.false_ne_true]; exact symF_of l L
    · rw [if_pos rfl]; rfl
theorem rsym_F (l : List UInt8) : rsymL l = symF l symsB := symF_of l symsL
theorem hp_ext (s k : ByteArray) (a : Nat) : Lib.hasPrefix (s.data.toList.drop a) k.data.toList = ((s.extract a (a + k.size)).toList == k.toList) := by
  rw [Lib.toList_data, Lib.toList_data, toList_extract, List.drop_take, Nat.add_sub_cancel_left]
  rw [Bool.eq_iff_iff, beq_iff_eq]
  show List.isPrefixOf _ _ = true ↔ _
  rw [List.isPrefixOf_iff_prefix, List.prefix_iff_eq_take, Array.length_toList]
  exact eq_comm
theorem hp_far (s k : ByteArray) (a : Nat) (h : s.size < a + k.size) (ha : a < s.size) : Lib.hasPrefix (s.data.toList.drop a) k.data.toList = false := by
  rw [Bool.eq_false_iff]
  intro h2
  have h3 : List.isPrefixOf k.data.toList (s.data.toList.drop a) = true := h2
  rw [List.isPrefixOf_iff_prefix] at h3
  have h4 := h3.length_le
  rw [List.length_drop, Array.length_toList, Array.length_toList] at h4
  have : s.data.size = s.size := rfl
  have : k.data.size = k.size := rfl
  omega
theorem meas_one {N i : Nat} (h : i < N) (hw : wrap64 ((i : Int) + 1) = ((i + 1 : Nat) : Int)) : N - (intOf (.int .i64 (wrap64 ((i : Int) + 1)))).toNat < N - (intOf (.int .i64 (i : Int))).toNat := by
  rw [hw]; clear hw; simp only [intOf]; omega
theorem syms_size : ∀ k ∈ symsB, k.size ≤ 2 := by decide +kernel
theorem syms_len : symsB.length = 21 := by decide +kernel
set_option maxHeartbeats 6400000 in
set_option maxRecDepth 100000 in
theorem next_symbol (w : World) (s : ByteArray) (hs : s.size ≤ 140737488355328) (a : Nat) (ha : a < s.size) (hl : isLet s[a].toNat = false) (hd : isDg s[a].toNat = false) (hq : s[a] ≠ 34) : Calls Tryz.prog 15 #[.string s, .int .i64 (a : Int)] w (RetAt w a (rsymL (s.data.toList.drop a))) := by
  have TW0 := Lib.hid (Two.new w a)
  obtain ⟨l, hle⟩ : ∃ l, l = s.data.toList.drop a := ⟨_, rfl⟩
  obtain ⟨x, hx⟩ : ∃ x, x = rsymL l := ⟨_, rfl⟩
  rw [← hle, ← hx]
  rw [rsym_F] at hx
  have SY := Lib.hid (fun W => symbols_any W)
  have hbl := syms_size
  have hbn := syms_len
  generalize symsB = SB at hx SY hbl hbn
  obtain ⟨N, hN⟩ : ∃ N, N = SB.length := ⟨_, rfl⟩
  rw [← hN] at hbn
  have HX := Lib.hid hx
  obtain ⟨c, hc⟩ : ∃ c, c = s[a] := ⟨_, rfl⟩
  have LE := Lib.hid (fun W => letter_any W c.toNat)
  have DG := Lib.hid (fun W => digit_any W c.toNat)
  rw [← hc] at hl hd hq
  rw [hl] at LE
  rw [hd] at DG
  have hci : (s[a].toNat : Int) = (c.toNat : Int) := by rw [hc]
  have ha2 : (a : Int) < (s.size : Int) := by omega
  have f34 : ((c.toNat : Int) == 34) = false := by
    rw [beq_eq_false_iff_ne]; intro h; exact hq (u8_of (n := 34) (by decide) (by omega))
  obtain ⟨r, hr⟩ : ∃ r, r = s.size - a := ⟨_, rfl⟩
  have WS : Hid (wrap64 ((s.size : Int) - (a : Int)) = (r : Int)) := by show _ = _; unfold wrap64; omega
  have HRr := Lib.hid hr; have HL := Lib.hid hle; have HBL := Lib.hid hbl; have HN := Lib.hid hN; have HA := Lib.hid ha; have HS := Lib.hid hs; have HBN := Lib.hid hbn
  clear hl hd hx hc hle hbl hq hr hN hbn
  go_enter Tryz.func15, Tryz.ntmps15
  go_wp2_with fail
  generalize ((w.alloc (.cells #[.int .i64 0, .string ⟨#[]⟩, .int .i64 0] 37)).alloc (.cells #[.int .i64 0, .string ⟨#[]⟩, .int .i64 (a : Int)] 37)) = w1 at *
  refine (LE.out _).mono ?_; rintro e w2 ⟨rfl, rfl⟩
  go_wp2_with fail
  refine (DG.out _).mono ?_; rintro e w2 ⟨rfl, rfl⟩
  go_wp2_with fail
  refine (SY.out _).mono ?_; rintro e w3 ⟨v3, rfl, hv3, hb3⟩
  have TW := Lib.hid (TW0.out.go hb3)
  obtain ⟨gs, rfl, hcs⟩ := hv3
  have HCS := Lib.hid hcs
  have hgs0 : gs ≠ w.heap.size := by
    intro h
    have q := TW.out.1.facts.1
    have q2 := hcs 0 (by have := HN.out; have := HBN.out; omega)
    rw [h, q] at q2
    cases q2
  have hgs : gs ≠ w.heap.size + 1 := by
    intro h
    have q := TW.out.2.1.facts.1
    have q2 := hcs 0 (by have := HN.out; have := HBN.out; omega)
    rw [h, q] at q2
    cases q2
  rw [← HN.out]
  clear hcs hb3 SY LE DG TW0 f34
  go_wp2_with fail
  go_loopw [13] (fun v13 wr => ∃ i : Nat, v13 = .int .i64 (i : Int) ∧ i ≤ N ∧ Hid (Below w3.heap.size w3 wr) ∧ Hid (x = symF l (SB.drop i))) (fun v13 _ => N - (intOf v13).toNat)
  case atStart => exact ⟨0, rfl, Nat.zero_le _, Below.refl _ _, HX.out⟩
  case round =>
    obtain ⟨i, rfl, hi, HB, HXi⟩ := hrel
    rename World => wr
    have TWr := Lib.hid (TW.out.go HB.out)
    by_cases hlt : i < N
    · have hil : i < SB.length := by have := HN.out; omega
      have x0 := HCS.out i hil
      have gl := World.block_lt_of_cell? w3 _ x0
      replace x0 := (HB.out.cell (p := ⟨gs, i, none⟩) gl).trans x0
      have hsy : symF l (SB.drop i) = if Lib.hasPrefix l (SB[i]).data.toList then (5, SB[i], (SB[i]).size) else symF l (SB.drop (i + 1)) := by
        rw [List.drop_eq_getElem_cons hil]; rfl
      have hK2 := HBL.out SB[i] (List.getElem_mem hil)
      generalize SB[i] = K at x0 hsy hK2
      have HSY := Lib.hid hsy
      have HLT := Lib.hid hlt
      have HW : Hid (wrap64 ((i : Int) + 1) = ((i + 1 : Nat) : Int)) := wadd (a := i) (b := 1) (by have := HBN.out; omega)
      have hii : (i : Int) < (N : Int) := by omega
      obtain ⟨e, he⟩ : ∃ e, e = a + K.size := ⟨_, rfl⟩
      have WE : Hid (wrap64 ((a : Int) + (K.size : Int)) = (e : Int)) := by show _ = _; have := HS.out; have := HA.out; unfold wrap64; omega
      clear hsy hil gl
      by_cases hfit : K.size ≤ r
      · have g0 : decide (K.size ≤ r) = true := decide_eq_true hfit
        have hes : e ≤ s.size := by have := HRr.out; have := HA.out; omega
        have hpx := hp_ext s K a
        rw [← HL.out, ← he] at hpx
        have ae : (a : Int) ≤ (e : Int) := by omega
        have es : (e : Int) ≤ (s.size : Int) := by omega
        cases hk : ((s.extract a e).toList == K.toList)
        · have HX2 : Hid (x = symF l (SB.drop (i + 1))) := by
            show _ = _
            rw [HXi.out, HSY.out, if_neg (by rw [hpx, hk]; decide)]
          clear hpx hes he hfit HSY
          have ws := (IntWalk.i64_left _).trans WS.out; have we := (IntWalk.i64_left _).trans WE.out
          go_wp2_with fail
          go_quiet (fail)
          clear ws we
          go_wp2_with fail
          go_roundw
          case rel => exact ⟨i + 1, by rw [HW.out], HLT.out, HB.out.trans (below_drewN _ _ _), HX2⟩
          case measure => exact meas_one HLT.out HW.out
        · have HR : Hid (x = (5, K, K.size)) := by
            show _ = _
            rw [HXi.out, HSY.out, if_pos (by rw [hpx, hk])]
          clear hpx hes he hfit HSY
          have ws := (IntWalk.i64_left _).trans WS.out; have we := (IntWalk.i64_left _).trans WE.out
          go_wp2_with fail
          go_quiet (fail)
          clear ws we
          have TW1 := Lib.hid (TWr.out.go (below_drewN _ _ nq))
          have BD : Below wr.heap.size wr (wr.drewN nq) := below_drewN _ _ nq
          have gl2 := World.block_lt_of_cell? wr _ x0
          replace x0 := (BD.cell (p := ⟨gs, i, none⟩) gl2).trans x0
          generalize wr.drewN nq = w4 at *
          obtain ⟨y0, y1, y2, g0, g1, g2⟩ := TW1.out.2.1.facts
          clear BD gl2
          go_wp2_with fail
          go_region
          have TW2 := Lib.hid ((TW1.out.kind 5).text K).drew
          have xk : (((w4.setCell ⟨w.heap.size + 1, 0, none⟩ (.int .i64 5)).setCell ⟨w.heap.size + 1, 1, none⟩ (.string K)).drew).cell? ⟨gs, i, none⟩ = some (.string K) := by
            simp [go_sem, x0]
          clear x0 y0 y1 y2 g0 g1 g2
          generalize ((w4.setCell ⟨w.heap.size + 1, 0, none⟩ (.int .i64 5)).setCell ⟨w.heap.size + 1, 1, none⟩ (.string K)).drew = w5 at *
          obtain ⟨y0, y1, y2, g0, g1, g2⟩ := TW2.out.2.1.facts
          obtain ⟨x0, x1, x2, f0, f1, f2⟩ := TW2.out.1.facts
          obtain ⟨e0, e1, e2, hb⟩ := tok_ret TW2.out.1 (.int .i64 5) (.string K) (.int .i64 (a : Int)) TW2.out.2.2 (Nat.le_refl _)
          go_wp2_with fail
          go_region
          go_wp2_with fail
          refine bodyPost_ret (v := .tuple #[.agg #[.int .i64 5, .string K, .int .i64 (a : Int)], .int .i64 (K.size : Nat)]) ?_ rfl ⟨by rw [HR.out], hb.drew⟩
          simp [results, Tryz.f15, go_sem, e0, e1, e2]
      · have g0 : decide (K.size ≤ r) = false := decide_eq_false hfit
        have hpx := hp_far s K a (by have := HRr.out; have := HA.out; omega) HA.out
        rw [← HL.out] at hpx
        have HX2 : Hid (x = symF l (SB.drop (i + 1))) := by
          show _ = _
          rw [HXi.out, HSY.out, if_neg (by rw [hpx]; decide)]
        clear hpx he hfit HSY
        have ws := (IntWalk.i64_left _).trans WS.out
        go_wp2_with fail
        go_quiet (fail)
        clear ws
        go_wp2_with fail
        go_roundw
        case rel => exact ⟨i + 1, by rw [HW.out], HLT.out, HB.out.trans (below_drewN _ _ _), HX2⟩
        case measure => exact meas_one HLT.out HW.out
    · have HR : Hid (x = noT) := by
        show _ = _
        rw [HXi.out, List.drop_eq_nil_of_le (by have := HN.out; omega)]; rfl
      have hii : ¬ (i : Int) < (N : Int) := by omega
      obtain ⟨x0, x1, x2, f0, f1, f2⟩ := TWr.out.1.facts
      obtain ⟨y0, y1, y2, g0, g1, g2⟩ := TWr.out.2.1.facts
      clear hlt
      go_wp2_with fail
      obtain ⟨e0, e1, e2, hb⟩ := tok_ret TWr.out.1 (.int .i64 0) (.string ⟨#[]⟩) (.int .i64 (a : Int)) TWr.out.2.2 (Nat.le_refl _)
      refine bodyPost_ret (v := .tuple #[.agg #[.int .i64 0, .string ⟨#[]⟩, .int .i64 (a : Int)], .int .i64 0]) ?_ rfl ⟨by rw [HR.out]; rfl, hb⟩
      simp [results, Tryz.f15, go_sem, e0, e1, e2]

end Go.Proofs.YtegobakoflbnfaaGreatDoor

namespace Go.Proofs.YtegobakoflbnfaaGreatDoor
open Go Go.RowKit

theorem next_any (w : World) (s : ByteArray) (hs : s.size ≤ 140737488355328) (a : Nat) (ha : a < s.size) : Calls Tryz.prog 15 #[.string s, .int .i64 (a : Int)] w (RetAt w a (tk0 (s.data.toList.drop a))) := by
  have hne : s.data.toList.drop a ≠ [] := by rw [drop_at ha]; simp
  rw [← rtk_eq _ hne]
  have e := drop_at ha
  have h0 : rtk (s.data.toList.drop a) = if isLet s[a].toNat then rwordL (s.data.toList.drop a) else if isDg s[a].toNat then rnumL (s.data.toList.drop a) else if s[a] = 34 then rquoL (s.data.toList.drop a) else rsymL (s.data.toList.drop a) := by
    rw [e]; rfl
  rw [h0]
  cases hl : isLet s[a].toNat
  · rw [if_neg Bool.false_ne_true]
    cases hd : isDg s[a].toNat
    · rw [if_neg Bool.false_ne_true]
      by_cases hq : s[a] = 34
      · rw [if_pos hq]; exact next_quote w s hs a ha hq
      · rw [if_neg hq]; exact next_symbol w s hs a ha hl hd hq
    · rw [if_pos rfl]; exact next_digit w s hs a ha hl hd
  · rw [if_pos rfl]; exact next_word w s hs a ha hl
set_option maxHeartbeats 6400000 in
set_option maxRecDepth 100000 in
theorem rscan_any (w : World) (s : ByteArray) (hs2 : s.size ≤ 140737488355328) : Calls Tryz.prog 7 #[.string s] w (RetScan w (scanT s)) := by
  obtain ⟨x, hx⟩ : ∃ x, x = scanT s := ⟨_, rfl⟩
  rw [← hx]
  unfold scanT at hx
  by_cases h8 : 8000 < s.size
  · have HR : Hid (x = ([], 0, 2)) := by show _ = _; rw [hx, if_pos h8]
    clear hx
    go_enter Tryz.func7, Tryz.ntmps7
    go_wp2_with fail
    refine bodyPost_ret (v := .tuple #[.slice none 0 0, .int .i64 0, .int .i64 2]) (by simp [results, Tryz.f7, go_sem]) rfl ⟨.slice none 0 0, by rw [HR.out]; rfl, by rw [HR.out]; exact OwnT.nil (Nat.le_refl _), Below.refl _ _⟩
  · rw [if_neg h8] at hx
    have FI : Hid (∀ W k, k < s.size → Calls Tryz.prog 15 #[.string s, .int .i64 (k : Int)] W (RetAt W k (tk0 (s.data.toList.drop k)))) := fun W k h => next_any W s hs2 k h
    have GA : Hid (∀ W k, k ≤ s.size → Calls Tryz.prog 14 #[.string s, .int .i64 (k : Int)] W fun e w' => e = .returned (.int .i64 (gapT (s.data.toList.drop k) : Nat)) ∧ w' = W) := fun W k h => by
      rw [gap_g]; exact rspace_any W s hs2 k h
    have hs8 : s.size ≤ 8000 := by omega
    have G0 : Hid (Calls Tryz.prog 14 #[.string s, .int .i64 0] w fun e w' => e = .returned (.int .i64 (gapT s.data.toList : Nat)) ∧ w' = w) := GA.out w 0 (Nat.zero_le _)
    have hg := gap_le s.data.toList
    rw [Array.length_toList] at hg
    obtain ⟨g, hge⟩ : ∃ g, g = gapT s.data.toList := ⟨_, rfl⟩
    rw [← hge] at hx hg G0
    have HX := Lib.hid hx
    have HG : Hid (g ≤ s.size) := hg
    clear hx hge hg h8 hs2
    go_enter Tryz.func7, Tryz.ntmps7
    go_wp2_with fail
    refine G0.out.mono ?_; rintro e w2 ⟨rfl, rfl⟩
    go_wp2_with fail
    go_loopw [5, 6] (fun v5 v6 wr => ∃ (n f : Nat) (L : List Tk), v6 = .int .i64 (n : Int) ∧ n ≤ s.size ∧ s.size - n < f ∧ Hid (x = scanL s f n L) ∧ Hid (OwnT wr w2.heap.size v5 L) ∧ Hid (Below w2.heap.size w2 wr) ∧ L.length ≤ 2000) (fun _ v6 _ => s.size - (intOf v6).toNat)
    case atStart => exact ⟨g, s.size + 1, [], rfl, HG.out, by omega, HX, OwnT.nil (Nat.le_refl _), Below.refl _ _, Nat.zero_le _⟩
    case round =>
      clear HX HG G0
      obtain ⟨n, f, L, rfl, hn, hf, HXn, HOn, HBn, hL⟩ := hrel
      obtain ⟨o5, c5, rfl⟩ := HOn.out.shape
      obtain ⟨f, rfl⟩ : ∃ k, f = k + 1 := ⟨f - 1, by omega⟩
      by_cases hlt : n < s.size
      · have FT := Lib.hid (fun W => FI.out W n hlt)
        have hfl := first_le (s.extract n s.size)
        rw [show (s.extract n s.size).size = s.size - n by simp [ByteArray.size_extract]] at hfl
        have hX2 := HXn.out
        rw [scanL, if_pos hlt] at hX2
        have hy0 : firstT (s.extract n s.size) = tk0 (s.data.toList.drop n) := by rw [from_list]; rfl
        rw [hy0] at hX2 hfl
        obtain ⟨y, hy⟩ : ∃ y, y = tk0 (s.data.toList.drop n) := ⟨_, rfl⟩
        rw [← hy] at FT hfl hX2
        obtain ⟨yk, ys, yn⟩ := y
        simp only [] at FT hfl hX2
        clear hy hy0 HXn
        by_cases h0 : yn = 0
        · have HR : Hid (x = ([], n, 1)) := by show _ = _; rw [hX2, if_pos h0]
          subst h0
          clear hX2 hfl
          go_wp2_with fail
          refine (FT.out _).mono ?_; rintro e w3 ⟨rfl, hb3⟩
          have HB3 := Lib.hid (bstep HBn.out hb3); clear hb3
          go_wp2_with fail
          refine bodyPost_ret (v := .tuple #[.slice none 0 0, .int .i64 (n : Int), .int .i64 1]) (by simp [results, Tryz.f7, go_sem]) rfl ⟨.slice none 0 0, by rw [HR.out], by rw [HR.out]; exact OwnT.nil (Nat.le_trans HB3.out.size (by simp)), HB3.out.trans ((below_alloc _ _).mono HB3.out.size)⟩
        · have y0 : ((yn : Int) == 0) = false := by rw [beq_eq_false_iff_ne]; omega
          rw [if_neg h0] at hX2
          have hny : n + yn ≤ s.size := by omega
          have hg2 := gap_le (s.data.toList.drop (n + yn))
          rw [List.length_drop, Array.length_toList] at hg2
          have hsd : s.data.size = s.size := rfl
          obtain ⟨g2, hg2e⟩ : ∃ g, g = gapT (s.data.toList.drop (n + yn)) := ⟨_, rfl⟩
          rw [← hg2e] at hg2 hX2
          have hn2 : n + yn + g2 ≤ s.size := by omega
          have W1 := Lib.hid (wadd (a := n) (b := yn) (by omega))
          have W2 := Lib.hid (wadd (a := n + yn) (b := g2) (by omega))
          have GA2 : Hid (∀ W, Calls Tryz.prog 14 #[.string s, .int .i64 ((n + yn : Nat) : Int)] W fun e w' => e = .returned (.int .i64 (g2 : Int)) ∧ w' = W) := fun W => by
            have := GA.out W (n + yn) hny
            rw [← hg2e] at this
            exact this
          have HM : Hid (s.size - (n + yn + g2) < f ∧ s.size - (n + yn + g2) < s.size - n) := ⟨by omega, by omega⟩
          have HX3 := Lib.hid hX2
          clear hX2 hg2 hg2e hsd hfl hny
          go_wp2_with fail
          refine (FT.out _).mono ?_; rintro e w3 ⟨rfl, hb3⟩
          have HB3 := Lib.hid (bstep HBn.out hb3)
          have HO3 := Lib.hid (HOn.out.go hb3); clear hb3
          have e1 : (w3.alloc (.cells #[.int .i64 yk, .string ys, .int .i64 (n : Int)] 37)).heap.size = w3.heap.size + 1 := by simp
          have BX4 := BoxT.new (w3.alloc (.cells #[.int .i64 yk, .string ys, .int .i64 (n : Int)] 37)) (.int .i64 yk) (.string ys) (.int .i64 (n : Int))
          rw [e1] at BX4
          have B4 : Below w3.heap.size w3 ((w3.alloc (.cells #[.int .i64 yk, .string ys, .int .i64 (n : Int)] 37)).alloc (.cells #[.int .i64 yk, .string ys, .int .i64 (n : Int)] 37)) := bstep (below_alloc _ _) (below_alloc _ _)
          have HB4 := Lib.hid (bstep HB3.out B4)
          have HO4 := Lib.hid (HO3.out.go B4)
          have HBX4 := Lib.hid BX4
          clear e1 BX4 B4
          go_wp2_with (at_builtin; refine tok_app rfl (.tmp 27) (.tmp 29) rfl (t := (yk, ys, n)) rfl HO4.out rfl HBX4.out hL ?_; intro v' w4 hown4 hkeep)
          have HO5 := Lib.hid hown4
          have HB5 := Lib.hid (hkeep w2 w2.heap.size (Nat.le_refl _) HB4.out)
          obtain ⟨o6, c6, rfl⟩ := hown4.shape
          obtain ⟨k1, hk1⟩ : ∃ k, k = (L ++ [(yk, ys, n)]).length := ⟨_, rfl⟩
          rw [← hk1] at HO5 ⊢
          rw [List.length_append, List.length_singleton] at hk1
          have hk2 : k1 ≤ 2001 := by omega
          clear hown4 hkeep
          by_cases hl : L.length = 2000
          · have HR : Hid (x = ([], 0, 2)) := by show _ = _; rw [HX3.out, if_pos hl]
            have l0 : decide (2000 < (k1 : Int)) = true := decide_eq_true (by omega)
            clear hk1 hl
            go_simp
            go_wp2_with fail
            refine bodyPost_ret (v := .tuple #[.slice none 0 0, .int .i64 0, .int .i64 2]) (by simp [results, Tryz.f7, go_sem]) rfl ⟨.slice none 0 0, by rw [HR.out]; rfl, by rw [HR.out]; exact OwnT.nil HB5.out.size, HB5.out⟩
          · have l0 : decide (2000 < (k1 : Int)) = false := decide_eq_false (by omega)
            have HX4 : Hid (x = scanL s f (n + yn + g2) (L ++ [(yk, ys, n)])) := by show _ = _; rw [HX3.out, if_neg hl]
            have HLL : Hid (L.length + 1 ≤ 2000) := by show _ ≤ _; omega
            clear HX3 hk1 hl
            go_simp
            go_wp2_with fail
            refine (GA2.out _).mono ?_; rintro e w5 ⟨rfl, rfl⟩
            go_wp2_with fail
            go_roundw
            case rel => exact ⟨n + yn + g2, f, L ++ [(yk, ys, n)], congrArg (Value.int .i64) (by omega), hn2, HM.out.1, HX4, HO5, HB5, by have h9 := HLL.out; rw [List.length_append]; exact h9⟩
            case measure => have := HM.out.2; simp [intOf]; omega
      · have hX2 := HXn.out
        rw [scanL, if_neg hlt] at hX2
        have HR := Lib.hid hX2
        clear hX2 HXn
        go_wp2_with fail
        refine bodyPost_ret (v := .tuple #[.slice o5 L.length c5, .int .i64 0, .int .i64 0]) (by simp [results, Tryz.f7, go_sem]) rfl ⟨.slice o5 L.length c5, by rw [HR.out]; rfl, by rw [HR.out]; exact HOn.out, HBn.out⟩
end Go.Proofs.YtegobakoflbnfaaGreatDoor

namespace Go.Proofs.YtegobakoflbnfaaGreatDoor
open Go Go.RowKit

theorem scanL_len (s : ByteArray) : ∀ (f n : Nat) (acc : List Tk), acc.length ≤ 2000 → (scanL s f n acc).1.length ≤ 2000
  | 0, _, acc, h => by rw [scanL]; exact h
  | f + 1, n, acc, h => by
    rw [scanL]
    split
    · split
      · exact Nat.zero_le _
      · split
        · exact Nat.zero_le _
        · rename_i h1 h2 h3
          exact scanL_len s f _ _ (by rw [List.length_append, List.length_singleton]; omega)
    · exact h
theorem scanT_len (s : ByteArray) : (scanT s).1.length ≤ 2000 := by
  unfold scanT
  split
  · exact Nat.zero_le _
  · exact scanL_len s _ _ _ (Nat.zero_le _)
theorem sameB_self (st : Bool) : ∀ L : List Tk, sameB st L L = true
  | [] => by cases st <;> rfl
  | t :: L => by
    have := sameB_self st L
    simp [sameB, this]
/-- the two scans and the comparison of what they answer, in whatever world -/
theorem scans_same (w : World) (s : ByteArray) (hs : s.size ≤ 140737488355328) (hm : MaxL w) (hp : Pow10 w) : ∃ L n e, L.length ≤ 2000 ∧
    (∀ W, Below w.heap.size w W → Calls Tryz.prog 6 #[.string s] W (RetScan W (L, n, e))) ∧ (∀ W, Calls Tryz.prog 7 #[.string s] W (RetScan W (L, n, e))) ∧
    (∀ W v1 v2, TokAt W v1 L → TokAt W v2 L → Calls Tryz.prog 8 #[v1, v2, .bool true] W fun e w' => e = .returned (.bool true) ∧ Below W.heap.size W w') := by
  have hl := scanT_len s
  have h6 := fun W (hb : Below w.heap.size w W) => scan_any W s hs (hm.go hb) (hp.go hb)
  have h7 := fun W => rscan_any W s hs
  obtain ⟨⟨L, n, e⟩, hx⟩ : ∃ x, x = scanT s := ⟨_, rfl⟩
  rw [← hx] at hl
  refine ⟨L, n, e, hl, fun W hb => by rw [hx]; exact h6 W hb, fun W => by rw [hx]; exact h7 W, fun W v1 v2 t1 t2 => ?_⟩
  have := same_any W v1 v2 L L true t1 t2 hl hl
  rw [sameB_self] at this
  exact this
set_option maxHeartbeats 6400000 in
set_option maxRecDepth 100000 in
theorem scans_any (w : World) (s : ByteArray) (hs : s.size ≤ 140737488355328) (hm : MaxL w) (hp : Pow10 w) : Calls Tryz.prog 3 #[.string s] w fun e w' => e = .returned (.bool true) ∧ Below w.heap.size w w' := by
  have AL : Hid (∀ W, Below w.heap.size w W → Calls Tryz.prog 9 #[] W fun e w' => e = .returned (.bool true) ∧ Below W.heap.size W w') := fun W hb => alive_any W (hm.go hb) (hp.go hb)
  obtain ⟨L, n, e, hl, h6, h7, h8⟩ := scans_same w s hs hm hp
  have S6 := Lib.hid h6; have S7 := Lib.hid h7; have S8 := Lib.hid h8
  have n1 : ((n : Int) == (n : Int)) = true := beq_self_eq_true _
  have e1 : (e == e) = true := beq_self_eq_true _
  clear hs hm hp hl h6 h7 h8
  go_enter Tryz.func3, Tryz.ntmps3
  go_wp2_with fail
  refine (S6.out _ (Below.refl _ _)).mono ?_; rintro e' w1 ⟨v1, rfl, ho1, hb1⟩
  have T1 := Lib.hid ho1.tokAt
  have B1 := Lib.hid hb1; clear ho1 hb1
  go_wp2_with fail
  refine (S7.out _).mono ?_; rintro e' w2 ⟨v2, rfl, ho2, hb2⟩
  have T2 := Lib.hid ho2.tokAt
  have T1' := Lib.hid (T1.out.go hb2)
  have B2 := Lib.hid (bstep B1.out hb2); clear ho2 hb2
  obtain ⟨o1, c1, rfl, -⟩ := T1.out
  obtain ⟨o2, c2, rfl, -⟩ := T2.out
  clear T1
  go_wp2_with fail
  refine (S8.out _ _ _ T1'.out T2.out).mono ?_; rintro e' w3 ⟨rfl, hb3⟩
  have B3 := Lib.hid (bstep B2.out hb3); clear hb3
  go_wp2_with fail
  refine (AL.out _ B3.out).mono ?_; rintro e' w4 ⟨rfl, hb4⟩
  have HB := Lib.hid (bstep B3.out hb4); clear hb4
  go_wp2_with fail
  go_ret
  exact ⟨rfl, HB.out⟩
end Go.Proofs.YtegobakoflbnfaaGreatDoor

namespace Go.Proofs.YtegobakoflbnfaaGreatDoor
open Go Go.RowKit

theorem bytes_conv {W : World} {base : Nat} {v : Value} {l : List UInt8} (h : QA.Bytes W base v l) : (convert 30 9 v).run Tryz.prog W = .ok (.string ⟨l.toArray⟩) W := by
  rcases h.2 with ⟨rfl, h0⟩ | ⟨g, cap, cur, rfl, _⟩
  · obtain rfl := List.length_eq_zero_iff.1 h0
    exact run_convert_bytes_nil W 30 5 Tryz.underlying30 Tryz.underlying5 0 0 9 Tryz.underlying9
  · refine run_convert_bytes_back W 30 9 5 _ cap l Tryz.underlying30 Tryz.underlying5 Tryz.underlying9 fun j hj => ?_
    refine World.ownsRow.cells h (g := g) rfl j _ ?_
    simp [QA.bv, hj]
set_option maxRecDepth 100000 in
theorem bytes_app {ops : Array Oper} {rest : List Oper} {o : Oper} {a : Act} {w : World} {Q : Exit → Act → World → Prop} (hgd : o.guard = none) (sl x : Operand)
    (ho : o.op = .call { callee := .builtin .append, args := #[sl, x], argTypes := #[30, 9] }) {B : Nat} {v : Value} {L : List UInt8} {s : ByteArray} (hs : a.eval sl = v) (hown : QA.Bytes w B v L) (hB : B ≤ w.heap.size)
    (hx : a.eval x = .string s) (hL : L.length + s.size ≤ 140737488355328)
    (h : ∀ v' w', QA.Bytes w' B v' (L ++ s.data.toList) → B ≤ w'.heap.size → (∀ W C, C ≤ B → Below C W w → Below C W w') → wpList Tryz.prog ops Q rest (a.put o.dst v') w') : wpList Tryz.prog ops Q (o :: rest) a w := by
  obtain ⟨i0, hi, hz0, hz1, hz2⟩ := info_parts QA.Tryz.info5
  refine Lib.wpList_append_own_string w hgd sl x 30 9 ho B 5 i0 Tryz.underlying30 Tryz.underlying9 hi hz0 hz1 hz2 v L.length (QA.bv L) hs hown s hx (by unfold maxLen; omega) hL hB ?_
  intro v' w' h1 h2 _
  have hk : ∀ W C, C ≤ B → Below C W w → Below C W w' := fun W C hC hb => hb.grown h2 (Nat.le_trans hC hB) (fun k hk => Nat.le_trans hC (World.ownsRow.lt hown k hk).1)
  refine h v' w' ?_ (Nat.le_trans hB (hk w 0 (Nat.zero_le _) (Below.refl 0 w)).size) hk
  unfold QA.Bytes
  rw [List.length_append, Array.length_toList, QA.bv_append]
  exact h1
end Go.Proofs.YtegobakoflbnfaaGreatDoor
