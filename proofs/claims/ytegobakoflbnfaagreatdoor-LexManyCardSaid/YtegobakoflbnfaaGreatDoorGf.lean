/- The reference's run at any place, for digits or for words. The reference's space. The reference's symbols and IsString. The reference's next token, as a function on lists: words, numbers, strings as the program reads them. What is read can be written: decimals. -/
import Derived.Test.YtegobakoflbnfaaGreatDoorGd
import Derived.Test.YtegobakoflbnfaaGreatDoorGe
namespace Go.Proofs.YtegobakoflbnfaaGreatDoor
open Go Go.RowKit

def runP (d : Bool) (b : UInt8) : Bool := isDg b.toNat || (!d && (isLet b.toNat || decide (b.toNat = 95)))
theorem runP_false : runP false = wordP := by funext b; simp [runP, wordP, Bool.or_assoc]
theorem runP_true (b : UInt8) : runP true b = isDg b.toNat := by simp [runP]

set_option maxHeartbeats 4000000 in
set_option maxRecDepth 100000 in
theorem rrun_at (w : World) (s : ByteArray) (hs : s.size ≤ 140737488355328) (a : Nat) (ha : a ≤ s.size) (dg : Bool) : Calls Tryz.prog 29 #[.string s, .int .i64 (a : Int), .bool dg] w fun e w' => e = .returned (.int .i64 (pre (runP dg) (s.data.toList.drop a) : Nat)) ∧ w' = w := by
  have DA := Lib.hid (fun c => digit_any w c)
  have LA := Lib.hid (fun c => letter_any w c)
  have HA0 := Lib.hid ha
  go_enter Tryz.func29, Tryz.ntmps29
  go_wp2_with fail
  go_loopw [7] (fun v7 wr => ∃ n : Nat, v7 = .int .i64 (n : Int) ∧ a + n ≤ s.size ∧ wr = w ∧ Hid (((s.data.toList.drop a).take n).all (runP dg) = true)) (fun v7 _ => s.size - (intOf v7).toNat)
  case atStart => exact ⟨0, rfl, ha, rfl, rfl⟩
  case round =>
    obtain ⟨n, rfl, hn, rfl, HA⟩ := hrel
    have hsz : s.data.toList.length = s.size := Array.length_toList
    have hdl : (s.data.toList.drop a).length = s.size - a := by rw [List.length_drop, hsz]
    have HW0 := Lib.hid (wadd (a := a) (b := n) (by omega))
    by_cases hlt : a + n < s.size
    · have hb := Lib.data_getElem? s (a + n) hlt
      obtain ⟨b, hbe⟩ : ∃ b, b = s[a + n] := ⟨_, rfl⟩
      rw [← hbe] at hb
      have hbd : (s.data.toList.drop a)[n]? = some b := by rw [List.getElem?_drop]; exact hb
      have hbi : (s[a + n].toNat : Int) = (b.toNat : Int) := by rw [hbe]
      have HEND : Hid (runP dg b = false → n = pre (runP dg) (s.data.toList.drop a)) := fun h => (pre_at (runP dg) _ n HA.out (by omega) (.inr ⟨b, hbd, h⟩)).symm
      have HGO : Hid (runP dg b = true → ((s.data.toList.drop a).take (n + 1)).all (runP dg) = true) := fun h => by
        rw [List.take_add_one, hbd, List.all_append, HA.out]; simp [h]
      have HW := Lib.hid (wadd (a := n) (b := 1) (by omega))
      have HLT := Lib.hid hlt
      have D := Lib.hid (DA.out b.toNat)
      have L := Lib.hid (LA.out b.toNat)
      have hl2 : ((a + n : Nat) : Int) < (s.size : Int) := by omega
      clear hb hsz hbd hdl
      cases hd : isDg b.toNat
      · rw [hd] at D
        cases dg
        · cases hl : isLet b.toNat
          · rw [hl] at L
            by_cases h95 : b.toNat = 95
            · have h0 : ((b.toNat : Int) == 95) = true := by rw [beq_iff_eq]; omega
              have HG2 := Lib.hid (HGO.out (by unfold runP; rw [hd, hl, h95]; rfl))
              clear hd hl h95
              go_wp2_with fail
              refine D.out.mono ?_; rintro e w2 ⟨rfl, rfl⟩
              go_wp2_with fail
              refine L.out.mono ?_; rintro e w2 ⟨rfl, rfl⟩
              go_wp2_with fail
              go_roundw
              case rel => exact ⟨n + 1, by first | exact congrArg (Value.int .i64) (by omega) | go_num, HLT.out, trivial, HG2⟩
              case measure => have := HLT.out; simp [intOf]; omega
            · have h0 : ((b.toNat : Int) == 95) = false := by rw [beq_eq_false_iff_ne]; omega
              have HG2 := Lib.hid (HEND.out (by unfold runP; rw [hd, hl, decide_eq_false h95]; rfl))
              clear hd hl h95
              go_wp2_with fail
              refine D.out.mono ?_; rintro e w2 ⟨rfl, rfl⟩
              go_wp2_with fail
              refine L.out.mono ?_; rintro e w2 ⟨rfl, rfl⟩
              go_wp2_with fail
              go_ret
              exact ⟨by rw [← HG2.out]; rfl, rfl⟩
          · rw [hl] at L
            have HG2 := Lib.hid (HGO.out (by unfold runP; rw [hd, hl]; rfl))
            clear hd hl
            go_wp2_with fail
            refine D.out.mono ?_; rintro e w2 ⟨rfl, rfl⟩
            go_wp2_with fail
            refine L.out.mono ?_; rintro e w2 ⟨rfl, rfl⟩
            go_wp2_with fail
            go_roundw
            case rel => exact ⟨n + 1, by first | exact congrArg (Value.int .i64) (by omega) | go_num, HLT.out, trivial, HG2⟩
            case measure => have := HLT.out; simp [intOf]; omega
        · have HG2 := Lib.hid (HEND.out (by unfold runP; rw [hd]; rfl))
          clear hd
          go_wp2_with fail
          refine D.out.mono ?_; rintro e w2 ⟨rfl, rfl⟩
          go_wp2_with fail
          go_ret
          exact ⟨by rw [← HG2.out]; rfl, rfl⟩
      · rw [hd] at D
        have HG2 := Lib.hid (HGO.out (by unfold runP; rw [hd]; rfl))
        clear hd
        go_wp2_with fail
        refine D.out.mono ?_; rintro e w2 ⟨rfl, rfl⟩
        go_wp2_with fail
        go_roundw
        case rel => exact ⟨n + 1, by first | exact congrArg (Value.int .i64) (by omega) | go_num, HLT.out, trivial, HG2⟩
        case measure => have := HLT.out; simp [intOf]; omega
    · have hns : a + n = s.size := by omega
      have HG2 : Hid (n = pre (runP dg) (s.data.toList.drop a)) := (pre_at (runP dg) _ n HA.out (by omega) (.inl (by rw [List.getElem?_eq_none (by omega)]))).symm
      have hl2 : ¬ ((a + n : Nat) : Int) < (s.size : Int) := by omega
      clear hlt hsz hdl hns
      go_wp2_with fail
      go_ret
      exact ⟨by rw [← HG2.out]; rfl, rfl⟩
end Go.Proofs.YtegobakoflbnfaaGreatDoor

namespace Go.Proofs.YtegobakoflbnfaaGreatDoor
open Go Go.RowKit

theorem drop_at {s : ByteArray} {k : Nat} (h : k < s.size) : s.data.toList.drop k = s[k] :: s.data.toList.drop (k + 1) := by
  have hb := Lib.data_getElem? s k h
  obtain ⟨hl, he⟩ := List.getElem?_eq_some_iff.1 hb
  rw [List.drop_eq_getElem_cons hl, he]
theorem u8_of {b : UInt8} {n : Nat} (_ : n < 256) (h : b.toNat = n) : b = UInt8.ofNat n := by
  rw [← h, UInt8.ofNat_toNat]
theorem u8_ne {b : UInt8} {n : Nat} (hn : n < 256) (h : b.toNat ≠ n) : (b == UInt8.ofNat n) = false := by
  rw [beq_eq_false_iff_ne]
  rintro rfl
  exact h (by simp only [UInt8.toNat_ofNat']; exact Nat.mod_eq_of_lt hn)

set_option maxHeartbeats 4000000 in
set_option maxRecDepth 100000 in
theorem rspace_any (w : World) (s : ByteArray) (hs : s.size ≤ 140737488355328) (a : Nat) (ha : a ≤ s.size) : Calls Tryz.prog 14 #[.string s, .int .i64 (a : Int)] w fun e w' => e = .returned (.int .i64 (gG false (s.data.toList.drop a) : Nat)) ∧ w' = w := by
  have HA0 := Lib.hid ha
  obtain ⟨l, hl⟩ : ∃ l, l = s.data.toList := ⟨_, rfl⟩
  rw [← hl]
  have HL := Lib.hid hl
  clear hl
  go_enter Tryz.func14, Tryz.ntmps14
  go_wp2_with fail
  go_loopw [5] (fun v5 wr => ∃ n : Nat, v5 = .int .i64 (n : Int) ∧ a + n ≤ s.size ∧ wr = w ∧ Hid (gG false (l.drop a) = n + gG false (l.drop (a + n)))) (fun v5 _ => s.size - (intOf v5).toNat)
  case atStart => exact ⟨0, rfl, ha, rfl, by show _ = _; rw [Nat.zero_add, Nat.add_zero]⟩
  case round =>
    obtain ⟨n, rfl, hn, rfl, HA⟩ := hrel
    have HW0 := Lib.hid (wadd (a := a) (b := n) (by omega))
    by_cases hlt : a + n < s.size
    · have hd : l.drop (a + n) = s[a + n] :: l.drop (a + n + 1) := by rw [HL.out]; exact drop_at hlt
      obtain ⟨b, hbe⟩ : ∃ b, b = s[a + n] := ⟨_, rfl⟩
      rw [← hbe] at hd
      have hbi : (s[a + n].toNat : Int) = (b.toNat : Int) := by rw [hbe]
      have HW := Lib.hid (wadd (a := n) (b := 1) (by omega))
      have HW2 := Lib.hid (wadd (a := a + n) (b := 1) (by omega))
      have HLT := Lib.hid hlt
      have hl2 : ((a + n : Nat) : Int) < (s.size : Int) := by omega
      have HD := Lib.hid hd
      clear hd
      by_cases hws : b.toNat = 32 ∨ b.toNat = 9 ∨ b.toNat = 10
      · have HG : Hid (gG false (l.drop a) = (n + 1) + gG false (l.drop (a + (n + 1)))) := by
          show _ = _
          have : isWs b = true := by
            rcases hws with h | h | h <;> (rw [u8_of (by decide) h]; decide)
          rw [HA.out, HD.out, gG, this, if_pos rfl, Nat.add_assoc a n 1]; omega
        rcases Nat.decEq b.toNat 32 with h32 | h32
        · have e32 : ((b.toNat : Int) == 32) = false := by rw [beq_eq_false_iff_ne]; omega
          rcases Nat.decEq b.toNat 9 with h9 | h9
          · have e9 : ((b.toNat : Int) == 9) = false := by rw [beq_eq_false_iff_ne]; omega
            have e10 : ((b.toNat : Int) == 10) = true := by rw [beq_iff_eq]; omega
            clear hws h32 h9
            go_wp2_with fail
            go_roundw
            case rel => exact ⟨n + 1, by first | exact congrArg (Value.int .i64) (by omega) | go_num, HLT.out, trivial, HG⟩
            case measure => have := HLT.out; simp [intOf]; omega
          · have e9 : ((b.toNat : Int) == 9) = true := by rw [beq_iff_eq]; omega
            clear hws h32 h9
            go_wp2_with fail
            go_roundw
            case rel => exact ⟨n + 1, by first | exact congrArg (Value.int .i64) (by omega) | go_num, HLT.out, trivial, HG⟩
            case measure => have := HLT.out; simp [intOf]; omega
        · have e32 : ((b.toNat : Int) == 32) = true := by rw [beq_iff_eq]; omega
          clear hws h32
          go_wp2_with fail
          go_roundw
          case rel => exact ⟨n + 1, by first | exact congrArg (Value.int .i64) (by omega) | go_num, HLT.out, trivial, HG⟩
          case measure => have := HLT.out; simp [intOf]; omega
      · have hws' : isWs b = false := by
          unfold isWs
          have h1 := u8_ne (n := 32) (by decide) (fun h => hws (.inl h))
          have h2 := u8_ne (n := 9) (by decide) (fun h => hws (.inr (.inl h)))
          have h3 := u8_ne (n := 10) (by decide) (fun h => hws (.inr (.inr h)))
          have h1 : (b == 32) = false := h1
          have h2 : (b == 9) = false := h2
          have h3 : (b == 10) = false := h3
          rw [h1, h2, h3]; rfl
        have e32 : ((b.toNat : Int) == 32) = false := by rw [beq_eq_false_iff_ne]; omega
        have e9 : ((b.toNat : Int) == 9) = false := by rw [beq_eq_false_iff_ne]; omega
        have e10 : ((b.toNat : Int) == 10) = false := by rw [beq_eq_false_iff_ne]; omega
        have HWS := Lib.hid hws'
        clear hws hws'
        rcases Nat.decEq b.toNat 47 with h47 | h47
        · have e47 : ((b.toNat : Int) == 47) = false := by rw [beq_eq_false_iff_ne]; omega
          have HG : Hid (gG false (l.drop a) = n) := by
            show _ = _
            have : (b == 47) = false := u8_ne (n := 47) (by decide) h47
            rw [HA.out, HD.out, gG, HWS.out, this]; rfl
          clear h47
          go_wp2_with fail
          go_ret
          exact ⟨by rw [HG.out]; rfl, rfl⟩
        · have e47 : ((b.toNat : Int) == 47) = true := by rw [beq_iff_eq]; omega
          have HB : Hid (b = 47) := u8_of (by decide) h47
          clear h47
          by_cases hl3 : a + n + 1 < s.size
          · have hl4 : ((a + n + 1 : Nat) : Int) < (s.size : Int) := by omega
            have hd2 : l.drop (a + n + 1) = s[a + n + 1] :: l.drop (a + n + 1 + 1) := by rw [HL.out]; exact drop_at hl3
            obtain ⟨c, hce⟩ : ∃ c, c = s[a + n + 1] := ⟨_, rfl⟩
            rw [← hce] at hd2
            have hci : (s[a + n + 1].toNat : Int) = (c.toNat : Int) := by rw [hce]
            have HD2 := Lib.hid hd2
            have HL3 := Lib.hid hl3
            clear hd2
            rcases Nat.decEq c.toNat 47 with h47 | h47
            · have e47b : ((c.toNat : Int) == 47) = false := by rw [beq_eq_false_iff_ne]; omega
              have HG : Hid (gG false (l.drop a) = n) := by
                show _ = _
                have : (47 == c) = false := by
                  have := u8_ne (n := 47) (by decide) h47
                  rw [beq_eq_false_iff_ne] at this ⊢
                  exact fun h => this h.symm
                rw [HA.out, HD.out, gG, HWS.out, HD2.out, hp_cons, this, Bool.and_false]; rfl
              clear h47
              go_wp2_with fail
              go_ret
              exact ⟨by rw [HG.out]; rfl, rfl⟩
            · have e47b : ((c.toNat : Int) == 47) = true := by rw [beq_iff_eq]; omega
              have HC : Hid (c = 47) := u8_of (by decide) h47
              have HG : Hid (gG false (l.drop a) = n + gG true (l.drop (a + n))) := by
                show _ = _
                have hc := HC.out
                have hb := HB.out
                have hw2 := HWS.out
                rw [HA.out, HD.out, HD2.out, hc, hb, gG, gG, ← hb, hw2, hb, hp_cons]; rfl
              clear h47
              go_wp2_with fail
              go_loopw [5] (fun v5 wr2 => ∃ m : Nat, v5 = .int .i64 (m : Int) ∧ n ≤ m ∧ a + m ≤ s.size ∧ wr2 = wr ∧ Hid (gG false (l.drop a) = m + gG true (l.drop (a + m)))) (fun v5 _ => s.size - (intOf v5).toNat)
              case atStart => exact ⟨n, rfl, Nat.le_refl _, hn, rfl, HG⟩
              case round =>
                obtain ⟨m, rfl, hnm, hm, rfl, HA2⟩ := hrel
                have HV0 := Lib.hid (wadd (a := a) (b := m) (by omega))
                by_cases hmt : a + m < s.size
                · have hd3 : l.drop (a + m) = s[a + m] :: l.drop (a + m + 1) := by rw [HL.out]; exact drop_at hmt
                  obtain ⟨d, hde⟩ : ∃ d, d = s[a + m] := ⟨_, rfl⟩
                  rw [← hde] at hd3
                  have hdi : (s[a + m].toNat : Int) = (d.toNat : Int) := by rw [hde]
                  have HV := Lib.hid (wadd (a := m) (b := 1) (by omega))
                  have HMT := Lib.hid hmt
                  have hm2 : ((a + m : Nat) : Int) < (s.size : Int) := by omega
                  have HD3 := Lib.hid hd3
                  clear hd3
                  rcases Nat.decEq d.toNat 10 with h10 | h10
                  · have f10 : ((d.toNat : Int) == 10) = false := by rw [beq_eq_false_iff_ne]; omega
                    have HG3 : Hid (gG false (l.drop a) = (m + 1) + gG true (l.drop (a + (m + 1)))) := by
                      show _ = _
                      have : (d != 10) = true := by
                        have := u8_ne (n := 10) (by decide) h10
                        have this : (d == 10) = false := this
                        unfold bne; rw [this]; rfl
                      rw [HA2.out, HD3.out, gG, this, Nat.add_assoc a m 1]; omega
                    clear h10
                    go_wp2_with fail
                    go_roundw
                    case rel => exact ⟨m + 1, by first | exact congrArg (Value.int .i64) (by omega) | go_num, by omega, HMT.out, trivial, HG3⟩
                    case measure => have := HMT.out; simp [intOf]; omega
                  · have f10 : ((d.toNat : Int) == 10) = true := by rw [beq_iff_eq]; omega
                    have HG3 : Hid (gG false (l.drop a) = m + gG false (l.drop (a + m))) := by
                      show _ = _
                      have h := u8_of (by decide) h10
                      rw [HA2.out, HD3.out, h]; rfl
                    have HNM : Hid (n < m) := by
                      rcases Nat.lt_or_eq_of_le hnm with h | h
                      · exact h
                      · subst h
                        have h1 := HD.out
                        rw [HD3.out, HB.out, u8_of (by decide) h10] at h1
                        exact absurd (List.cons.inj h1).1 (by decide)
                    clear h10
                    go_wp2_with fail
                    go_roundw
                    case rel => exact ⟨m, by first | rfl | go_num, hm, trivial, HG3⟩
                    case measure => have := HMT.out; have := HNM.out; simp [intOf]; omega
                · have hm2 : ¬ ((a + m : Nat) : Int) < (s.size : Int) := by omega
                  have HG3 : Hid (gG false (l.drop a) = m + gG false (l.drop (a + m))) := by
                    show _ = _
                    rw [HA2.out, List.drop_eq_nil_of_le (by rw [HL.out, Array.length_toList]; exact Nat.not_lt.1 hmt)]; rfl
                  have HNM : Hid (n < m) := by
                    have := HLT.out
                    show n < m
                    omega
                  clear hmt
                  go_wp2_with fail
                  go_roundw
                  case rel => exact ⟨m, by first | rfl | go_num, hm, trivial, HG3⟩
                  case measure => have := HNM.out; have := HLT.out; simp [intOf]; omega
          · have hl4 : ¬ ((a + n + 1 : Nat) : Int) < (s.size : Int) := by omega
            have HG : Hid (gG false (l.drop a) = n) := by
              show _ = _
              rw [HA.out, HD.out, gG, HWS.out, List.drop_eq_nil_of_le (by rw [HL.out, Array.length_toList]; exact Nat.not_lt.1 hl3), hp_nil, Bool.and_false]; rfl
            clear hl3
            go_wp2_with fail
            go_ret
            exact ⟨by rw [HG.out]; rfl, rfl⟩
    · have HG2 : Hid (gG false (l.drop a) = n) := by
        show _ = _
        rw [HA.out, List.drop_eq_nil_of_le (by rw [HL.out, Array.length_toList]; show s.size ≤ _; omega)]; rfl
      have hl2 : ¬ ((a + n : Nat) : Int) < (s.size : Int) := by omega
      clear hlt
      go_wp2_with fail
      go_ret
      exact ⟨by rw [HG2.out]; rfl, rfl⟩
end Go.Proofs.YtegobakoflbnfaaGreatDoor

namespace Go.Proofs.YtegobakoflbnfaaGreatDoor
open Go Go.RowKit

def symsL : List (List UInt8) := [[61, 61], [60, 62], [60, 61], [62, 61], [40], [41], [91], [93], [123], [125], [44], [59], [58], [46], [61], [60], [62], [43], [45], [42], [47]]
def symsB : List ByteArray := symsL.map fun l => ⟨l.toArray⟩
theorem syms_cells : (symsB.map Value.string).toArray.size = 21 := by decide
set_option maxHeartbeats 4000000 in
set_option maxRecDepth 100000 in
theorem symbols_any (w : World) : Calls Tryz.prog 35 #[] w fun e w' => ∃ v, e = .returned v ∧ StrAt w' v symsB ∧ Below w.heap.size w w' := by
  have HB := Lib.hid (below_alloc w (.cells (symsB.map Value.string).toArray 9))
  have HS : Hid (StrAt (w.alloc (.cells (symsB.map Value.string).toArray 9)) (.slice (some ⟨w.heap.size, 0, none⟩) 21 21) symsB) := by
    refine ⟨w.heap.size, rfl, fun i hi => ?_⟩
    rw [cell_of_row _ _ _ _ _ _ (heap_alloc_new w _)]
    simp [hi]
  go_enter Tryz.func35, Tryz.ntmps35
  go_wp2_with fail
  go_ret
  exact ⟨_, rfl, HS.out, HB.out⟩

def strP (b : UInt8) : Bool := decide (32 ≤ b.toNat) && decide (b.toNat ≤ 126) && !decide (b.toNat = 34)
def isStrB (s : ByteArray) : Bool := decide (s.size ≤ 40) && s.data.toList.all strP
set_option maxHeartbeats 4000000 in
set_option maxRecDepth 100000 in
theorem isstring_any (w : World) (s : ByteArray) (hs : s.size ≤ 140737488355328) : Calls Tryz.prog 34 #[.string s] w fun e w' => e = .returned (.bool (isStrB s)) ∧ w' = w := by
  by_cases h40 : s.size ≤ 40
  · have t0 : ¬ (40 : Int) < (s.size : Int) := by omega
    have H40 := Lib.hid h40
    have HR : Hid (isStrB s = s.data.toList.all strP) := by show _ = _; unfold isStrB; rw [decide_eq_true h40]; rfl
    clear h40
    go_enter Tryz.func34, Tryz.ntmps34
    go_wp2_with fail
    go_loopw [3] (fun v3 wr => ∃ n : Nat, v3 = .int .i64 (n : Int) ∧ n ≤ s.size ∧ wr = w ∧ Hid (isStrB s = (s.data.toList.drop n).all strP)) (fun v3 _ => s.size - (intOf v3).toNat)
    case atStart => exact ⟨0, rfl, Nat.zero_le _, rfl, by show _ = _; rw [HR.out, List.drop_zero]⟩
    case round =>
      obtain ⟨n, rfl, hn, rfl, HA⟩ := hrel
      by_cases hlt : n < s.size
      · have hd := drop_at hlt
        obtain ⟨b, hbe⟩ : ∃ b, b = s[n] := ⟨_, rfl⟩
        rw [← hbe] at hd
        have hbi : (s[n].toNat : Int) = (b.toNat : Int) := by rw [hbe]
        have HW := Lib.hid (wadd (a := n) (b := 1) (by omega))
        have HLT := Lib.hid hlt
        have hl2 : (n : Int) < (s.size : Int) := by omega
        have HST : Hid (isStrB s = (strP b && (s.data.toList.drop (n + 1)).all strP)) := by show _ = _; rw [HA.out, hd]; rfl
        clear hd
        by_cases h1 : b.toNat < 32
        · have e1 : (b.toNat : Int) < 32 := by omega
          have HF : Hid (isStrB s = false) := by show _ = _; rw [HST.out]; unfold strP; rw [decide_eq_false (by omega)]; rfl
          clear h1
          go_wp2_with fail
          go_ret
          exact ⟨by rw [HF.out]; rfl, rfl⟩
        · have e1 : ¬ (b.toNat : Int) < 32 := by omega
          by_cases h2 : 126 < b.toNat
          · have e2 : (126 : Int) < (b.toNat : Int) := by omega
            have HF : Hid (isStrB s = false) := by show _ = _; rw [HST.out]; unfold strP; rw [decide_eq_true (by omega : 32 ≤ b.toNat), decide_eq_false (by omega : ¬ b.toNat ≤ 126)]; rfl
            clear h1 h2
            go_wp2_with fail
            go_ret
            exact ⟨by rw [HF.out]; rfl, rfl⟩
          · have e2 : ¬ (126 : Int) < (b.toNat : Int) := by omega
            by_cases h3 : b.toNat = 34
            · have e3 : ((b.toNat : Int) == 34) = true := by rw [beq_iff_eq]; omega
              have HF : Hid (isStrB s = false) := by show _ = _; rw [HST.out]; unfold strP; rw [decide_eq_true h3, Bool.not_true, Bool.and_false]; rfl
              clear h1 h2 h3
              go_wp2_with fail
              go_ret
              exact ⟨by rw [HF.out]; rfl, rfl⟩
            · have e3 : ((b.toNat : Int) == 34) = false := by rw [beq_eq_false_iff_ne]; omega
              have HF : Hid (isStrB s = (s.data.toList.drop (n + 1)).all strP) := by show _ = _; rw [HST.out]; unfold strP; rw [decide_eq_true (by omega : 32 ≤ b.toNat), decide_eq_true (by omega : b.toNat ≤ 126), decide_eq_false h3]; rfl
              clear h1 h2 h3
              go_wp2_with fail
              go_roundw
              case rel => exact ⟨n + 1, by first | exact congrArg (Value.int .i64) (by omega) | go_num, HLT.out, trivial, HF⟩
              case measure => have := HLT.out; simp [intOf]; omega
      · have HF : Hid (isStrB s = true) := by show _ = _; rw [HA.out, List.drop_eq_nil_of_le (by rw [Array.length_toList]; exact Nat.not_lt.1 hlt)]; rfl
        have hl2 : ¬ (n : Int) < (s.size : Int) := by omega
        clear hlt
        go_wp2_with fail
        go_ret
        exact ⟨by rw [HF.out]; rfl, rfl⟩
  · have t0 : (40 : Int) < (s.size : Int) := by omega
    have HR : Hid (isStrB s = false) := by show _ = _; unfold isStrB; rw [decide_eq_false h40]; rfl
    clear h40
    go_enter Tryz.func34, Tryz.ntmps34
    go_wp2_with fail
    go_ret
    exact ⟨by rw [HR.out]; rfl, rfl⟩
end Go.Proofs.YtegobakoflbnfaaGreatDoor

namespace Go.Proofs.YtegobakoflbnfaaGreatDoor
open Go Go.RowKit

theorem dig_cl : ∀ n : Fin 256, isDg n.val = decide (classN n.val = 4) := by decide +kernel
theorem dig_class (b : UInt8) : isDg b.toNat = decide (classN b.toNat = 4) := dig_cl ⟨b.toNat, b.toNat_lt⟩
theorem runP_dig : runP true = inC digC := by
  funext b
  rw [runP_true, dig_class]
  unfold inC digC
  simp
theorem runP_word : runP false = inC [3, 4, 5] := runP_false.trans word_class
theorem str_cl : ∀ n : Fin 256, (decide (32 ≤ n.val) && decide (n.val ≤ 126) && !decide (n.val = 34)) = decide (classN n.val ∈ strC) := by decide +kernel
theorem str_class : strP = inC strC := by
  funext b
  exact str_cl ⟨b.toNat, b.toNat_lt⟩
/-- a word as the reference reads it -/
def rwordL (l : List UInt8) : T3 :=
  if 20 < pre (runP false) l then noT else (if isKey (l.take (pre (runP false) l)) then 2 else 1, ⟨(l.take (pre (runP false) l)).toArray⟩, pre (runP false) l)
theorem rword_eq (l : List UInt8) : rwordL l = wordL l := by
  unfold rwordL wordL
  rw [runP_word]
def rplaces (l : List UInt8) (n : Nat) : Nat := if l[n]? = some 46 then pre (runP true) (l.drop (n + 1)) else 0
theorem rplaces_eq (l : List UInt8) (n : Nat) : rplaces l n = placesT l n := by
  unfold rplaces placesT
  rw [runP_dig]
  have : (l[n]? = some 46) ↔ Lib.hasPrefix (l.drop n) [46] = true := by
    rw [← List.head?_drop]
    cases l.drop n with
    | nil => rw [hp_nil]; simp
    | cons c t => rw [hp_cons, List.head?_cons, beq_iff_eq]; exact ⟨fun h => (Option.some.inj h).symm, fun h => congrArg some h.symm⟩
  by_cases h : l[n]? = some 46
  · rw [if_pos h, if_pos (this.1 h)]
  · rw [if_neg h, if_neg (fun h2 => h (this.2 h2))]
/-- a string as the reference reads it -/
def notQ (b : UInt8) : Bool := b != 34
def rquoL (l : List UInt8) : T3 :=
  if l.length ≤ 1 + pre notQ (l.drop 1) ∨ isStrB ⟨((l.drop 1).take (pre notQ (l.drop 1))).toArray⟩ = false then noT
  else (4, ⟨((l.drop 1).take (pre notQ (l.drop 1))).toArray⟩, pre notQ (l.drop 1) + 2)
theorem pre_sub {p q : UInt8 → Bool} (h : ∀ b, p b = true → q b = true) : ∀ l : List UInt8, pre p l ≤ pre q l
  | [] => Nat.le_refl _
  | c :: l => by
    cases hp : p c
    · rw [pre_no p c l hp]; exact Nat.zero_le _
    · rw [pre_yes p c l hp, pre_yes q c l (h c hp)]
      have := pre_sub h l
      omega
theorem pre_stop_at (p : UInt8 → Bool) : ∀ l : List UInt8, pre p l < l.length → ∃ c, l[pre p l]? = some c ∧ p c = false
  | [], h => absurd h (Nat.lt_irrefl _)
  | c :: l, h => by
    cases hp : p c
    · rw [pre_no p c l hp]; exact ⟨c, rfl, hp⟩
    · rw [pre_yes p c l hp] at h ⊢
      rw [List.length_cons] at h
      obtain ⟨d, h1, h2⟩ := pre_stop_at p l (by omega)
      exact ⟨d, by rw [List.getElem?_cons_succ]; exact h1, h2⟩
theorem str_notQ (b : UInt8) (h : inC strC b = true) : notQ b = true := by
  rw [← str_class] at h
  unfold strP at h
  unfold notQ
  cases hb : b != 34
  · have hb2 : b = 34 := by simpa using hb
    subst hb2
    simp at h
  · rfl
theorem all_take {p : UInt8 → Bool} {l : List UInt8} {n : Nat} (h : (l.take n).all p = true) (hn : n ≤ l.length) : n ≤ pre p l := by
  have h1 := pre_app p (l.take n) (l.drop n) h
  rw [List.take_append_drop, List.length_take] at h1
  omega
theorem rquo_eq (l : List UInt8) (hl : l ≠ []) : rquoL l = quoL l := by
  obtain ⟨t, c, rfl⟩ : ∃ t c, l = c :: t := by
    cases l with
    | nil => exact absurd rfl hl
    | cons c t => exact ⟨t, c, rfl⟩
  unfold rquoL quoL
  rw [show ∀ n, (c :: t).drop (1 + n) = t.drop n from fun n => by rw [Nat.add_comm, List.drop_succ_cons], List.drop_succ_cons, List.drop_zero, List.length_cons]
  have hsub := pre_sub str_notQ t
  have hjl := pre_le notQ t
  have hpl := pre_le (inC strC) t
  have hall := pre_all (inC strC) t
  obtain ⟨j, hj⟩ : ∃ j, j = pre notQ t := ⟨_, rfl⟩
  obtain ⟨p, hp⟩ : ∃ p, p = pre (inC strC) t := ⟨_, rfl⟩
  rw [← hj] at hsub hjl
  rw [← hp] at hsub hpl hall
  rw [← hj, ← hp]
  have hsz : (⟨(t.take j).toArray⟩ : ByteArray).size = j := by
    show (t.take j).toArray.size = j
    rw [List.size_toArray, List.length_take]; omega
  have hstr : isStrB ⟨(t.take j).toArray⟩ = (decide (j ≤ 40) && (t.take j).all (inC strC)) := by
    unfold isStrB
    rw [hsz, str_class]
  rw [hstr]
  by_cases hpj : p = j
  · subst hpj
    rw [hall, Bool.and_true]
    by_cases he : t.length ≤ p
    · rw [if_pos (.inl (by omega)), if_pos (.inr (by rw [List.drop_eq_nil_of_le he]; rfl))]
    · have hq : Lib.hasPrefix (t.drop p) [34] = true := by
        obtain ⟨d, h1, h2⟩ := pre_stop_at notQ t (by rw [← hj]; omega)
        rw [← hj] at h1
        have h3 : d = 34 := by
          unfold notQ at h2
          simpa using h2
        obtain ⟨h4, h5⟩ := List.getElem?_eq_some_iff.1 h1
        rw [List.drop_eq_getElem_cons h4, h5, h3, hp_cons]; rfl
      by_cases h40 : p ≤ 40
      · rw [if_neg (by rw [decide_eq_true h40]; exact fun h => h.elim (fun h => by omega) (fun h => by cases h)), if_neg (by rw [hq]; exact fun h => h.elim (fun h => by omega) (fun h => by cases h))]
      · rw [if_pos (.inr (decide_eq_false h40)), if_pos (.inl (by omega))]
  · have hno : (t.take j).all (inC strC) = false := by
      cases h : (t.take j).all (inC strC)
      · rfl
      · have := all_take h hjl
        omega
    rw [hno, Bool.and_false, if_pos (.inr rfl), if_pos]
    right
    obtain ⟨d, h1, h2⟩ := pre_stop_at (inC strC) t (by rw [← hp]; omega)
    rw [← hp] at h1
    obtain ⟨h4, h5⟩ := List.getElem?_eq_some_iff.1 h1
    rw [List.drop_eq_getElem_cons h4, h5, hp_cons]
    rw [beq_eq_false_iff_ne]
    intro hd
    have h6 : p = j := by
      rw [hj]
      refine (pre_at notQ t p ?_ hpl (.inr ⟨d, h1, by rw [← hd]; rfl⟩)).symm
      exact List.all_eq_true.2 fun x hx => str_notQ x (List.all_eq_true.1 hall x hx)
    exact hpj h6
end Go.Proofs.YtegobakoflbnfaaGreatDoor

namespace Go.Proofs.YtegobakoflbnfaaGreatDoor
open Go Go.RowKit

theorem dig_append {a b : List UInt8} (ha : Dig a) (hb : Dig b) : Dig (a ++ b) := by
  intro x hx
  rcases List.mem_append.1 hx with h | h
  · exact ha x h
  · exact hb x h
theorem dv_zero (l : List UInt8) : dv (48 :: l) = dv l := by
  unfold dv
  rw [dvA_cons]; rfl
theorem dig_noughts (n : Nat) : Dig (List.replicate n 48) := by
  intro b hb
  obtain ⟨_, rfl⟩ := List.mem_replicate.1 hb
  decide
theorem dec_step (n : Nat) (h : ¬ n < 10) : Lib.decDigits n = Lib.decDigits (n / 10) ++ [UInt8.ofNat (48 + n % 10)] := by
  rw [Lib.decDigits, dif_neg h]
theorem dg_byte {d : Nat} (h : d < 10) : (UInt8.ofNat (48 + d)).toNat = 48 + d := by
  rw [UInt8.toNat_ofNat']; omega
theorem dec_all : ∀ (n : Nat), Dig (Lib.decDigits n) ∧ Lib.decDigits n ≠ [] ∧ dv (Lib.decDigits n) = n := by
  intro n
  induction n using Nat.strongRecOn with
  | _ n ih =>
    by_cases h : n < 10
    · rw [Lib.decDigits_one h]
      refine ⟨fun b hb => ?_, by simp, ?_⟩
      · rw [List.mem_singleton] at hb
        subst hb
        rw [dg_byte h]; omega
      · unfold dv dvA
        rw [List.foldl_cons, List.foldl_nil, dg_byte h]; omega
    · obtain ⟨h1, h2, h3⟩ := ih (n / 10) (by omega)
      rw [dec_step n h]
      refine ⟨dig_append h1 (fun b hb => ?_), by simp, ?_⟩
      · rw [List.mem_singleton] at hb
        subst hb
        rw [dg_byte (by omega)]; omega
      · unfold dv dvA at h3 ⊢
        rw [List.foldl_append, h3, List.foldl_cons, List.foldl_nil, dg_byte (by omega)]; omega
theorem dec_dig (n : Nat) : Dig (Lib.decDigits n) := (dec_all n).1
theorem dec_ne (n : Nat) : Lib.decDigits n ≠ [] := (dec_all n).2.1
theorem dv_dec (n : Nat) : dv (Lib.decDigits n) = n := (dec_all n).2.2
theorem dec_len : ∀ (k n : Nat), n < 10 ^ (k + 1) → (Lib.decDigits n).length ≤ k + 1
  | 0, n, h => by
    rw [Lib.decDigits_one (by simpa using h)]; exact Nat.le_refl _
  | k + 1, n, h => by
    by_cases h10 : n < 10
    · rw [Lib.decDigits_one h10]; simp
    · rw [dec_step n h10, List.length_append]
      have := dec_len k (n / 10) (by rw [Nat.pow_succ] at h; omega)
      simp only [List.length_singleton]; omega
theorem dvA_add (l : List UInt8) : ∀ a : Nat, dvA a l = a * 10 ^ l.length + dv l := by
  induction l with
  | nil => intro a; unfold dv; rw [dvA_nil, dvA_nil]; simp
  | cons c r ih =>
    intro a
    unfold dv
    rw [dvA_cons, dvA_cons, ih, ih (0 * 10 + (c.toNat - 48)), List.length_cons, Nat.pow_succ, Nat.add_mul, Nat.add_mul, Nat.mul_assoc a, Nat.mul_comm 10]
    omega
theorem dv_app (a b : List UInt8) : dv (a ++ b) = dv a * 10 ^ b.length + dv b := by
  unfold dv
  unfold dvA
  rw [List.foldl_append]
  exact dvA_add b _
theorem rep_noughts (n : Nat) : Lib.repeatL [48] n = List.replicate n 48 := by
  induction n with
  | zero => rfl
  | succ n ih =>
    have e : Lib.repeatL [48] (n + 1) = [48] ++ Lib.repeatL [48] n := rfl
    rw [e, ih, List.replicate_succ]; rfl
theorem dv_noughts : ∀ (n : Nat) (l : List UInt8), dv (List.replicate n 48 ++ l) = dv l
  | 0, l => rfl
  | n + 1, l => by rw [List.replicate_succ, List.cons_append, dv_zero, dv_noughts n l]
theorem pad_dig (n d : Nat) : Dig (padL n d) := by
  unfold padL
  rw [rep_noughts]
  exact dig_append (dig_noughts _) (dec_dig n)
theorem dv_pad (n d : Nat) : dv (padL n d) = n := by
  unfold padL
  rw [rep_noughts, dv_noughts, dv_dec]
theorem pad_len {n d : Nat} (h : n < 10 ^ (d + 1)) : (padL n (d + 1)).length = d + 1 := by
  have := dec_len d n h
  unfold padL
  rw [List.length_append, Lib.repeatL_length]
  simp only [List.length_singleton]
  omega
theorem dec_small {n : Nat} (h : n < 10) : Lib.decDigits n = [UInt8.ofNat (48 + n)] := by
  rw [Lib.decDigits, dif_pos h]
theorem dec_head : ∀ (n : Nat), 0 < n → (Lib.decDigits n).head? ≠ some 48 := by
  intro n
  induction n using Nat.strongRecOn with
  | _ n ih =>
    intro h0
    by_cases h : n < 10
    · rw [dec_small h]
      intro h2
      have h3 : UInt8.ofNat (48 + n) = 48 := Option.some.inj h2
      have := dg_byte h
      rw [h3] at this
      have h9 : (48 : UInt8).toNat = 48 := rfl
      omega
    · rw [dec_step n h]
      have h1 := ih (n / 10) (by omega) (by omega)
      cases hl : Lib.decDigits (n / 10) with
      | nil => exact absurd hl (dec_ne _)
      | cons a t => rw [hl] at h1; exact h1
theorem dv_pos : ∀ (l : List UInt8), Dig l → l ≠ [] → l.head? ≠ some 48 → 0 < dv l
  | [], _, h, _ => absurd rfl h
  | c :: r, hd, _, h => by
    have hc := hd c (List.mem_cons_self ..)
    have h1 : c.toNat ≠ 48 := fun e => h (by rw [List.head?_cons]; exact congrArg some (by have := u8_of (n := 48) (by decide) e; exact this))
    unfold dv
    rw [dvA_cons, dvA_add]
    have h2 : 0 < (0 * 10 + (c.toNat - 48)) * 10 ^ r.length := Nat.mul_pos (by omega) (Nat.pow_pos (by omega))
    omega
/-- digits with no nought ahead are those of their number -/
theorem dec_of : ∀ (n : Nat) (l : List UInt8), l.length = n → Dig l → l ≠ [] → (l.length = 1 ∨ l.head? ≠ some 48) → Lib.decDigits (dv l) = l
  | n, l, hn, hd, hne, hh => by
    obtain ⟨r, c, rfl⟩ : ∃ r c, l = r ++ [c] := ⟨l.dropLast, l.getLast hne, (List.dropLast_concat_getLast hne).symm⟩
    have hc := hd c (by simp)
    have hv : dv (r ++ [c]) = dv r * 10 + (c.toNat - 48) := by
      rw [dv_app]; simp [dv, dvA_cons, dvA_nil]
    have hcb : UInt8.ofNat (48 + (c.toNat - 48)) = c := by rw [show 48 + (c.toNat - 48) = c.toNat by omega, UInt8.ofNat_toNat]
    by_cases hr : r = []
    · subst hr
      rw [hv, show dv [] = 0 from rfl, Nat.zero_mul, Nat.zero_add, dec_small (by omega), hcb]; rfl
    · have hlen : r.length < n := by rw [← hn]; simp
      have hhr : r.head? ≠ some 48 := by
        cases r with
        | nil => exact absurd rfl hr
        | cons a t =>
          rcases hh with h | h
          · simp at h
          · exact h
      have hdr : Dig r := fun x hx => hd x (by simp [hx])
      have hp := dv_pos r hdr hr hhr
      rw [hv, dec_step _ (by omega), show (dv r * 10 + (c.toNat - 48)) / 10 = dv r by omega, show (dv r * 10 + (c.toNat - 48)) % 10 = c.toNat - 48 by omega, hcb, dec_of r.length r rfl hdr hr (.inr hhr)]
termination_by n => n
theorem long_eq (N : Nat) : longL N = Lib.decDigits N := by
  unfold longL
  split
  · rename_i h
    rw [Nat.mod_eq_of_lt (by omega)]
  · rename_i h
    have hd : Dig (Lib.decDigits (N / 1000000000000000) ++ padL (N % 1000000000000000) 15) := by
      intro x hx
      rcases List.mem_append.1 hx with h | h
      · exact dec_dig _ x h
      · exact pad_dig _ _ x h
    have hne : Lib.decDigits (N / 1000000000000000) ++ padL (N % 1000000000000000) 15 ≠ [] := by
      intro h2
      exact dec_ne _ (List.append_eq_nil_iff.1 h2).1
    have h2 := dec_of _ _ rfl hd hne (.inr (by
      have := dec_head (N / 1000000000000000) (by omega)
      cases hl : Lib.decDigits (N / 1000000000000000) with
      | nil => exact absurd hl (dec_ne _)
      | cons a t => rw [hl] at this; exact this))
    rw [← h2, dv_app, dv_dec, dv_pad, pad_len (d := 14) (by have := Nat.mod_lt N (show 0 < 1000000000000000 by omega); exact this)]
    congr 1
    have := Nat.div_add_mod N 1000000000000000
    rw [show (10 : Nat) ^ (14 + 1) = 1000000000000000 from rfl, Nat.mul_comm]; exact this
end Go.Proofs.YtegobakoflbnfaaGreatDoor
