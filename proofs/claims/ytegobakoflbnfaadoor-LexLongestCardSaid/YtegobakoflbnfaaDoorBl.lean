/- blank: nothing but blanks, newlines and remarks. -/
import Derived.Test.YtegobakoflbnfaaDoorM2
import Derived.Test.YtegobakoflbnfaaDoorNum
namespace Go.Proofs.YtegobakoflbnfaaDoor
open Go Go.RowKit

def blankB (s : ByteArray) : Bool := decide (gG false s.data.toList = s.size)
theorem drop_cons {s : ByteArray} {i : Nat} (h : i < s.size) : s.data.toList.drop i = s[i] :: s.data.toList.drop (i + 1) := by
  have hl : s.data.toList.length = s.size := Array.length_toList
  rw [List.drop_eq_getElem_cons (by omega)]
  congr 1
theorem u8_eq {b : UInt8} {n : Nat} (h : b.toNat = n) : b = UInt8.ofNat n := by rw [← h, UInt8.ofNat_toNat]
theorem byte_ne {b : UInt8} {n : Nat} (h : b.toNat ≠ n) : ((b.toNat : Int) == (n : Int)) = false := by rw [beq_eq_false_iff_ne]; omega

set_option maxHeartbeats 6400000 in
set_option maxRecDepth 100000 in
theorem blank_any (w : World) (s : ByteArray) (hs : s.size ≤ 140737488355328) : Calls Tryd.prog 18 #[.string s] w fun e w' => e = .returned (.bool (blankB s)) ∧ w' = w := by
  obtain ⟨L, hL⟩ : ∃ L, L = s.data.toList := ⟨_, rfl⟩
  have hsz : L.length = s.size := by rw [hL]; exact Array.length_toList
  have hB : blankB s = decide (gG false L = s.size) := by rw [hL]; rfl
  have HD : Hid (∀ i, (h : i < s.size) → L.drop i = s[i] :: L.drop (i + 1)) := fun i h => by rw [hL]; exact drop_cons h
  have HB := Lib.hid hB
  have HSZ := Lib.hid hsz
  have HS := Lib.hid hs
  clear hL hB hsz hs
  go_enter Tryd.func18, Tryd.ntmps18
  go_wp2_with fail
  go_loopw [3] (fun v3 wr => ∃ i : Nat, v3 = .int .i64 (i : Int) ∧ i ≤ s.size + 1 ∧ wr = w ∧ Hid (gG false L = min i s.size + gG false (L.drop i))) (fun v3 _ => s.size + 1 - (intOf v3).toNat)
  case atStart => exact ⟨0, rfl, Nat.zero_le _, rfl, by show _ = _; rw [Nat.zero_min, Nat.zero_add]; rfl⟩
  case round =>
    obtain ⟨i, rfl, hi, rfl, HG⟩ := hrel
    by_cases hlt : i < s.size
    · have HC := Lib.hid (HD.out i hlt)
      obtain ⟨b, hbe⟩ : ∃ b, b = s[i] := ⟨_, rfl⟩
      rw [← hbe] at HC
      have hbi : (s[i].toNat : Int) = (b.toNat : Int) := by rw [hbe]
      have HW := Lib.hid (wnat (n := i) (by have := HS.out; omega))
      have HLT := Lib.hid hlt
      have hl2 : (i : Int) < (s.size : Int) := by omega
      have HG1 : Hid (gG false L = i + gG false (b :: L.drop (i + 1))) := by
        show _ = _
        rw [← HC.out, HG.out, Nat.min_eq_left (by omega)]
      clear HG hi hbe
      by_cases h47 : b.toNat = 47
      · have hb := u8_eq h47
        subst hb
        by_cases h2 : i + 1 < s.size
        · have HC2 := Lib.hid (HD.out (i + 1) h2)
          obtain ⟨d, hde⟩ : ∃ d, d = s[i + 1] := ⟨_, rfl⟩
          rw [← hde] at HC2
          have hdi : (s[i + 1].toNat : Int) = (d.toNat : Int) := by rw [hde]
          have hl3 : wrap64 ((i : Int) + 1) < (s.size : Int) := by rw [HW.out]; omega
          have HG2 : Hid (gG false L = i + gG false (47 :: d :: L.drop (i + 1 + 1))) := by
            show _ = _
            rw [← HC2.out]; exact HG1.out
          clear hde
          by_cases hd47 : d.toNat = 47
          · have hd := u8_eq hd47
            subst hd
            have HG3 : Hid (gG false L = i + gG true (L.drop i)) := by
              show _ = _
              rw [HC.out, HC2.out, HG2.out]; rfl
            have hi8 : i ≤ s.size := by omega
            clear HC HC2 hl3
            have hw := HW.out
            have hl3 : ((i + 1 : Nat) : Int) < (s.size : Int) := by omega
            go_wp2_with fail
            go_loopw [3] (fun v3 wr2 => ∃ j : Nat, v3 = .int .i64 (j : Int) ∧ j ≤ s.size ∧ i ≤ j ∧ wr2 = wr ∧ Hid (gG false L = j + gG true (L.drop j))) (fun v3 _ => s.size - (intOf v3).toNat)
            case atStart => exact ⟨i, rfl, hi8, Nat.le_refl _, rfl, HG3⟩
            case round =>
              obtain ⟨j, rfl, hj, hij, rfl, HGj⟩ := hrel
              clear hl2 hl3 hw hdi hbi HG3 HG2 HG1
              by_cases hjn : j < s.size
              · have HCj := Lib.hid (HD.out j hjn)
                obtain ⟨c, hce⟩ : ∃ c, c = s[j] := ⟨_, rfl⟩
                rw [← hce] at HCj
                have hcj : (s[j].toNat : Int) = (c.toNat : Int) := by rw [hce]
                have hj2 : (j : Int) < (s.size : Int) := by omega
                have HWj := Lib.hid (wnat (n := j) (by have := HS.out; omega))
                have HJN := Lib.hid hjn
                have HIJ := Lib.hid hij
                have HGj1 : Hid (gG false L = j + (1 + gG (c != 10) (L.drop (j + 1)))) := by
                  show _ = _
                  rw [HGj.out, HCj.out, gG]
                clear HGj HCj hce hj hij
                by_cases hc10 : c.toNat = 10
                · have hc := u8_eq hc10
                  subst hc
                  clear hc10
                  go_wp2_with fail
                  go_roundw
                  case rel => exact ⟨j + 1, by first | exact congrArg (Value.int .i64) HWj.out | go_num, by have := HJN.out; omega, by first | trivial | rfl, by
                    show _ = _
                    rw [HGj1.out, Nat.min_eq_left (by have := HJN.out; omega)]
                    show j + (1 + gG false (L.drop (j + 1))) = _
                    omega⟩
                  case measure => have := HJN.out; have := HIJ.out; first | (rw [HWj.out]; simp [intOf]; omega) | (simp [intOf]; omega)
                · have hcne : ((c.toNat : Int) == 10) = false := byte_ne (n := 10) hc10
                  have hcne2 : (c != 10) = true := by rw [bne_iff_ne]; rintro rfl; exact hc10 rfl
                  have HGj2 : Hid (gG false L = j + 1 + gG true (L.drop (j + 1))) := by
                    show _ = _
                    rw [HGj1.out, hcne2]; omega
                  have hcnb : ((c.toNat : Int) != 10) = true := by rw [bne_iff_ne]; omega
                  clear hc10 hcne2 HGj1
                  go_wp2_with fail
                  go_roundw
                  case rel => exact ⟨j + 1, by first | exact congrArg (Value.int .i64) HWj.out | go_num, HJN.out, by have := HIJ.out; omega, by first | trivial | rfl, HGj2⟩
                  case measure => have := HJN.out; first | (rw [HWj.out]; simp [intOf]; omega) | (simp [intOf]; omega)
              · have hjs : j = s.size := by omega
                subst hjs
                have HWj := Lib.hid (wnat (n := s.size) (by have := HS.out; omega))
                have hj2 : ¬ (s.size : Int) < (s.size : Int) := by omega
                have HGe : Hid (gG false L = min (s.size + 1) s.size + gG false (L.drop (s.size + 1))) := by
                  show _ = _
                  rw [HGj.out, Nat.min_eq_right (by omega), List.drop_eq_nil_of_le (by rw [HSZ.out]; exact Nat.le_refl _), List.drop_eq_nil_of_le (by rw [HSZ.out]; omega)]; rfl
                have HLT2 := Lib.hid hlt
                clear hjn HGj hj hij
                go_wp2_with fail
                go_roundw
                case rel => exact ⟨s.size + 1, by first | exact congrArg (Value.int .i64) HWj.out | go_num, Nat.le_refl _, by first | trivial | rfl, HGe⟩
                case measure => have := HLT2.out; first | (rw [HWj.out]; simp [intOf]; omega) | (simp [intOf]; omega)
          · have hdne : ((d.toNat : Int) == 47) = false := byte_ne (n := 47) hd47
            have HR : Hid (blankB s = false) := by
              show _ = _
              have hdd : (47 == d) = false := by rw [beq_eq_false_iff_ne]; rintro rfl; exact hd47 rfl
              rw [HB.out, HG2.out, gG, hp_cons, hdd]
              exact decide_eq_false (by show ¬ i + 0 = s.size; omega)
            have hw := HW.out
            have hl4 : ((i + 1 : Nat) : Int) < (s.size : Int) := by omega
            clear hl3 hd47 HC HC2
            go_wp2_with fail
            go_ret
            exact ⟨by rw [HR.out]; rfl, rfl⟩
        · have hin : s.size = i + 1 := by omega
          have HR : Hid (blankB s = false) := by
            show _ = _
            rw [HB.out, HG1.out, List.drop_eq_nil_of_le (by rw [HSZ.out]; omega)]
            exact decide_eq_false (by show ¬ i + 0 = s.size; omega)
          have hw := HW.out
          have hl4 : ¬ ((i + 1 : Nat) : Int) < (s.size : Int) := by omega
          clear hin h2 HC
          go_wp2_with fail
          go_ret
          exact ⟨by rw [HR.out]; rfl, rfl⟩
      · have hbne : ((b.toNat : Int) == 47) = false := byte_ne (n := 47) h47
        have hb47 : (b == 47) = false := by rw [beq_eq_false_iff_ne]; rintro rfl; exact h47 rfl
        cases hws : isWs b
        · have HR : Hid (blankB s = false) := by
            show _ = _
            rw [HB.out, HG1.out, gG, hws, hb47]
            exact decide_eq_false (by show ¬ i + 0 = s.size; omega)
          have h32 : b.toNat ≠ 32 := fun h => by rw [u8_eq h] at hws; exact absurd hws (by decide)
          have h9 : b.toNat ≠ 9 := fun h => by rw [u8_eq h] at hws; exact absurd hws (by decide)
          have h10 : b.toNat ≠ 10 := fun h => by rw [u8_eq h] at hws; exact absurd hws (by decide)
          have n32 : ((b.toNat : Int) != 32) = true := by rw [bne_iff_ne]; omega
          have n9 : ((b.toNat : Int) != 9) = true := by rw [bne_iff_ne]; omega
          have n10 : ((b.toNat : Int) != 10) = true := by rw [bne_iff_ne]; omega
          clear h32 h9 h10 hws hb47 h47 HC
          go_wp2_with fail
          go_ret
          exact ⟨by rw [HR.out]; rfl, rfl⟩
        · have HG2 : Hid (gG false L = min (i + 1) s.size + gG false (L.drop (i + 1))) := by
            show _ = _
            rw [HG1.out, gG, hws, Nat.min_eq_left (by omega)]
            simp only [if_true]
            omega
          have hb3 : b = 32 ∨ b = 9 ∨ b = 10 := by
            unfold isWs at hws
            simp only [Bool.or_eq_true, beq_iff_eq] at hws
            rcases hws with (h | h) | h
            · exact Or.inl h
            · exact Or.inr (Or.inl h)
            · exact Or.inr (Or.inr h)
          clear hws hb47 h47 HC hbne HG1
          rcases hb3 with rfl | rfl | rfl
          · go_wp2_with fail
            go_roundw
            case rel => exact ⟨i + 1, by first | exact congrArg (Value.int .i64) HW.out | go_num, by have := HLT.out; omega, by first | trivial | rfl, HG2⟩
            case measure => have := HLT.out; first | (rw [HW.out]; simp [intOf]; omega) | (simp [intOf]; omega)
          · go_wp2_with fail
            go_roundw
            case rel => exact ⟨i + 1, by first | exact congrArg (Value.int .i64) HW.out | go_num, by have := HLT.out; omega, by first | trivial | rfl, HG2⟩
            case measure => have := HLT.out; first | (rw [HW.out]; simp [intOf]; omega) | (simp [intOf]; omega)
          · go_wp2_with fail
            go_roundw
            case rel => exact ⟨i + 1, by first | exact congrArg (Value.int .i64) HW.out | go_num, by have := HLT.out; omega, by first | trivial | rfl, HG2⟩
            case measure => have := HLT.out; first | (rw [HW.out]; simp [intOf]; omega) | (simp [intOf]; omega)
    · have hnl : ¬ (i : Int) < (s.size : Int) := by omega
      have HR : Hid (blankB s = true) := by
        show _ = _
        rw [HB.out, HG.out, Nat.min_eq_right (by omega), List.drop_eq_nil_of_le (by rw [HSZ.out]; omega)]
        exact decide_eq_true rfl
      clear hlt
      go_wp2_with fail
      go_ret
      exact ⟨by rw [HR.out]; rfl, rfl⟩
end Go.Proofs.YtegobakoflbnfaaDoor
