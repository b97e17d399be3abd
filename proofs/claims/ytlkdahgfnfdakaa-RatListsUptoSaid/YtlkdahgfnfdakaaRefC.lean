/- The reference's digits. -/
import Derived.Test.YtlkdahgfnfdakaaRefB
namespace Go.Proofs.Ytlkdahgfnfdakaa
open Go Go.RowKit Go.Shelf WN LM

set_option maxHeartbeats 4000000 in
set_option maxRecDepth 100000 in
theorem rdigits_any (s : ByteArray) (w : World) (hs : s.size ≤ 140737488355328) : Calls Try.prog 101 #[.string s] w fun e w' => e = .returned (.bool (goodD s.data.toList)) ∧ w' = w := by
  have hlen : s.data.toList.length = s.size := by rw [Array.length_toList]; rfl
  have HL := Lib.hid hlen
  have HS : Hid ((s.size : Int) ≤ 140737488355328) := by show _ ≤ _; omega
  by_cases h1 : s.size = 0
  · have hg : Hid (goodD s.data.toList = false) := by show _ = _; unfold goodD; rw [hlen, h1]; rfl
    have e1 : ((s.size : Int) == 0) = true := by rw [beq_iff_eq]; omega
    clear hlen h1 hs
    go_enter Try.func101, Try.ntmps101
    go_wp2_with fail
    go_ret
    exact ⟨by rw [hg.out]; rfl, by first | trivial | rfl⟩
  have e1 : ((s.size : Int) == 0) = false := by rw [beq_eq_false_iff_ne]; omega
  by_cases h2 : 300 < s.size
  · have hg : Hid (goodD s.data.toList = false) := by
      show _ = _; unfold goodD; rw [hlen, decide_eq_false (show ¬ s.size ≤ 300 by omega)]; simp
    have e2 : decide ((300 : Int) < (s.size : Int)) = true := decide_eq_true (by omega)
    clear hlen h1 h2 hs
    go_enter Try.func101, Try.ntmps101
    go_wp2_with fail
    go_ret
    exact ⟨by rw [hg.out]; rfl, by first | trivial | rfl⟩
  have e2 : decide ((300 : Int) < (s.size : Int)) = false := decide_eq_false (by omega)
  have h0 : 0 < s.size := by omega
  have hh : s.data.toList.head? = some s[0] := by
    rw [List.head?_eq_getElem?, List.getElem?_eq_getElem (by omega)]; rfl
  by_cases h4 : 1 < s.size
  · have e3 : decide ((1 : Int) < (s.size : Int)) = true := decide_eq_true (by omega)
    by_cases h5 : s[0] = 48
    · have e4 : ((s[0].toNat : Int) == 48) = true := by rw [h5]; rfl
      have hg : Hid (goodD s.data.toList = false) := by
        show _ = _; unfold goodD; rw [hlen, hh, h5, decide_eq_false (show ¬ s.size = 1 by omega)]; simp
      clear hlen h1 h2 hs hh h4 h5
      go_enter Try.func101, Try.ntmps101
      go_wp2_with fail
      go_ret
      exact ⟨by rw [hg.out]; rfl, by first | trivial | rfl⟩
    · have hne : s[0].toNat ≠ 48 := fun h => h5 (UInt8.toNat_inj.1 h)
      have e4 : ((s[0].toNat : Int) == 48) = false := by rw [beq_eq_false_iff_ne]; omega
      have HG : Hid (goodD s.data.toList = s.data.toList.all isD) := by
        show _ = _; unfold goodD; rw [hlen, hh, decide_eq_true (show 1 ≤ s.size by omega), decide_eq_true (show s.size ≤ 300 by omega)]; simp [h5]
      clear hlen h1 h2 hs hh h4 h5 hne
      go_enter Try.func101, Try.ntmps101
      go_wp2_with fail
      go_loopw [3] (fun vi wr => ∃ i : Nat, i ≤ s.size ∧ vi = .int .i64 (i : Nat) ∧ Hid ((s.data.toList.take i).all isD = true) ∧ wr = w) (fun vi _ => s.size - (intOf vi).toNat)
      case atStart => exact ⟨0, Nat.zero_le _, rfl, by show _ = _; rw [List.take_zero]; rfl, rfl⟩
      case round =>
        obtain ⟨i, hi, rfl, ha, rfl⟩ := hrel
        by_cases hlt : i < s.size
        · have hgi : s.data.toList[i]? = some s[i] := by rw [List.getElem?_eq_getElem (by rw [HL.out]; exact hlt)]; rfl
          have HI := Lib.hid hgi; clear hgi
          by_cases hd : isD s[i] = true
          · have HA : Hid ((s.data.toList.take (i + 1)).all isD = true) := by
              show _ = _
              rw [List.take_add_one, List.all_append, ha.out, HI.out]; simp [hd]
            have hd' := hd
            simp only [isD, Bool.and_eq_true, decide_eq_true_eq] at hd'
            obtain ⟨hc1, hc2⟩ := hd'
            have d1 : decide ((s[i].toNat : Int) < 48) = false := by simp; omega
            have d2 : decide ((57 : Int) < (s[i].toNat : Int)) = false := by simp; omega
            have hw : wrap64 ((i : Int) + 1) = ((i + 1 : Nat) : Int) := by unfold wrap64; have := HS.out; omega
            clear hd hc1 hc2 HI ha
            go_wp2_with fail
            go_roundw
            case rel => exact ⟨i + 1, hlt, congrArg (Value.int .i64) hw, HA.out, by first | trivial | rfl⟩
            case measure => rw [hw]; simp [intOf]; omega
          · have hb : Hid (goodD s.data.toList = false) := by
              show _ = _
              rw [HG.out]
              cases h : s.data.toList.all isD
              · rfl
              · exfalso
                exact hd (List.all_eq_true.1 h _ (List.mem_of_getElem? HI.out))
            by_cases hc : s[i].toNat < 48
            · have d1 : decide ((s[i].toNat : Int) < 48) = true := by simp; omega
              clear hd hc HI ha
              go_wp2_with fail
              go_ret
              exact ⟨by rw [hb.out]; rfl, by first | trivial | rfl⟩
            · have d1 : decide ((s[i].toNat : Int) < 48) = false := by simp; omega
              have d2 : decide ((57 : Int) < (s[i].toNat : Int)) = true := by
                have : ¬ s[i].toNat ≤ 57 := fun h => hd (by simp [isD]; omega)
                simp; omega
              clear hd hc HI ha
              go_wp2_with fail
              go_ret
              exact ⟨by rw [hb.out]; rfl, by first | trivial | rfl⟩
        · have hb : Hid (goodD s.data.toList = true) := by
            show _ = _
            have h := ha.out
            rw [List.take_of_length_le (by rw [HL.out]; omega)] at h
            rw [HG.out, h]
          clear ha
          go_wp2_with fail
          go_ret
          exact ⟨by rw [hb.out]; rfl, by first | trivial | rfl⟩
  · have e3 : decide ((1 : Int) < (s.size : Int)) = false := decide_eq_false (by omega)
    have HG : Hid (goodD s.data.toList = s.data.toList.all isD) := by
      show _ = _; unfold goodD; rw [hlen, decide_eq_true (show 1 ≤ s.size by omega), decide_eq_true (show s.size ≤ 300 by omega), decide_eq_true (show s.size = 1 by omega)]; simp
    clear hlen h1 h2 hs hh h4
    go_enter Try.func101, Try.ntmps101
    go_wp2_with fail
    go_loopw [3] (fun vi wr => ∃ i : Nat, i ≤ s.size ∧ vi = .int .i64 (i : Nat) ∧ Hid ((s.data.toList.take i).all isD = true) ∧ wr = w) (fun vi _ => s.size - (intOf vi).toNat)
    case atStart => exact ⟨0, Nat.zero_le _, rfl, by show _ = _; rw [List.take_zero]; rfl, rfl⟩
    case round =>
      obtain ⟨i, hi, rfl, ha, rfl⟩ := hrel
      by_cases hlt : i < s.size
      · have hgi : s.data.toList[i]? = some s[i] := by rw [List.getElem?_eq_getElem (by rw [HL.out]; exact hlt)]; rfl
        have HI := Lib.hid hgi; clear hgi
        by_cases hd : isD s[i] = true
        · have HA : Hid ((s.data.toList.take (i + 1)).all isD = true) := by
            show _ = _
            rw [List.take_add_one, List.all_append, ha.out, HI.out]; simp [hd]
          have hd' := hd
          simp only [isD, Bool.and_eq_true, decide_eq_true_eq] at hd'
          obtain ⟨hc1, hc2⟩ := hd'
          have d1 : decide ((s[i].toNat : Int) < 48) = false := by simp; omega
          have d2 : decide ((57 : Int) < (s[i].toNat : Int)) = false := by simp; omega
          have hw : wrap64 ((i : Int) + 1) = ((i + 1 : Nat) : Int) := by unfold wrap64; have := HS.out; omega
          clear hd hc1 hc2 HI ha
          go_wp2_with fail
          go_roundw
          case rel => exact ⟨i + 1, hlt, congrArg (Value.int .i64) hw, HA.out, by first | trivial | rfl⟩
          case measure => rw [hw]; simp [intOf]; omega
        · have hb : Hid (goodD s.data.toList = false) := by
            show _ = _
            rw [HG.out]
            cases h : s.data.toList.all isD
            · rfl
            · exfalso
              exact hd (List.all_eq_true.1 h _ (List.mem_of_getElem? HI.out))
          by_cases hc : s[i].toNat < 48
          · have d1 : decide ((s[i].toNat : Int) < 48) = true := by simp; omega
            clear hd hc HI ha
            go_wp2_with fail
            go_ret
            exact ⟨by rw [hb.out]; rfl, by first | trivial | rfl⟩
          · have d1 : decide ((s[i].toNat : Int) < 48) = false := by simp; omega
            have d2 : decide ((57 : Int) < (s[i].toNat : Int)) = true := by
              have : ¬ s[i].toNat ≤ 57 := fun h => hd (by simp [isD]; omega)
              simp; omega
            clear hd hc HI ha
            go_wp2_with fail
            go_ret
            exact ⟨by rw [hb.out]; rfl, by first | trivial | rfl⟩
      · have hb : Hid (goodD s.data.toList = true) := by
          show _ = _
          have h := ha.out
          rw [List.take_of_length_le (by rw [HL.out]; omega)] at h
          rw [HG.out, h]
        clear ha
        go_wp2_with fail
        go_ret
        exact ⟨by rw [hb.out]; rfl, by first | trivial | rfl⟩
end Go.Proofs.Ytlkdahgfnfdakaa
