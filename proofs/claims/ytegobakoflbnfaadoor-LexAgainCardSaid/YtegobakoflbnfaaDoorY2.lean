/- The reference's letter, digit, run, in, keys. -/
import Derived.Test.YtegobakoflbnfaaDoorY
namespace Go.Proofs.YtegobakoflbnfaaDoor
open Go Go.RowKit

def isLet (c : Nat) : Bool := decide ((97 ≤ c ∧ c ≤ 122) ∨ (65 ≤ c ∧ c ≤ 90))
def isDg (c : Nat) : Bool := decide (48 ≤ c ∧ c ≤ 57)
set_option maxRecDepth 100000 in
theorem digit_any (w : World) (c : Nat) : Calls Tryd.prog 29 #[.int .u8 (c : Int)] w fun e w' => e = .returned (.bool (isDg c)) ∧ w' = w := by
  go_enter Tryd.func29, Tryd.ntmps29
  go_wp2_with fail
  all_goals go_ret
  all_goals refine ⟨congrArg (fun b => Ending.returned (Value.bool b)) (?_ : _ = isDg c), rfl⟩
  all_goals (rw [Bool.eq_iff_iff]; simp [isDg]; omega)
set_option maxRecDepth 100000 in
theorem letter_any (w : World) (c : Nat) : Calls Tryd.prog 21 #[.int .u8 (c : Int)] w fun e w' => e = .returned (.bool (isLet c)) ∧ w' = w := by
  go_enter Tryd.func21, Tryd.ntmps21
  go_wp2_with fail
  all_goals go_ret
  all_goals refine ⟨congrArg (fun b => Ending.returned (Value.bool b)) (?_ : _ = isLet c), rfl⟩
  all_goals (rw [Bool.eq_iff_iff]; simp [isLet]; omega)
def wordP (b : UInt8) : Bool := isDg b.toNat || isLet b.toNat || decide (b.toNat = 95)

set_option maxHeartbeats 4000000 in
set_option maxRecDepth 100000 in
theorem rrun_any (w : World) (s : ByteArray) (hs : s.size ≤ 140737488355328) : Calls Tryd.prog 22 #[.string s, .int .i64 0, .bool false] w fun e w' => e = .returned (.int .i64 (pre wordP s.data.toList : Nat)) ∧ w' = w := by
  have DA := Lib.hid (fun c => digit_any w c)
  have LA := Lib.hid (fun c => letter_any w c)
  go_enter Tryd.func22, Tryd.ntmps22
  go_wp2_with fail
  go_loopw [7] (fun v7 wr => ∃ n : Nat, v7 = .int .i64 (n : Int) ∧ n ≤ s.size ∧ wr = w ∧ Hid ((s.data.toList.take n).all wordP = true)) (fun v7 _ => s.size - (intOf v7).toNat)
  case atStart => exact ⟨0, rfl, Nat.zero_le _, rfl, rfl⟩
  case round =>
    obtain ⟨n, rfl, hn, rfl, HA⟩ := hrel
    have hsz : s.data.toList.length = s.size := Array.length_toList
    by_cases hlt : n < s.size
    · have hb := Lib.data_getElem? s n hlt
      obtain ⟨b, hbe⟩ : ∃ b, b = s[n] := ⟨_, rfl⟩
      rw [← hbe] at hb
      have hbi : (s[n].toNat : Int) = (b.toNat : Int) := by rw [hbe]
      have HEND : Hid (wordP b = false → n = pre wordP s.data.toList) := fun h => (pre_at wordP _ n HA.out (by omega) (.inr ⟨b, hb, h⟩)).symm
      have HGO : Hid (wordP b = true → (s.data.toList.take (n + 1)).all wordP = true) := fun h => by
        rw [List.take_add_one, hb, List.all_append, HA.out]; simp [h]
      have HW := Lib.hid (wadd (a := n) (b := 1) (by omega))
      have HLT := Lib.hid hlt
      have D := Lib.hid (DA.out b.toNat)
      have L := Lib.hid (LA.out b.toNat)
      have hl2 : (n : Int) < (s.size : Int) := by omega
      clear hb hsz
      cases hd : isDg b.toNat
      · rw [hd] at D
        cases hl : isLet b.toNat
        · rw [hl] at L
          by_cases h95 : b.toNat = 95
          · have h0 : ((b.toNat : Int) == 95) = true := by rw [beq_iff_eq]; omega
            have HG2 := Lib.hid (HGO.out (by unfold wordP; rw [hd, hl, h95]; rfl))
            clear hd hl h95
            go_wp2_with fail
            refine D.out.mono ?_; rintro e w2 ⟨rfl, rfl⟩
            go_wp2_with fail
            refine L.out.mono ?_; rintro e w2 ⟨rfl, rfl⟩
            go_wp2_with fail
            go_roundw
            case rel => exact ⟨n + 1, by first | exact congrArg (Value.int .i64) (by omega) | go_num, HLT.out, trivial, HG2⟩
            case measure => have := HLT.out; simp [intOf]; omega
          · have h0 : ((b.toNat : Int) == 95) = false := by rw [beq_eq_false_iff_ne]; omega
            have HG2 := Lib.hid (HEND.out (by unfold wordP; rw [hd, hl, decide_eq_false h95]; rfl))
            clear hd hl h95
            go_wp2_with fail
            refine D.out.mono ?_; rintro e w2 ⟨rfl, rfl⟩
            go_wp2_with fail
            refine L.out.mono ?_; rintro e w2 ⟨rfl, rfl⟩
            go_wp2_with fail
            go_ret
            exact ⟨by rw [← HG2.out]; rfl, rfl⟩
        · rw [hl] at L
          have HG2 := Lib.hid (HGO.out (by unfold wordP; rw [hd, hl]; rfl))
          clear hd hl
          go_wp2_with fail
          refine D.out.mono ?_; rintro e w2 ⟨rfl, rfl⟩
          go_wp2_with fail
          refine L.out.mono ?_; rintro e w2 ⟨rfl, rfl⟩
          go_wp2_with fail
          go_roundw
          case rel => exact ⟨n + 1, by first | exact congrArg (Value.int .i64) (by omega) | go_num, HLT.out, trivial, HG2⟩
          case measure => have := HLT.out; simp [intOf]; omega
      · rw [hd] at D
        have HG2 := Lib.hid (HGO.out (by unfold wordP; rw [hd]; rfl))
        clear hd
        go_wp2_with fail
        refine D.out.mono ?_; rintro e w2 ⟨rfl, rfl⟩
        go_wp2_with fail
        go_roundw
        case rel => exact ⟨n + 1, by first | exact congrArg (Value.int .i64) (by omega) | go_num, HLT.out, trivial, HG2⟩
        case measure => have := HLT.out; simp [intOf]; omega
    · have hns : n = s.size := by omega
      have HG2 : Hid (n = pre wordP s.data.toList) := (pre_at wordP _ n HA.out (by omega) (.inl (by rw [List.getElem?_eq_none (by omega)]))).symm
      have hl2 : ¬ (n : Int) < (s.size : Int) := by omega
      subst hns
      clear hlt hsz
      go_wp2_with fail
      go_ret
      exact ⟨by rw [← HG2.out]; rfl, rfl⟩

/-- a list of strings that lies in memory -/
def StrAt (w : World) (v : Value) (L : List ByteArray) : Prop := ∃ g, v = .slice (some ⟨g, 0, none⟩) L.length L.length ∧ ∀ i (hi : i < L.length), w.cell? ⟨g, i, none⟩ = some (.string L[i])
def anyS (L : List ByteArray) (s : ByteArray) : Bool := L.any fun k => k.toList == s.toList

set_option maxHeartbeats 4000000 in
set_option maxRecDepth 100000 in
theorem in_any (w : World) (v : Value) (L : List ByteArray) (s : ByteArray) (hv : StrAt w v L) (hL : L.length ≤ 1000) : Calls Tryd.prog 23 #[v, .string s] w fun e w' => e = .returned (.bool (anyS L s)) ∧ w' = w := by
  obtain ⟨g, rfl, hc⟩ := hv
  have HC := Lib.hid hc
  obtain ⟨n, hn⟩ : ∃ n, n = L.length := ⟨_, rfl⟩
  rw [← hn] at hL ⊢
  have HN := Lib.hid hn
  clear hc hn
  go_enter Tryd.func23, Tryd.ntmps23
  go_wp2_with fail
  go_loopw [5] (fun v5 wr => ∃ i : Nat, v5 = .int .i64 (i : Int) ∧ i ≤ n ∧ wr = w ∧ Hid (anyS L s = anyS (L.drop i) s)) (fun v5 _ => n - (intOf v5).toNat)
  case atStart => exact ⟨0, rfl, Nat.zero_le _, rfl, rfl⟩
  case round =>
    obtain ⟨i, rfl, hi, rfl, HA⟩ := hrel
    by_cases hlt : i < n
    · have hil : i < L.length := by have := HN.out; omega
      have x0 := HC.out i hil
      have hst : anyS (L.drop i) s = ((L[i].toList == s.toList) || anyS (L.drop (i + 1)) s) := by
        rw [List.drop_eq_getElem_cons hil]; rfl
      generalize L[i] = k at x0 hst
      have HST := Lib.hid hst
      have HLT := Lib.hid hlt
      have HW := Lib.hid (wadd (a := i) (b := 1) (by omega))
      clear hst hil
      cases hk : (k.toList == s.toList)
      · have HA2 : Hid (anyS L s = anyS (L.drop (i + 1)) s) := by show _ = _; rw [HA.out, HST.out, hk]; rfl
        go_wp2_with fail
        go_roundw
        case rel => exact ⟨i + 1, by first | exact congrArg (Value.int .i64) (by omega) | go_num, HLT.out, trivial, HA2⟩
        case measure => have := HLT.out; simp [intOf]; omega
      · have HA2 : Hid (anyS L s = true) := by show _ = _; rw [HA.out, HST.out, hk]; rfl
        go_wp2_with fail
        go_ret
        exact ⟨by rw [HA2.out]; rfl, rfl⟩
    · have HA2 : Hid (anyS L s = false) := by show _ = _; rw [HA.out, List.drop_eq_nil_of_le (by have := HN.out; omega)]; rfl
      obtain rfl : i = n := by omega
      clear hlt
      go_wp2_with fail
      go_ret
      exact ⟨by rw [HA2.out]; rfl, rfl⟩
def keysB : List ByteArray := keysL.map fun l => ⟨l.toArray⟩
theorem keys_cells : (keysB.map Value.string).toArray.size = 32 := by decide
set_option maxHeartbeats 4000000 in
set_option maxRecDepth 100000 in
theorem keys_any (w : World) : Calls Tryd.prog 24 #[] w fun e w' => ∃ v, e = .returned v ∧ StrAt w' v keysB ∧ Below w.heap.size w w' := by
  have HB := Lib.hid (below_alloc w (.cells (keysB.map Value.string).toArray 9))
  have HS : Hid (StrAt (w.alloc (.cells (keysB.map Value.string).toArray 9)) (.slice (some ⟨w.heap.size, 0, none⟩) 32 32) keysB) := by
    refine ⟨w.heap.size, rfl, fun i hi => ?_⟩
    rw [cell_of_row _ _ _ _ _ _ (heap_alloc_new w _)]
    simp [hi]
  go_enter Tryd.func24, Tryd.ntmps24
  go_wp2_with fail
  go_ret
  exact ⟨_, rfl, HS.out, HB.out⟩
end Go.Proofs.YtegobakoflbnfaaDoor
