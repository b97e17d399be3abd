/- symbol: what it reads. -/
import Derived.Test.YtegobakoflbnfaaDoorG
namespace Go.Proofs.YtegobakoflbnfaaDoor
open Go Go.RowKit

def dbl : List ByteArray := [⟨#[61, 61]⟩, ⟨#[60, 62]⟩, ⟨#[60, 61]⟩, ⟨#[62, 61]⟩]
def isDbl (l : List ByteArray) (s : List UInt8) : Bool := l.any fun d => Lib.hasPrefix s d.data.toList
def symN (s : List UInt8) : Nat := if isDbl dbl s then 2 else 1
def symT (s : ByteArray) : T3 := (5, s.extract 0 (symN s.data.toList), symN s.data.toList)
theorem dbl_two : ∀ d ∈ dbl, d.size = 2 := by decide
theorem hasPrefix_len {s p : List UInt8} (h : Lib.hasPrefix s p = true) : p.length ≤ s.length := by
  unfold Lib.hasPrefix at h
  exact (List.isPrefixOf_iff_prefix.1 h).length_le
theorem symN_le {s : ByteArray} (hs : 0 < s.size) : symN s.data.toList ≤ s.size := by
  unfold symN
  split
  · rename_i h
    obtain ⟨d, hd, hp⟩ := List.any_eq_true.1 h
    have h1 := hasPrefix_len hp
    have h2 := dbl_two d hd
    rw [Array.length_toList, Array.length_toList] at h1
    have h3 : d.data.size = d.size := rfl
    have h4 : s.data.size = s.size := rfl
    omega
  · omega

set_option maxHeartbeats 4000000 in
set_option maxRecDepth 100000 in
theorem symbol_any (w : World) (s : ByteArray) (hs : 0 < s.size) : Calls Tryd.prog 41 #[.string s] w (RetTok w (symT s)) := by
  have BX0 := BoxT.new w (.int .i64 0) (.string ⟨#[]⟩) (.int .i64 0)
  have B0 := below_alloc w (.cells #[.int .i64 0, .string ⟨#[]⟩, .int .i64 0] 36)
  have s1 : (w.alloc (.cells #[.int .i64 0, .string ⟨#[]⟩, .int .i64 0] 36)).heap.size = w.heap.size + 1 := by simp
  have B1 := below_alloc (w.alloc (.cells #[.int .i64 0, .string ⟨#[]⟩, .int .i64 0] 36)) (.cells #[.string ⟨#[61, 61]⟩, .string ⟨#[60, 62]⟩, .string ⟨#[60, 61]⟩, .string ⟨#[62, 61]⟩] 9)
  have CD : Hid (∀ i (hi : i < dbl.length), ((w.alloc (.cells #[.int .i64 0, .string ⟨#[]⟩, .int .i64 0] 36)).alloc (.cells #[.string ⟨#[61, 61]⟩, .string ⟨#[60, 62]⟩, .string ⟨#[60, 61]⟩, .string ⟨#[62, 61]⟩] 9)).cell? ⟨w.heap.size + 1, i, none⟩ = some (.string dbl[i])) := fun i hi => by
    rw [← s1, cell_of_row _ _ _ _ _ _ (heap_alloc_new (w.alloc (.cells #[.int .i64 0, .string ⟨#[]⟩, .int .i64 0] 36)) _)]
    have h4 : i < 4 := hi
    rcases (show i = 0 ∨ i = 1 ∨ i = 2 ∨ i = 3 by omega) with rfl | rfl | rfl | rfl <;> rfl
  have BX := Lib.hid (BX0.go B1); have HB := Lib.hid (bstep B0 B1)
  have HP := Lib.hid (fun W d => Tryd.strings_HasPrefix s d W)
  have HLE := Lib.hid (symN_le hs)
  clear BX0 B0 B1 s1 hs
  go_enter Tryd.func41, Tryd.ntmps41
  go_wp2_with fail
  generalize ((w.alloc (.cells #[.int .i64 0, .string ⟨#[]⟩, .int .i64 0] 36)).alloc (.cells #[.string ⟨#[61, 61]⟩, .string ⟨#[60, 62]⟩, .string ⟨#[60, 61]⟩, .string ⟨#[62, 61]⟩] 9)) = w1 at *
  go_loopw [4, 9] (fun v4 v9 wr => ∃ i : Nat, i ≤ 4 ∧ v9 = .int .i64 (i : Nat) ∧ wr = w1 ∧ v4 = .int .i64 ((if isDbl (dbl.take i) s.data.toList then 2 else 1 : Nat) : Int)) (fun _ vi _ => 4 - (intOf vi).toNat)
  case atStart => exact ⟨0, Nat.zero_le _, rfl, rfl, rfl⟩
  case round =>
    obtain ⟨i, hi, rfl, rfl, h4⟩ := hrel
    have HW := Lib.hid (wnat (n := i) (by omega))
    by_cases hlt : i < 4
    · have hli : i < dbl.length := hlt
      have hc := CD.out i hli
      have HT : Hid (dbl.take (i + 1) = dbl.take i ++ [dbl[i]]) := by show _ = _; rw [List.take_add_one, List.getElem?_eq_getElem hli]; rfl
      have HS : Hid (dbl[i].size = 2) := dbl_two _ (List.getElem_mem hli)
      have HPI := Lib.hid (HP.out wr dbl[i])
      have HLT := Lib.hid hlt
      have H4 := Lib.hid h4
      clear h4
      generalize dbl[i] = d at *
      have hsz : (d.size : Int) = 2 := by rw [HS.out]; rfl
      cases hp : Lib.hasPrefix s.data.toList d.data.toList
      · rw [hp] at HPI
        have HN : Hid (isDbl (dbl.take (i + 1)) s.data.toList = isDbl (dbl.take i) s.data.toList) := by show _ = _; rw [HT.out]; unfold isDbl; rw [List.any_append]; simp [hp]
        clear hp hi
        go_wp2_with fail
        refine HPI.out.mono ?_; rintro e w2 ⟨rfl, rfl⟩
        go_wp2_with fail
        go_roundw
        case rel => exact ⟨i + 1, HLT.out, by first | exact congrArg (Value.int .i64) HW.out | go_num, by first | trivial | rfl, by rw [HN.out]; exact H4.out⟩
        case measure => have := HLT.out; first | (rw [HW.out]; simp [intOf]; omega) | (simp [intOf]; omega)
      · rw [hp] at HPI
        have HN : Hid (isDbl (dbl.take (i + 1)) s.data.toList = true) := by show _ = _; rw [HT.out]; unfold isDbl; rw [List.any_append]; simp [hp]
        clear hp hi
        go_wp2_with fail
        refine HPI.out.mono ?_; rintro e w2 ⟨rfl, rfl⟩
        go_wp2_with fail
        go_roundw
        case rel => exact ⟨i + 1, HLT.out, by first | exact congrArg (Value.int .i64) HW.out | go_num, by first | trivial | rfl, by rw [HN.out]; first | rfl | (simp [hsz]; done) | exact congrArg (Value.int .i64) hsz⟩
        case measure => have := HLT.out; first | (rw [HW.out]; simp [intOf]; omega) | (simp [intOf]; omega)
    · have hi4 : i = 4 := by omega
      subst hi4
      have h4' : u4 = .int .i64 ((symN s.data.toList : Nat) : Int) := h4
      obtain ⟨n, hn⟩ : ∃ n, symN s.data.toList = n := ⟨_, rfl⟩
      have HN := Lib.hid hn
      have hle := HLE.out
      rw [hn] at h4' hle
      subst h4'
      obtain ⟨x0, x1, x2, f0, f1, f2⟩ := BX.out.facts
      clear hn h4 hi hlt
      go_wp2_with fail
      obtain ⟨e0, e1, e2, hb⟩ := tok_ret BX.out (.int .i64 5) (.string (s.extract 0 n)) (.int .i64 0) HB.out (by omega)
      refine bodyPost_ret (v := .tuple #[.agg #[.int .i64 5, .string (s.extract 0 n), .int .i64 0], .int .i64 (n : Nat)]) ?_ rfl ⟨by unfold symT; rw [HN.out], hb⟩
      simp [results, Tryd.f41, go_sem, e0, e1, e2]
end Go.Proofs.YtegobakoflbnfaaDoor
