/- quoted, symbol: what they read. -/
import Derived.Test.YtegobakoflbnfaaDoorF
import Derived.Laws.DeepStrings4
namespace Go.Proofs.YtegobakoflbnfaaDoor
open Go Go.RowKit

theorem toList_extract (s : ByteArray) (i j : Nat) : (s.extract i j).data.toList = (s.data.toList.take j).drop i := by
  rw [ByteArray.data_extract, Array.toList_extract, List.extract_eq_take_drop, List.drop_take]
theorem toList_from (s : ByteArray) (i : Nat) : (s.extract i s.size).data.toList = s.data.toList.drop i := by
  rw [toList_extract, List.take_of_length_le (by rw [Array.length_toList]; exact Nat.le_refl _)]
def strC : List Int := [2, 3, 4, 5, 7, 8]
def quotedT (s : ByteArray) : T3 :=
  if 40 < pre (inC strC) (s.data.toList.drop 1) ∨ Lib.hasPrefix (s.data.toList.drop (1 + pre (inC strC) (s.data.toList.drop 1))) [34] = false then noT
  else (4, s.extract 1 (1 + pre (inC strC) (s.data.toList.drop 1)), pre (inC strC) (s.data.toList.drop 1) + 2)

set_option maxHeartbeats 4000000 in
set_option maxRecDepth 100000 in
theorem quoted_any (w : World) (s : ByteArray) (hs : 0 < s.size) (hs2 : s.size ≤ 140737488355328) : Calls Tryd.prog 40 #[.string s] w (RetTok w (quotedT s)) := by
  have BX0 := BoxT.new w (.int .i64 0) (.string ⟨#[]⟩) (.int .i64 0)
  have B0 := below_alloc w (.cells #[.int .i64 0, .string ⟨#[]⟩, .int .i64 0] 36)
  have s1 : (w.alloc (.cells #[.int .i64 0, .string ⟨#[]⟩, .int .i64 0] 36)).heap.size = w.heap.size + 1 := by simp
  have C : Cls ((w.alloc (.cells #[.int .i64 0, .string ⟨#[]⟩, .int .i64 0] 36)).alloc (.cells #[.int .i64 2, .int .i64 3, .int .i64 4, .int .i64 5, .int .i64 7, .int .i64 8] 63)) (.slice (some ⟨w.heap.size + 1, 0, none⟩) 6 6) strC := by
    rw [← s1]; exact cls_new (w.alloc (.cells #[.int .i64 0, .string ⟨#[]⟩, .int .i64 0] 36)) strC 63
  have B1 := below_alloc (w.alloc (.cells #[.int .i64 0, .string ⟨#[]⟩, .int .i64 0] 36)) (.cells #[.int .i64 2, .int .i64 3, .int .i64 4, .int .i64 5, .int .i64 7, .int .i64 8] 63)
  have RN := run_any C (by decide) (by decide) (s.extract 1 s.size)
  rw [toList_from] at RN
  have BX := Lib.hid (BX0.go B1); have HB := Lib.hid (bstep B0 B1)
  have hle := pre_le (inC strC) (s.data.toList.drop 1)
  rw [List.length_drop, Array.length_toList] at hle
  obtain ⟨x, hx⟩ : ∃ x, x = quotedT s := ⟨_, rfl⟩
  have HX := Lib.hid hx
  rw [← hx]
  unfold quotedT at HX
  obtain ⟨n, hn⟩ : ∃ n, pre (inC strC) (s.data.toList.drop 1) = n := ⟨_, rfl⟩
  rw [hn] at RN HX
  have hns : 1 + n ≤ s.size := by
    have h9 : s.data.size = s.size := rfl
    rw [← hn]; omega
  have HP := Lib.hid (fun W => Tryd.strings_HasPrefix (s.extract (1 + n) s.size) ⟨#[34]⟩ W)
  rw [toList_from, show (⟨#[34]⟩ : ByteArray).data.toList = [34] from rfl] at HP
  have RN := Lib.hid RN
  have hw1 : wrap64 ((1 : Int) + (n : Int)) = ((1 + n : Nat) : Int) := by unfold wrap64; omega
  have hw2 : wrap64 ((n : Int) + 2) = ((n + 2 : Nat) : Int) := by unfold wrap64; omega
  have hsl : ∀ w, (Instr.slice 9 (.string s) (some (.int .i64 1)) (some (.int .i64 (1 + (n : Int)))) none).run Tryd.prog w = .ok (.string (s.extract 1 (1 + n))) w := fun w => by
    rw [run_slice_string_if w 9 s .i64 .i64 1 (1 + (n : Int)) Tryd.underlying9, if_pos (by omega), if_pos (by omega), show (1 + (n : Int)).toNat = 1 + n by omega]; rfl
  have hs1 : 1 ≤ s.size := hs
  have HW1 := Lib.hid hw1; have HW2 := Lib.hid hw2
  clear BX0 B0 C B1 hle hx hn s1 hs hs2 hw2
  go_enter Tryd.func40, Tryd.ntmps40
  go_wp2_with fail
  generalize ((w.alloc (.cells #[.int .i64 0, .string ⟨#[]⟩, .int .i64 0] 36)).alloc (.cells #[.int .i64 2, .int .i64 3, .int .i64 4, .int .i64 5, .int .i64 7, .int .i64 8] 63)) = w1 at *
  refine RN.out.mono ?_; rintro e w2 ⟨rfl, hb2⟩
  have BX2 := Lib.hid (BX.out.go hb2); have HB2 := Lib.hid (bstep HB.out hb2)
  clear hb2 RN BX HB
  obtain ⟨x0, x1, x2, f0, f1, f2⟩ := BX2.out.facts
  by_cases h20 : 40 < n
  · have t1 : decide (40 < (n : Int)) = true := decide_eq_true (by omega)
    have HR : Hid (x = noT) := by show _ = _; rw [HX.out, if_pos (.inl h20)]
    clear h20
    go_wp2_with fail
    obtain ⟨e0, e1, e2, hb⟩ := tok_ret BX2.out (.int .i64 0) (.string ⟨#[]⟩) (.int .i64 0) HB2.out (by omega)
    refine bodyPost_ret (v := .tuple #[.agg #[.int .i64 0, .string ⟨#[]⟩, .int .i64 0], .int .i64 0]) ?_ rfl ⟨by rw [HR.out]; rfl, hb⟩
    simp [results, Tryd.f40, go_sem, e0, e1, e2]
  · have t1 : decide (40 < (n : Int)) = false := decide_eq_false (by omega)
    cases hk : Lib.hasPrefix (s.data.toList.drop (1 + n)) [34]
    · rw [hk] at HP
      have HR : Hid (x = noT) := by show _ = _; rw [HX.out, if_pos (.inr hk)]
      clear h20 hk
      go_wp2_with fail
      refine (HP.out _).mono ?_; rintro e w3 ⟨rfl, rfl⟩
      go_wp2_with fail
      obtain ⟨e0, e1, e2, hb⟩ := tok_ret BX2.out (.int .i64 0) (.string ⟨#[]⟩) (.int .i64 0) HB2.out (by omega)
      refine bodyPost_ret (v := .tuple #[.agg #[.int .i64 0, .string ⟨#[]⟩, .int .i64 0], .int .i64 0]) ?_ rfl ⟨by rw [HR.out]; rfl, hb⟩
      simp [results, Tryd.f40, go_sem, e0, e1, e2]
    · rw [hk] at HP
      have HR : Hid (x = (4, s.extract 1 (1 + n), n + 2)) := by show _ = _; rw [HX.out, if_neg (by rintro (h | h); exact h20 h; rw [hk] at h; cases h)]
      clear h20 hk
      go_wp2_with fail
      refine (HP.out _).mono ?_; rintro e w3 ⟨rfl, rfl⟩
      go_wp2_with fail
      obtain ⟨e0, e1, e2, hb⟩ := tok_ret BX2.out (.int .i64 4) (.string (s.extract 1 (1 + n))) (.int .i64 0) HB2.out (by omega)
      refine bodyPost_ret (v := .tuple #[.agg #[.int .i64 4, .string (s.extract 1 (1 + n)), .int .i64 0], .int .i64 ((n + 2 : Nat) : Int)]) ?_ rfl ⟨by rw [HR.out], hb⟩
      simp [results, Tryd.f40, go_sem, e0, e1, e2, HW2.out]
end Go.Proofs.YtegobakoflbnfaaDoor
