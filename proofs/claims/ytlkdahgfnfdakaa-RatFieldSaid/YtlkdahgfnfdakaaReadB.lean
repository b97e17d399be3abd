import Derived.Test.YtlkdahgfnfdakaaRead
namespace Go.Proofs.Ytlkdahgfnfdakaa
open Go.RowKit Go.Shelf WN LM

theorem toList_nil {s : ByteArray} (h : s.size ≤ 0) : s.data.toList = [] := by
  have e : s.data.toList.length = s.size := by simp
  exact List.length_eq_zero_iff.1 (by omega)

set_option maxRecDepth 100000 in
set_option maxHeartbeats 8000000 in
theorem read_empty (r : ByteArray) (w : World) (h0 : r.size ≤ 0) : Calls Try.prog 61 #[.string r] w (ReadOut w none) := by
  have bR := Box3.new w (.bool false) (.slice none 0 0) (.slice none 0 0)
  have B1 := below_alloc w (.cells #[.bool false, .slice none 0 0, .slice none 0 0] 55)
  go_enter Try.func61, Try.ntmps61
  go_wp2_with fail
  have BR := Lib.hid bR; have HB1 := Lib.hid B1
  clear bR B1
  generalize w.alloc (.cells #[.bool false, .slice none 0 0, .slice none 0 0] 55) = w1 at *
  go_loop [5] (fun v5 => v5 = .int .i64 0) (fun _ => 0)
  case atStart => rfl
  case round =>
    subst hrel
    go_wp2_with fail
    refine (fromDigits_num _ _ (by simp)).mono ?_; rintro e w2 ⟨v2, rfl, hb2, hg, hng⟩
    have hgd : goodD ByteArray.empty.data.toList = false := rfl
    rw [hgd]
    obtain rfl := hng hgd
    have BR2 := Lib.hid (BR.out.go hb2); have HB2 := Lib.hid (bstep HB1.out hb2)
    clear hb2 hg hng hgd
    obtain ⟨r0, r1, r2, f0, f1, f2⟩ := Box3.facts BR2.out
    go_wp2_with fail
    obtain ⟨e0, e1, e2, hret⟩ := box_ret (t := false) (n := 0) (d := 0) BR2.out (Num.nil _) (Num.nil _) HB2.out (by omega)
    refine bodyPost_ret (v := .tuple #[.agg #[.bool false, .slice none 0 0, .slice none 0 0], .bool false]) ?_ rfl (ReadOut.no (by obtain ⟨_, _, _, h⟩ := hret; exact h))
    simp [results, Try.f61, go_sem, e0, e1, e2]

/-- read -/
theorem read_num (s : ByteArray) (w : World) (hs : s.size ≤ 140737488355328) : Calls Try.prog 61 #[.string s] w (ReadOut w (readQ s.data.toList)) := by
  by_cases h0 : 0 < s.size
  · have hh : s.data.toList.head? = some s[0] := by
      rw [List.head?_eq_getElem?, List.getElem?_eq_getElem (by simpa using h0)]; rfl
    unfold readQ
    rw [hh]
    by_cases hm : s[0] = 45
    · rw [if_pos (by rw [hm])]
      have := read_true s w hs h0 (by rw [hm]; rfl)
      rwa [List.drop_one] at this
    · rw [if_neg (by simpa using hm)]
      refine read_false s w hs h0 ?_
      rw [beq_eq_false_iff_ne]
      intro h
      exact hm (UInt8.toNat_inj.1 (by have : (45 : UInt8).toNat = 45 := rfl; omega))
  · have hl : s.data.toList = [] := toList_nil (by omega)
    have := read_empty s w (by omega)
    rw [hl]
    exact this
end Go.Proofs.Ytlkdahgfnfdakaa
