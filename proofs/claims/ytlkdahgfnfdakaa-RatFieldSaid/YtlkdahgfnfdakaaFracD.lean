import Derived.Test.YtlkdahgfnfdakaaFracC
namespace Go.Proofs.Ytlkdahgfnfdakaa
open Go.RowKit WN LM

theorem Num.drew {w : World} {v : Value} {n : Nat} (h : Num w v n) : Num w.drew v n := h.go (Below.refl _ _).drew
theorem below_drew (w : World) : Below w.heap.size w w.drew := (Below.refl _ _).drew

theorem Frac.drew {w : World} {v : Value} {s : Bool} {n d : Nat} (h : Frac w v s n d) : Frac w.drew v s n d := h.below (B := w.heap.size) (Below.refl _ _).drew (Nat.le_refl _)
theorem RetF.drew {w w' : World} {s : Bool} {n d : Nat} {e : Ending} (h : RetF w s n d e w') : RetF w s n d e w'.drew := by
  obtain ⟨v, rfl, h, hb⟩ := h
  exact ⟨v, rfl, h.drew, hb.drew⟩

set_option maxHeartbeats 2000000 in
set_option maxRecDepth 100000 in
theorem negated_num {w : World} {v : Value} {s : Bool} {n d : Nat} (h : Frac w v s n d) (ln : Len n ≤ 10000000000) : Calls Try.prog 114 #[v] w (RetF w (!s && decide (n ≠ 0)) n d) := by
  obtain ⟨o1, k1, c1', o2, k2, c2', rfl, hn, hd⟩ := h.box
  clear h
  obtain ⟨B1, bA, bR⟩ := boxes2 w (.bool s) (.slice o1 k1 c1') (.slice o2 k2 c2') (.bool false) (.slice none 0 0) (.slice none 0 0)
  have Hn := Lib.hid (hn.go B1); have Hd := Lib.hid (hd.go B1)
  clear hn hd
  have Hdec : Hid (decide (n = 0) = !decide (n ≠ 0)) := by show _ = _; simp
  go_enter Try.func114, Try.ntmps114
  generalize hdd : decide (n ≠ 0) = t at *
  have Hdd := Lib.hid hdd; clear hdd
  go_wp2_with fail
  have BA := Lib.hid bA; have BR := Lib.hid bR; have HB1 := Lib.hid B1
  clear bA bR B1
  generalize (w.alloc (.cells #[.bool s, .slice o1 k1 c1', .slice o2 k2 c2'] 55)).alloc (.cells #[.bool false, .slice none 0 0, .slice none 0 0] 55) = w1 at *
  have c0 := BA.out.c0
  have c1 := BA.out.c1
  have c2 := BA.out.c2
  obtain ⟨r0, r1, r2, f0, f1, f2⟩ := Box3.facts BR.out
  cases s
  · go_region_held (fun w' => w'.cell? ⟨w.heap.size, 0, none⟩ = some (.bool false) ∧ w'.cell? ⟨w.heap.size, 1, none⟩ = some (.slice o1 k1 c1') ∧ w'.cell? ⟨w.heap.size, 2, none⟩ = some (.slice o2 k2 c2'))
      (first | exact ⟨c0, c1, c2⟩ | assumption | (simp [*, World.cell?_setCell_far]))
      ((go_at_call 98; refine (isZero_num Hn.out.drew ln).mono ?_; rintro e w5 ⟨rfl, rfl⟩; rw [Hdec.out]))
    go_wp2_with fail
    obtain ⟨e0, e1, e2, hret⟩ := box_ret (t := t) BR.out Hn.out Hd.out HB1.out (by omega)
    refine bodyPost_ret ?_ rfl hret.drew
    simp [results, Try.f114, go_sem, e0, e1, e2]
  · go_region
    go_wp2_with fail
    obtain ⟨e0, e1, e2, hret⟩ := box_ret (t := false) BR.out Hn.out Hd.out HB1.out (by omega)
    refine bodyPost_ret ?_ rfl hret.drew
    simp [results, Try.f114, go_sem, e0, e1, e2]
end Go.Proofs.Ytlkdahgfnfdakaa
