/- The reference's Is, Whole, Write, Parts. -/
import Derived.Test.YtlkdahgfnfdakaaRefM
import Derived.Test.YtlkdahgfnfdakaaRefO
namespace Go.Proofs.Ytlkdahgfnfdakaa
open Go Go.RowKit Go.Shelf WN LM

def IsR (n : Nat) : Rel := ⟨fun v w => RNum w v n, fun _ _ _ hb h => h.go hb⟩
theorem RFrac.go {w w' : World} {v : Value} {s : Bool} {n d : Nat} (h : RFrac w v s n d) (hb : Below w.heap.size w w') : RFrac w' v s n d := by
  obtain ⟨o1, k1, c1, o2, k2, c2, rfl, h1, h2⟩ := h
  exact ⟨o1, k1, c1, o2, k2, c2, rfl, h1.go hb, h2.go hb⟩

set_option maxHeartbeats 2000000 in
set_option maxRecDepth 100000 in
theorem ris_any (w : World) (a : ByteArray) (ha : a.size ≤ 140737488355328) : Calls Try.prog 19 #[.string a] w fun e w' => e = .returned (.bool (readQ a.data.toList).isSome) ∧ Below w.heap.size w w' := by
  have RD := Lib.hid (rread_any a w ha)
  have HA := Lib.hid ha; clear ha
  go_enter Try.func19, Try.ntmps19
  go_wp2_with fail
  refine RD.out.mono ?_; rintro e w1 ⟨v1, hb1, h⟩
  have HB1 := Lib.hid hb1; clear hb1
  cases hq : readQ a.data.toList with
  | none =>
    rw [hq] at h
    obtain ⟨rfl, rfl⟩ := h
    have HQ := Lib.hid hq; clear hq
    go_wp2_with fail
    go_ret
    exact ⟨by rw [HQ.out]; rfl, bstep HB1.out (below_alloc _ _)⟩
  | some q =>
    rw [hq] at h
    obtain ⟨s, n, d⟩ := q
    obtain ⟨rfl, o1, k1, c1, o2, k2, c2, rfl, h1, h2⟩ := h
    have HQ := Lib.hid hq; clear hq h1 h2
    go_wp2_with fail
    go_ret
    exact ⟨by rw [HQ.out]; rfl, bstep HB1.out (below_alloc _ _)⟩

set_option maxHeartbeats 2000000 in
set_option maxRecDepth 100000 in
theorem rwhole_any {w : World} {v : Value} {s : Bool} {n d : Nat} (h : RFrac w v s n d) (ld : RLen d ≤ 100000) : Calls Try.prog 83 #[v] w fun e w' => e = .returned (.bool (decide (d = 1))) ∧ Below w.heap.size w w' := by
  obtain ⟨o1, k1, c1, o2, k2, c2, rfl, h1, h2⟩ := h
  have bx := BoxQ.new w (.bool s) (.slice o1 k1 c1) (.slice o2 k2 c2)
  have b1 := below_alloc w (.cells #[.bool s, .slice o1 k1 c1, .slice o2 k2 c2] 60)
  have BX := Lib.hid bx; have HB1 := Lib.hid b1; have H2 := Lib.hid (h2.go b1)
  have LD := Lib.hid ld
  have N1 : Hid (∀ W, Calls Try.prog 58 #[.int .u64 1] W (RRet W 1)) := fun W => natOf_any 1 (by omega) W
  obtain ⟨c, hc⟩ : ∃ c : Int, cmpN d 1 = c := ⟨_, rfl⟩
  have HC := Lib.hid hc
  have CMP : Hid (∀ W v u, RNum W v d → RNum W u 1 → Calls Try.prog 103 #[v, u] W fun e w' => e = .returned (.int .i64 c) ∧ Below W.heap.size W w') := fun W v u h1 h2 => by
    have := rcmp_any h1 h2 (by omega) (by rw [rlen_one]; omega)
    rwa [hc] at this
  clear h1 h2 ld bx b1 hc
  go_enter Try.func83, Try.ntmps83
  go_wp2_with fail
  generalize w.alloc (.cells #[.bool s, .slice o1 k1 c1, .slice o2 k2 c2] 60) = w1 at *
  refine region_inv 4 8 [(3, Is (.pointer (some ⟨w.heap.size, 2, none⟩))), (4, Is (.slice o2 k2 c2)), (5, IsR 1), (6, Is (.int .i64 c))] (by kernel_rfl) rfl (by kernel_rfl) ?_ ?_
  · refine steps_cons rfl (fun A_ W hb hr hg K hK => ?_) <| steps_cons rfl (fun A_ W hb hr hg K hK => ?_) <| steps_cons rfl (fun A_ W hb hr hg K hK => ?_) <| steps_cons rfl (fun A_ W hb hr hg K hK => ?_) trivial
    · have e0 : A_.tmps[1]?.getD undef = .pointer (some ⟨w.heap.size, 0, none⟩) := hb 1 (by kernel_rfl)
      clear hb hr
      go_simp
      exact hK _ _ (Below.refl _ _) (rfl)
    · have e0 : A_.tmps[3]?.getD undef = .pointer (some ⟨w.heap.size, 2, none⟩) := hr 3 (by kernel_rfl)
      clear hb hr
      have c0 := (BX.out.go hg).facts.2.2.1
      go_simp; exact hK _ _ (Below.refl _ _) (rfl)
    · clear hb hr
      go_simp
      refine (N1.out W).mono ?_; rintro e w5 ⟨v5, rfl, hv5, hb5⟩
      exact hK _ _ hb5 hv5
    · have e0 : A_.tmps[4]?.getD undef = .slice o2 k2 c2 := hr 4 (by kernel_rfl)
      have h5 : RNum W (A_.tmps[5]?.getD undef) 1 := hr 5 (by kernel_rfl)
      clear hb hr
      have H5 := Lib.hid h5; clear h5
      go_simp
      refine (CMP.out _ _ _ (H2.out.go hg) H5.out).mono ?_; rintro e w5 ⟨rfl, hb5⟩
      exact hK _ _ hb5 rfl
  rintro g101 w101 hb101 ⟨-, -, -, h6, -⟩
  simp only [List.drop_succ_cons, List.drop_zero, List.take_succ_cons, List.take_zero, putHead, Option.getD_some, Act.put, List.setIfInBounds_toArray, List.set_cons_zero, List.set_cons_succ]
  replace h6 : g101 6 = .int .i64 c := h6
  generalize g101 6 = v6 at *
  subst h6
  have HB2 := Lib.hid (bstep HB1.out hb101); clear hb101
  go_wp2_with fail
  go_ret
  refine ⟨?_, HB2.out⟩
  have : (c == 0) = decide (d = 1) := by
    rw [← HC.out]
    unfold cmpN
    by_cases h1 : d < 1
    · rw [if_pos h1, show decide (d = 1) = false from decide_eq_false (by omega)]; rfl
    · rw [if_neg h1]
      by_cases h2 : 1 < d
      · rw [if_pos h2, show decide (d = 1) = false from decide_eq_false (by omega)]; rfl
      · rw [if_neg h2, show decide (d = 1) = true from decide_eq_true (by omega)]; rfl
  rw [← this]
  rfl
end Go.Proofs.Ytlkdahgfnfdakaa
