import Derived.Test.YtlkdahgfnfdakaaFracL
import Derived.Test.YtlkdahgfnfdakaaFracJ
namespace Go.Proofs.Ytlkdahgfnfdakaa
open Go.RowKit WN LM

/-- the sum of two numbers: its sign, its terms -/
def sumS (s : Bool) (n d : Nat) (t : Bool) (m c : Nat) : Bool := plusS s n d t m c && decide (plusN s n d t m c ≠ 0)
def sumN (s : Bool) (n d : Nat) (t : Bool) (m c : Nat) : Nat := plusN s n d t m c / Nat.gcd (plusN s n d t m c) (Nat.gcd d c)
def sumD (s : Bool) (n d : Nat) (t : Bool) (m c : Nat) : Nat :=
  if plusN s n d t m c = 0 then 1 else Nat.gcd d c / Nat.gcd (plusN s n d t m c) (Nat.gcd d c) * (d / Nat.gcd d c) * (c / Nat.gcd d c)

theorem fracSum_num {w : World} {v u : Value} {s t : Bool} {n d m c : Nat} (h : Frac w v s n d) (k : Frac w u t m c) (ln : Len n ≤ 100000000) (ld : Len d ≤ 100000000) (lm : Len m ≤ 100000000) (lc : Len c ≤ 100000000) (d0 : 0 < d) :
    Calls Try.prog 70 #[v, u] w (RetF w (sumS s n d t m c) (sumN s n d t m c) (sumD s n d t m c)) := by
  have key := fracPlus_num h k ln ld lm lc d0
  unfold sumS sumN sumD
  by_cases h0 : plusN s n d t m c = 0
  · rw [if_pos h0] at key
    simpa [h0] using key
  · rw [if_neg h0] at key
    simpa [h0] using key

set_option maxHeartbeats 4000000 in
set_option maxRecDepth 100000 in
theorem fracMinus_num {w : World} {v u : Value} {s t : Bool} {n d m c : Nat} (h : Frac w v s n d) (k : Frac w u t m c) (ln : Len n ≤ 100000000) (ld : Len d ≤ 100000000) (lm : Len m ≤ 100000000) (lc : Len c ≤ 100000000) (d0 : 0 < d) :
    Calls Try.prog 72 #[v, u] w (RetF w (sumS s n d (!t && decide (m ≠ 0)) m c) (sumN s n d (!t && decide (m ≠ 0)) m c) (sumD s n d (!t && decide (m ≠ 0)) m c)) := by
  obtain ⟨o1, k1, c1', o2, k2, c2', rfl, hn, hd⟩ := h.box
  obtain ⟨o3, k3, c3', o4, k4, c4', rfl, hm, hc⟩ := k.box
  clear h k
  obtain ⟨B1, bA, bB, bR⟩ := boxes3 w (.bool s) (.slice o1 k1 c1') (.slice o2 k2 c2') (.bool t) (.slice o3 k3 c3') (.slice o4 k4 c4') (.bool false) (.slice none 0 0) (.slice none 0 0)
  have Hn := Lib.hid (hn.go B1); have Hm := Lib.hid (hm.go B1)
  have Hd := Lib.hid (hd.go B1); have Hc := Lib.hid (hc.go B1)
  clear hn hd hm hc
  have NG := Lib.hid (fun w' v h => negated_num (w := w') (v := v) (s := t) (n := m) (d := c) h (by omega))
  have PL := Lib.hid (fun w' v u a b => fracSum_num (w := w') (v := v) (u := u) (s := s) (t := (!t && decide (m ≠ 0))) (n := n) (d := d) (m := m) (c := c) a b ln ld lm lc d0)
  clear d0
  suffices main : ∀ RR : Ending → World → Prop, Hid (∀ e w', RetF w (sumS s n d (!t && decide (m ≠ 0)) m c) (sumN s n d (!t && decide (m ≠ 0)) m c) (sumD s n d (!t && decide (m ≠ 0)) m c) e w' → RR e w') → Calls Try.prog 72 #[.agg #[.bool s, .slice o1 k1 c1', .slice o2 k2 c2'], .agg #[.bool t, .slice o3 k3 c3', .slice o4 k4 c4']] w RR from main _ (fun _ _ h => h)
  intro RR HR
  generalize (!t && decide (m ≠ 0)) = t' at *
  generalize sumS s n d t' m c = S at *
  generalize sumN s n d t' m c = N at *
  generalize sumD s n d t' m c = D at *
  go_enter Try.func72, Try.ntmps72
  go_wp2_with fail
  have BA := Lib.hid bA; have BB := Lib.hid bB; have BR := Lib.hid bR; have HB1 := Lib.hid B1
  clear bA bB bR B1
  generalize ((w.alloc (.cells #[.bool s, .slice o1 k1 c1', .slice o2 k2 c2'] 55)).alloc (.cells #[.bool t, .slice o3 k3 c3', .slice o4 k4 c4'] 55)).alloc (.cells #[.bool false, .slice none 0 0, .slice none 0 0] 55) = w1 at *
  refine region_inv 4 9 [(5, Is (.agg #[.bool s, .slice o1 k1 c1', .slice o2 k2 c2'])), (6, Is (.agg #[.bool t, .slice o3 k3 c3', .slice o4 k4 c4'])), (7, IsFrac t' m c), (8, IsFrac S N D)] (by kernel_rfl) rfl (by kernel_rfl) ?_ ?_
  · refine steps_cons rfl (fun a W hb hr hg K hK => ?_) <| steps_cons rfl (fun a W hb hr hg K hK => ?_) <| steps_cons rfl (fun a W hb hr hg K hK => ?_) <| steps_cons rfl (fun a W hb hr hg K hK => ?_) trivial
    · have e : a.tmps[2]?.getD undef = .pointer (some ⟨w.heap.size, 0, none⟩) := hb 2 (by kernel_rfl)
      clear hb hr
      obtain ⟨c0, c1, c2, f0, f1, f2⟩ := Box3.facts (BA.out.go hg)
      go_simp
      exact hK _ _ (Below.refl _ _) rfl
    · have e : a.tmps[3]?.getD undef = .pointer (some ⟨w.heap.size + 1, 0, none⟩) := hb 3 (by kernel_rfl)
      clear hb hr
      obtain ⟨c0, c1, c2, f0, f1, f2⟩ := Box3.facts (BB.out.go hg)
      go_simp
      exact hK _ _ (Below.refl _ _) rfl
    · have e : a.tmps[6]?.getD undef = _ := hr 6 (by kernel_rfl)
      clear hb hr
      go_simp
      refine (NG.out _ _ ⟨_, _, rfl, Hm.out.go hg, Hc.out.go hg⟩).mono ?_; rintro e w2 ⟨v2, rfl, hv2, hb2⟩
      exact hK _ _ hb2 hv2
    · have e : a.tmps[5]?.getD undef = _ := hr 5 (by kernel_rfl)
      have e7 : Frac W (a.tmps[7]?.getD undef) t' m c := hr 7 (by kernel_rfl)
      clear hb hr
      have E7 := Lib.hid e7; clear e7
      go_simp
      refine (PL.out _ _ _ ⟨_, _, rfl, Hn.out.go hg, Hd.out.go hg⟩ E7.out).mono ?_; rintro e w2 ⟨v2, rfl, hv2, hb2⟩
      exact hK _ _ hb2 hv2
  · rintro g w2 hb2 ⟨-, -, -, h8, -⟩
    simp only [List.drop_succ_cons, List.drop_zero, List.take_succ_cons, List.take_zero, putHead, Option.getD_some, Act.put, List.setIfInBounds_toArray, List.set_cons_zero, List.set_cons_succ]
    replace h8 : Frac w2 (g 8) S N D := h8
    generalize g 8 = v8 at *
    generalize g 5 = g5 at *
    generalize g 6 = g6 at *
    generalize g 7 = g7 at *
    obtain ⟨p5, q5, z5, p6, q6, z6, rfl, hx5, hx6⟩ := h8.box
    have BR2 := Lib.hid (BR.out.go hb2); have Hx5 := Lib.hid hx5; have Hx6 := Lib.hid hx6; have B2 := Lib.hid (bstep HB1.out hb2)
    clear hx5 hx6 h8 hb2
    obtain ⟨r0, r1, r2, f0, f1, f2⟩ := Box3.facts BR2.out
    go_wp2_with fail
    obtain ⟨e0, e1, e2, hret⟩ := box_ret (t := S) BR2.out Hx5.out Hx6.out B2.out (by omega)
    refine bodyPost_ret ?_ rfl (HR.out _ _ hret)
    simp [results, Try.f72, go_sem, e0, e1, e2]
end Go.Proofs.Ytlkdahgfnfdakaa
