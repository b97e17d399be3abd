import Derived.Test.YtlkdahgfnfdakaaFracI
namespace Go.Proofs.Ytlkdahgfnfdakaa
open Go.RowKit WN LM

theorem u64_wrap_neg (n : Int) (h : n < 0) (h2 : -9223372036854775808 ≤ n) : IntKind.u64.wrap n = n + 18446744073709551616 := by
  have e : IntKind.u64.wrap n = n % 18446744073709551616 := by
    unfold IntKind.wrap
    simp [IntKind.signed, IntKind.bits]
  rw [e]; omega
theorem u64_wrap_back (n : Int) (h : n < 0) (h2 : -9223372036854775808 ≤ n) : IntKind.u64.wrap (-(n + 18446744073709551616)) = (n.natAbs : Nat) := by
  have e : IntKind.u64.wrap (-(n + 18446744073709551616)) = (-(n + 18446744073709551616)) % 18446744073709551616 := by
    unfold IntKind.wrap
    simp [IntKind.signed, IntKind.bits]
  rw [e]; omega

set_option maxHeartbeats 2000000 in
set_option maxRecDepth 100000 in
theorem fromInt_num (w : World) (n : Int) (h1 : -9223372036854775808 ≤ n) (h2 : n ≤ 9223372036854775807) : Calls Try.prog 63 #[.int .i64 n] w (RetF w (decide (n < 0)) n.natAbs 1) := by
  have B1 : Below w.heap.size w (w.alloc (.cells #[.bool false, .slice none 0 0, .slice none 0 0] 55)) := below_alloc _ _
  have bR := Box3.new w (.bool false) (.slice none 0 0) (.slice none 0 0)
  have BR := Lib.hid bR; have HB1 := Lib.hid B1; clear bR B1
  go_enter Try.func63, Try.ntmps63
  by_cases hn : n < 0
  · have hnd : decide (n < 0) = true := by simp [hn]
    have e1 := Lib.hid (u64_wrap_neg n hn h1)
    have e2 := Lib.hid (u64_wrap_back n hn h1)
    have hz : n.natAbs ≠ 0 := by omega
    have IN := Lib.hid (fun w' v h => integer_num (w := w') (va := v) (a := n.natAbs) true h (by have := len_lt (n := n.natAbs) (k := 3) (by have : (1000000000 : Nat) ^ 3 = 1000000000000000000000000000 := rfl; omega); omega))
    have FU := Lib.hid (fun w' => fromUint_num n.natAbs (by omega) w')
    have hzd : (true && decide (n.natAbs ≠ 0)) = decide (n < 0) := by rw [hnd]; simp; omega
    rw [hzd] at IN
    rw [hnd] at IN ⊢
    clear hz hzd
    generalize n.natAbs = m at *
    go_wp2_with fail
    rw [e1.out, e2.out]
    refine (FU.out _).mono ?_; rintro e w2 ⟨v2, rfl, hv2, hb2⟩
    have Hv2 := Lib.hid hv2; clear hv2
    go_wp2_with fail
    refine (IN.out _ _ Hv2.out).mono ?_; rintro e w3 ⟨v3, rfl, hv3, hb3⟩
    obtain ⟨p5, q5, z5, p6, q6, z6, rfl, hx5, hx6⟩ := hv3.box
    have Hx5 := Lib.hid hx5; have Hx6 := Lib.hid hx6
    have BR5 := Lib.hid (BR.out.go (bstep hb2 hb3)); have B5 := Lib.hid (bstep HB1.out (bstep hb2 hb3))
    clear hv3 hx5 hx6 hb2 hb3
    obtain ⟨r0, r1, r2, f0, f1, f2⟩ := Box3.facts BR5.out
    go_wp2_with fail
    obtain ⟨e0, e1, e2, hret⟩ := box_ret (t := true) BR5.out Hx5.out Hx6.out B5.out (by omega)
    refine bodyPost_ret ?_ rfl hret
    simp [results, Try.f63, go_sem, e0, e1, e2]
  · have hnd : decide (n < 0) = false := by simp; omega
    obtain ⟨m, rfl⟩ : ∃ m : Nat, n = m := ⟨n.toNat, by omega⟩
    have IN := Lib.hid (fun w' v h => integer_num (w := w') (va := v) (a := m) false h (by have := len_lt (n := m) (k := 3) (by have : (1000000000 : Nat) ^ 3 = 1000000000000000000000000000 := rfl; omega); omega))
    have FU := Lib.hid (fun w' => fromUint_num m (by omega) w')
    rw [hnd]
    have e1 : Hid (IntKind.u64.wrap (m : Int) = m) := IntWalk.u64_in _ ⟨by omega, by omega⟩
    rw [show ((m : Int)).natAbs = m from rfl]
    go_wp2_with fail
    refine (FU.out _).mono ?_; rintro e w2 ⟨v2, rfl, hv2, hb2⟩
    have Hv2 := Lib.hid hv2; clear hv2
    go_wp2_with fail
    refine (IN.out _ _ Hv2.out).mono ?_; rintro e w3 ⟨v3, rfl, hv3, hb3⟩
    obtain ⟨p5, q5, z5, p6, q6, z6, rfl, hx5, hx6⟩ := hv3.box
    have Hx5 := Lib.hid hx5; have Hx6 := Lib.hid hx6
    have BR5 := Lib.hid (BR.out.go (bstep hb2 hb3)); have B5 := Lib.hid (bstep HB1.out (bstep hb2 hb3))
    clear hv3 hx5 hx6 hb2 hb3
    obtain ⟨r0, r1, r2, f0, f1, f2⟩ := Box3.facts BR5.out
    go_wp2_with fail
    obtain ⟨e0, e1, e2, hret⟩ := box_ret (t := false) BR5.out Hx5.out Hx6.out B5.out (by omega)
    refine bodyPost_ret ?_ rfl hret
    simp [results, Try.f63, go_sem, e0, e1, e2]
end Go.Proofs.Ytlkdahgfnfdakaa
