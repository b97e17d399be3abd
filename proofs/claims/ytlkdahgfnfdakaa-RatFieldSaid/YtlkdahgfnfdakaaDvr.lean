import Derived.Test.YtlkdahgfnfdakaaDvs
import Derived.Deep.RegionHeld
namespace Go.Proofs.Ytlkdahgfnfdakaa
open Go.RowKit WN LM

theorem Num.unique {w : World} {v : Value} {n m : Nat} (h1 : Num w v n) (h2 : Num w v m) : n = m := by
  obtain ⟨l, ⟨oa, ca, rfl, _, hc⟩, _, rfl⟩ := h1
  obtain ⟨l', ⟨oa', ca', he, _, hc'⟩, _, rfl⟩ := h2
  simp only [Value.slice.injEq] at he
  obtain ⟨rfl, hl, rfl⟩ := he
  congr 1
  refine List.ext_getElem hl (fun i h h' => ?_)
  obtain ⟨b, off, rfl, e⟩ := hc i h
  obtain ⟨b', off', he, e'⟩ := hc' i h'
  simp only [Option.some.injEq, Addr.mk.injEq, and_true] at he
  obtain ⟨rfl, rfl⟩ := he
  rw [e] at e'
  simp only [Option.some.injEq, Value.int.injEq, true_and] at e'
  omega

open Classical in
/-- the number that v holds -/
noncomputable def numOf (w : World) (v : Value) : Nat := if h : ∃ n, Num w v n then Classical.choose h else 0
theorem numOf_eq {w : World} {v : Value} {n : Nat} (h : Num w v n) : numOf w v = n := by
  unfold numOf
  rw [dif_pos ⟨n, h⟩]
  exact Num.unique (Classical.choose_spec (⟨n, h⟩ : ∃ n, Num w v n)) h

theorem lehmer_math {a b M : Nat} {A B C D : Int} (hM : 0 < M) (hle : b ≤ a) (g : ∃ st : Prop, LM.Good ((a / M : Nat) : Int) ((b / M : Nat) : Int) A B C D st ∧ (st ∨ B = 0)) (hB : B ≠ 0) :
    ∃ T1 T2 : Nat, A * a + B * b = T1 ∧ C * a + D * b = T2 ∧ T1 ≤ a ∧ T2 < b ∧ T2 ≤ T1 ∧ Nat.gcd T1 T2 = Nat.gcd a b := by
  obtain ⟨st, g, hst⟩ := g
  have hst : st := hst.resolve_right hB
  have e1 : ((a / M : Nat) : Int) * (M : Int) + ((a % M : Nat) : Int) = (a : Int) := by
    rw [← Int.natCast_mul, ← Int.natCast_add, Nat.mul_comm, Nat.div_add_mod]
  have e2 : ((b / M : Nat) : Int) * (M : Int) + ((b % M : Nat) : Int) = (b : Int) := by
    rw [← Int.natCast_mul, ← Int.natCast_add, Nat.mul_comm, Nat.div_add_mod]
  have h1 := Nat.mod_lt a hM
  have h2 := Nat.mod_lt b hM
  have h := g.all M (a % M : Nat) (b % M : Nat) (by omega) (by omega) (by omega) (by omega) (by rw [e1, e2]; omega)
  rw [e1, e2] at h
  obtain ⟨g1, g2, g3, g4, g5, g6⟩ := h
  obtain ⟨g5, g7⟩ := g5 hst
  obtain ⟨T1, hT1⟩ := Int.eq_ofNat_of_zero_le g1
  obtain ⟨T2, hT2⟩ := Int.eq_ofNat_of_zero_le g2
  rw [hT1, hT2] at g6
  exact ⟨T1, T2, hT1, hT2, by omega, by omega, by omega, g6⟩

theorem top_small {n k : Nat} (h : Len n ≤ k) : n / 1000000000 ^ (k - 2) < 1000000000000000000 := by
  apply Nat.div_lt_of_lt_mul
  have h1 := lt_len n
  refine Nat.lt_of_lt_of_le h1 (Nat.le_trans (Nat.pow_le_pow_right (by omega) (by omega : Len n ≤ (k - 2) + 2)) ?_)
  rw [Nat.pow_add]
  exact Nat.mul_le_mul_left _ (by simp)

theorem wp_cut {P : Program} {c : Code} {Q : Exit → Act → World → Prop} {a : Act} {w : World} {R : Value → Value → World → Prop} (F : Value → Value → Act) (h : c.wp P (OnlyNormal fun a' w' => ∃ v1 v2, a' = F v1 v2 ∧ R v1 v2 w') a w)
    (h2 : ∀ v1 v2 w', R v1 v2 w' → Q .normal (F v1 v2) w') : c.wp P Q a w :=
  wp_mono h (OnlyNormal.elim (by rintro a' w' ⟨v1, v2, rfl, h⟩; exact h2 v1 v2 w' h))
theorem keep_cells {w0 w w' : World} {p : Nat} {A B C D : Value} (h : Below w0.heap.size w0 w ∧ w.cell? ⟨p, 0, none⟩ = some A ∧ w.cell? ⟨p, 1, none⟩ = some B ∧ w.cell? ⟨p, 2, none⟩ = some C ∧ w.cell? ⟨p, 3, none⟩ = some D)
    (hb : Below w.heap.size w w') (hp : p < w0.heap.size) : Below w0.heap.size w0 w' ∧ w'.cell? ⟨p, 0, none⟩ = some A ∧ w'.cell? ⟨p, 1, none⟩ = some B ∧ w'.cell? ⟨p, 2, none⟩ = some C ∧ w'.cell? ⟨p, 3, none⟩ = some D := by
  obtain ⟨h0, h1, h2, h3, h4⟩ := h
  have hp' : p < w.heap.size := Nat.lt_of_lt_of_le hp h0.size
  exact ⟨h0.trans (hb.mono h0.size), (hb.cell (p := ⟨p, 0, none⟩) hp').trans h1, (hb.cell (p := ⟨p, 1, none⟩) hp').trans h2, (hb.cell (p := ⟨p, 2, none⟩) hp').trans h3, (hb.cell (p := ⟨p, 3, none⟩) hp').trans h4⟩

set_option maxHeartbeats 2000000 in
set_option maxRecDepth 100000 in
theorem divisor_num {w : World} {va vb : Value} {a b : Nat} (ha : Num w va a) (hb : Num w vb b) (la : Len a ≤ 1000000000) (lb : Len b ≤ 1000000000) :
    Calls Try.prog 89 #[va, vb] w (Ret1 w (Nat.gcd a b)) := by
  have Ha := Lib.hid ha
  have Hb := Lib.hid hb
  clear ha hb
  by_cases h1 : a = 1
  · have hd : Hid (decide (a = 1) = true) := by show _ = _; simp [h1]
    have Hg : Hid (Nat.gcd a b = 1) := by show _ = _; rw [h1, Nat.gcd_one_left]
    clear h1
    go_enter Try.func89, Try.ntmps89
    go_wp2_with fail
    refine (isOne_num Ha.out (by omega)).mono ?_; rintro e w1 ⟨rfl, rfl⟩; rw [hd.out]
    go_wp2_with fail
    refine (one_num _).mono ?_; rintro e w1 ⟨v, rfl, hv, hb1⟩
    go_wp2_with fail
    go_ret
    exact ⟨_, rfl, by rw [Hg.out]; exact hv, hb1⟩
  have hd1 : Hid (decide (a = 1) = false) := by show _ = _; simp [h1]
  by_cases h2 : b = 1
  · have hd : Hid (decide (b = 1) = true) := by show _ = _; simp [h2]
    have Hg : Hid (Nat.gcd a b = 1) := by show _ = _; rw [h2, Nat.gcd_one_right]
    clear h1 h2
    go_enter Try.func89, Try.ntmps89
    go_wp2_with fail
    refine (isOne_num Ha.out (by omega)).mono ?_; rintro e w1 ⟨rfl, rfl⟩; rw [hd1.out]
    go_wp2_with fail
    refine (isOne_num Hb.out (by omega)).mono ?_; rintro e w1 ⟨rfl, rfl⟩; rw [hd.out]
    go_wp2_with fail
    refine (one_num _).mono ?_; rintro e w1 ⟨v, rfl, hv, hb1⟩
    go_wp2_with fail
    go_ret
    exact ⟨_, rfl, by rw [Hg.out]; exact hv, hb1⟩
  have hd2 : Hid (decide (b = 1) = false) := by show _ = _; simp [h2]
  clear h1 h2
  go_enter Try.func89, Try.ntmps89
  go_wp2_with fail
  refine (isOne_num Ha.out (by omega)).mono ?_; rintro e w1 ⟨rfl, rfl⟩; rw [hd1.out]
  go_wp2_with fail
  refine (isOne_num Hb.out (by omega)).mono ?_; rintro e w1 ⟨rfl, rfl⟩; rw [hd2.out]
  go_wp2_with fail
  refine (compare_num Ha.out Hb.out (by omega) (by omega)).mono ?_; rintro e w1 ⟨rfl, hb1⟩
  have hc : (cmpN a b = -1 ∧ a < b) ∨ (0 ≤ cmpN a b ∧ cmpN a b ≤ 1 ∧ b ≤ a) := by
    unfold cmpN
    rcases Nat.lt_or_ge a b with h | h
    · rw [if_pos h]; exact .inl ⟨rfl, h⟩
    · rw [if_neg (by omega)]
      split
      · exact .inr ⟨by omega, by omega, h⟩
      · exact .inr ⟨by omega, by omega, h⟩
  have Ha1 := Lib.hid (Ha.out.below hb1 (Nat.le_refl _))
  have Hb1 := Lib.hid (Hb.out.below hb1 (Nat.le_refl _))
  clear Ha Hb hd1 hd2
  generalize cmpN a b = r at *
  rcases hc with ⟨rfl, hlt⟩ | ⟨hr, hr1, hlt⟩
  rotate_left
  have hrd : decide (r < 0) = false := by simp; omega
  rotate_left
  all_goals (
    have Hlt := Lib.hid hlt; clear hlt
    go_wp2
    go_loopw [0, 1] (fun v0 v1 wr => ∃ x y : Nat, Hid (Num wr v0 x) ∧ Hid (Num wr v1 y) ∧ Hid (y ≤ x) ∧ Len x ≤ 1000000000 ∧ Hid (Nat.gcd x y = Nat.gcd a b) ∧ Below w.heap.size w wr) (fun _ v1 wr => numOf wr v1)
    case atStart => first
      | exact ⟨a, b, Ha1, Hb1, Hlt, la, rfl, hb1⟩
      | exact ⟨b, a, Hb1, Ha1, Nat.le_of_lt Hlt.out, lb, Nat.gcd_comm _ _, hb1⟩
    case round =>
      clear Ha1 Hb1 Hlt hb1
      obtain ⟨x, y, Hx, Hy, Hle, lx, Hg, hb⟩ := hrel
      have ly := len_mono Hle.out
      obtain ⟨ox, cx, _, rfl, -, -, -, -⟩ := Hx.out.open
      obtain ⟨oy, cy, _, rfl, -, -, -, -⟩ := Hy.out.open
      by_cases h2 : Len y ≤ 2
      · by_cases hz : y = 0
        · have hd : Hid (decide (y = 0) = true) := by show _ = _; simp [hz]
          have Hg' : Hid (Nat.gcd a b = x) := by show _ = _; rw [← Hg.out, hz, Nat.gcd_zero_right]
          clear hz
          go_wp2_with fail
          refine (isZero_num Hy.out (by omega)).mono ?_; rintro e w2 ⟨rfl, rfl⟩; rw [hd.out]
          go_wp2_with fail
          go_ret
          exact ⟨_, rfl, by rw [Hg'.out]; exact Hx.out, hb⟩
        · have hd : Hid (decide (y = 0) = false) := by show _ = _; simp [hz]
          have hy9 : y < 1000000000000000000 := by
            have := lt_len y
            refine Nat.lt_of_lt_of_le this (Nat.le_trans (Nat.pow_le_pow_right (by omega) h2) (by simp))
          have hm := Nat.mod_lt x (Nat.pos_of_ne_zero hz)
          have hlm := len_mono (Nat.le_of_lt hm)
          have Hg' : Hid (Nat.gcd a b = Nat.gcd y (x % y)) := by show _ = _; rw [← Hg.out, Nat.gcd_comm x y, Nat.gcd_rec y x, Nat.gcd_comm]
          have hgl : Nat.gcd y (x % y) ≤ y := Nat.gcd_le_left _ (Nat.pos_of_ne_zero hz)
          have Hz := Lib.hid hz; clear hz
          have Hm := Lib.hid hm; clear hm
          have Hy9 := Lib.hid hy9; clear hy9
          have Hgl := Lib.hid hgl; clear hgl
          go_wp2_with fail
          refine (isZero_num Hy.out (by omega)).mono ?_; rintro e w2 ⟨rfl, rfl⟩; rw [hd.out]
          go_wp2_with fail
          refine (over_num Hx.out Hy.out lx (by omega) (Nat.pos_of_ne_zero Hz.out)).mono ?_; rintro e w2 ⟨vq, vr, rfl, hvq, hvr, hb2⟩
          have Hvr := Lib.hid hvr; clear hvr hvq
          go_wp2_with fail
          refine (toUint_num (Hy.out.below hb2 (Nat.le_refl _)) h2).mono ?_; rintro e w3 ⟨rfl, hb3⟩
          go_wp2_with fail
          refine (toUint_num (Hvr.out.below hb3 (Nat.le_refl _)) (by omega)).mono ?_; rintro e w4 ⟨rfl, hb4⟩
          go_wp2_with fail
          refine (smallDivisor_any y (x % y) (by have := Hy9.out; omega) (by have := Hy9.out; have := Hm.out; omega) _).mono ?_; rintro e w5 ⟨rfl, q5, rfl⟩
          go_wp2_with fail
          refine (fromUint_num (Nat.gcd y (x % y)) (by have := Hy9.out; have := Hgl.out; omega) _).mono ?_; rintro e w6 ⟨v6, rfl, hv6, hb6⟩
          go_wp2_with fail
          go_ret
          have b2 := hb.trans (hb2.mono hb.size)
          have b3 := b2.trans (hb3.mono b2.size)
          have b4 := b3.trans (hb4.mono b3.size)
          have b5 : Below w.heap.size w (w4.drewN q5) := b4.trans ⟨rfl, rfl, rfl, Nat.le_refl _, fun _ _ => rfl⟩
          exact ⟨v6, rfl, by rw [Hg'.out]; exact hv6, b5.trans (hb6.mono b5.size)⟩
      · go_wp2_with fail
        refine (top_num Hx.out (Len x) (by omega) (by omega) (Nat.le_refl _)).mono ?_; rintro e w2 ⟨rfl, rfl⟩
        go_wp2_with fail
        refine (top_num Hy.out (Len x) (by omega) (by omega) (by omega)).mono ?_; rintro e w2 ⟨rfl, rfl⟩
        go_wp2_with fail
        have t1 := top_small (Nat.le_refl (Len x))
        have t2 : y / 1000000000 ^ (Len x - 2) ≤ x / 1000000000 ^ (Len x - 2) := Nat.div_le_div_right Hle.out
        have Lm := Lib.hid (fun A B C D => lehmer_math (A := A) (B := B) (C := C) (D := D) (Nat.pow_pos (n := Len x - 2) (by omega : 0 < 1000000000)) Hle.out)
        have ex : (x : Int) / 1000000000 ^ (Len x - 2) = ((x / 1000000000 ^ (Len x - 2) : Nat) : Int) := by rw [Int.natCast_ediv, Int.natCast_pow]; rfl
        have ey : (y : Int) / 1000000000 ^ (Len x - 2) = ((y / 1000000000 ^ (Len x - 2) : Nat) : Int) := by rw [Int.natCast_ediv, Int.natCast_pow]; rfl
        rw [ex, ey]
        clear ex ey
        generalize x / 1000000000 ^ (Len x - 2) = X0 at *
        generalize y / 1000000000 ^ (Len x - 2) = Y0 at *
        have t1 : (X0 : Int) < 1000000000000000000 := by omega
        refine (commonSteps_any (X0 : Int) (Y0 : Int) (by omega) (by omega) t1 _).mono ?_; rintro e w2 ⟨A, B, C, D, x2, y2, rfl, cs, gd, hb2⟩
        clear t1 t2
        obtain ⟨hbA, hbB, hbC, hbD⟩ : (-1000000000 < A ∧ A < 1000000000) ∧ (-1000000000 < B ∧ B < 1000000000) ∧ (-1000000000 < C ∧ C < 1000000000) ∧ (-1000000000 < D ∧ D < 1000000000) := ⟨cs.bA, cs.bB, cs.bC, cs.bD⟩
        clear cs
        have Lm2 := Lib.hid (Lm.out A B C D gd)
        clear gd Lm
        have b3 : Below wr.heap.size wr (w2.alloc (Obj.cells #[Value.int IntKind.i64 A, Value.int IntKind.i64 B, Value.int IntKind.i64 C, Value.int IntKind.i64 D] 110)) := hb2.alloc hb2.size _
        have bb := hb.trans (b3.mono hb.size)
        have Hx3 := Lib.hid (Hx.out.below b3 (Nat.le_refl _))
        have Hy3 := Lib.hid (Hy.out.below b3 (Nat.le_refl _))
        have hrow : (w2.alloc (Obj.cells #[Value.int IntKind.i64 A, Value.int IntKind.i64 B, Value.int IntKind.i64 C, Value.int IntKind.i64 D] 110)).heap[w2.heap.size]? = _ := alloc_at _ _ _ rfl
        have c0 : (w2.alloc (Obj.cells #[Value.int IntKind.i64 A, Value.int IntKind.i64 B, Value.int IntKind.i64 C, Value.int IntKind.i64 D] 110)).cell? ⟨w2.heap.size, 0, none⟩ = some (.int .i64 A) := by rw [cell_of_row _ _ _ _ _ _ hrow]; rfl
        have c1 : (w2.alloc (Obj.cells #[Value.int IntKind.i64 A, Value.int IntKind.i64 B, Value.int IntKind.i64 C, Value.int IntKind.i64 D] 110)).cell? ⟨w2.heap.size, 1, none⟩ = some (.int .i64 B) := by rw [cell_of_row _ _ _ _ _ _ hrow]; rfl
        have c2 : (w2.alloc (Obj.cells #[Value.int IntKind.i64 A, Value.int IntKind.i64 B, Value.int IntKind.i64 C, Value.int IntKind.i64 D] 110)).cell? ⟨w2.heap.size, 2, none⟩ = some (.int .i64 C) := by rw [cell_of_row _ _ _ _ _ _ hrow]; rfl
        have c3 : (w2.alloc (Obj.cells #[Value.int IntKind.i64 A, Value.int IntKind.i64 B, Value.int IntKind.i64 C, Value.int IntKind.i64 D] 110)).cell? ⟨w2.heap.size, 3, none⟩ = some (.int .i64 D) := by rw [cell_of_row _ _ _ _ _ _ hrow]; rfl
        clear hrow
        have hlt3 : w2.heap.size < (w2.alloc (Obj.cells #[Value.int IntKind.i64 A, Value.int IntKind.i64 B, Value.int IntKind.i64 C, Value.int IntKind.i64 D] 110)).heap.size := by simp
        by_cases hB : B = 0
        · have hBd : (B == 0) = true := by simp [hB]
          clear Lm2
          have HB := Lib.hid hB; clear hB
          have hyp : 0 < y := by
            rcases Nat.eq_zero_or_pos y with h | h
            · rw [h, len_zero] at h2; omega
            · exact h
          have hm := Nat.mod_lt x hyp
          have Hg' : Hid (Nat.gcd y (x % y) = Nat.gcd a b) := by show _ = _; rw [← Hg.out, Nat.gcd_comm x y, Nat.gcd_rec y x, Nat.gcd_comm]
          have Hm := Lib.hid hm; clear hm
          go_wp2_with fail
          generalize (w2.alloc (Obj.cells #[Value.int IntKind.i64 A, Value.int IntKind.i64 B, Value.int IntKind.i64 C, Value.int IntKind.i64 D] 110)) = w3 at *
          refine (over_num Hx3.out Hy3.out lx (by omega) hyp).mono ?_; rintro e w4 ⟨vq, vr, rfl, hvq, hvr, hb4⟩
          go_wp2_with fail
          go_roundw
          case rel => exact ⟨y, x % y, Hy3.out.below hb4 (Nat.le_refl _), hvr, Nat.le_of_lt Hm.out, by omega, Hg'.out, bb.trans (hb4.mono bb.size)⟩
          case measure => rw [numOf_eq hvr, numOf_eq Hy.out]; exact Hm.out
        · have hBd : (B == 0) = false := by simp [hB]
          obtain ⟨T1, T2, e1, e2, h1a, h2b, h21, hgT⟩ := Lm2.out hB
          have HgT : Hid (Nat.gcd T1 T2 = Nat.gcd a b) := by show _ = _; rw [hgT]; exact Hg.out
          have lT := len_mono h1a
          have HB := Lib.hid hB; clear hB hgT Lm2
          have E1 := Lib.hid e1; clear e1
          have E2 := Lib.hid e2; clear e2
          have H2b := Lib.hid h2b; clear h2b
          have H21 := Lib.hid h21; clear h21
          have H1a := Lib.hid h1a; clear h1a
          go_wp2_with fail
          generalize (w2.alloc (Obj.cells #[Value.int IntKind.i64 A, Value.int IntKind.i64 B, Value.int IntKind.i64 C, Value.int IntKind.i64 D] 110)) = w3 at *
          have CT1 := fun (w' : World) (h : Below w3.heap.size w3 w' ∧ w'.cell? ⟨w2.heap.size, 0, none⟩ = some (.int .i64 A) ∧ w'.cell? ⟨w2.heap.size, 1, none⟩ = some (.int .i64 B) ∧ w'.cell? ⟨w2.heap.size, 2, none⟩ = some (.int .i64 C) ∧ w'.cell? ⟨w2.heap.size, 3, none⟩ = some (.int .i64 D)) =>
            combined_num (Hx3.out.below h.1 (Nat.le_refl _)) (Hy3.out.below h.1 (Nat.le_refl _)) lx Hle.out A B hbA hbB T1 E1.out H1a.out
          have CT2 := fun (w' : World) (h : Below w3.heap.size w3 w' ∧ w'.cell? ⟨w2.heap.size, 0, none⟩ = some (.int .i64 A) ∧ w'.cell? ⟨w2.heap.size, 1, none⟩ = some (.int .i64 B) ∧ w'.cell? ⟨w2.heap.size, 2, none⟩ = some (.int .i64 C) ∧ w'.cell? ⟨w2.heap.size, 3, none⟩ = some (.int .i64 D)) =>
            combined_num (Hx3.out.below h.1 (Nat.le_refl _)) (Hy3.out.below h.1 (Nat.le_refl _)) lx Hle.out C D hbC hbD T2 E2.out (Nat.le_trans H21.out H1a.out)
          have HT1 := Lib.hid CT1; clear CT1
          have HT2 := Lib.hid CT2; clear CT2
          clear E1 E2
          apply wp_cut (R := fun v1 v2 w' => Num w' v1 T1 ∧ Num w' v2 T2 ∧ Below w3.heap.size w3 w')
          case h =>
            go_region_held (fun w' => Below w3.heap.size w3 w' ∧ w'.cell? ⟨w2.heap.size, 0, none⟩ = some (.int .i64 A) ∧ w'.cell? ⟨w2.heap.size, 1, none⟩ = some (.int .i64 B) ∧ w'.cell? ⟨w2.heap.size, 2, none⟩ = some (.int .i64 C) ∧ w'.cell? ⟨w2.heap.size, 3, none⟩ = some (.int .i64 D))
              (first | exact ⟨(Below.refl _ _).drew, c0, c1, c2, c3⟩ | exact keep_cells (by assumption) hb5 hlt3 | exact keep_cells (by assumption) hb4 hlt3)
              ((go_at_call 124; first
                | ((with_reducible refine (HT1.out _ ?_).mono ?_); (focus assumption); rintro e w4 ⟨v1, rfl, hv1, hb4⟩)
                | ((with_reducible refine (HT2.out _ ?_).mono ?_); (focus assumption); rintro e w5 ⟨v2, rfl, hv2, hb5⟩)))
            exact ⟨v1, v2, rfl, hv1.below hb5 (Nat.le_refl _), hv2, by rename_i h; exact h.1⟩
          case h2 =>
            rintro v1 v2 w5 ⟨hv1, hv2, hb5⟩
            have Hv1 := Lib.hid hv1; clear hv1
            have Hv2 := Lib.hid hv2; clear hv2
            clear HT1 HT2
            go_wp2_with fail
            go_roundw
            case rel => exact ⟨T1, T2, Hv1.out, Hv2.out, H21.out, by omega, HgT.out, bb.trans (hb5.mono bb.size)⟩
            case measure => rw [numOf_eq Hv2.out, numOf_eq Hy.out]; exact H2b.out)
end Go.Proofs.Ytlkdahgfnfdakaa
