/- The reference's numbers (rows of ints, base 10000): trim, cmpNat. The reference's numbers: natOf. The reference's digits. The reference's readNat, whole. The reference's subNat. The reference's addNat. The reference's mulNat, mulDigit, top. The reference's mulDigit, top. -/
import Derived.Test.YtegobakoflbnfaaGreatDoorMA
namespace Go.Proofs.YtegobakoflbnfaaGreatDoor.QA
open Go Go.RowKit Go.Shelf WN LM

/-- v is a row of ints that holds the number n -/
def RNum (w : World) (v : Value) (n : Nat) : Prop := ∃ l, Rep w .i64 v l ∧ Canon 10000 l ∧ val 10000 l = n
theorem RNum.go {w w' : World} {v : Value} {n : Nat} (h : RNum w v n) (hb : Below w.heap.size w w') : RNum w' v n := by
  obtain ⟨l, h1, h2⟩ := h
  exact ⟨l, h1.below hb (Nat.le_refl _), h2⟩
theorem trim_take {l : List Nat} {n : Nat} (hn : n ≤ l.length) (hz : ∀ j (hj : j < l.length), n ≤ j → l[j] = 0) (ht : n = 0 ∨ ∃ h : n - 1 < l.length, l[n - 1] ≠ 0) : trim l = l.take n := by
  rcases ht with rfl | ⟨h, ht⟩
  · rw [trim_zeros fun j hj => hz j hj (Nat.zero_le _)]; simp
  · rcases Nat.eq_zero_or_pos n with rfl | h0
    · rw [trim_zeros fun j hj => hz j hj (Nat.zero_le _)]; simp
    · have := trim_top h (fun j hj h2 => hz j hj (by omega)) ht
      rwa [show n - 1 + 1 = n from by omega] at this

set_option maxHeartbeats 2000000 in
set_option maxRecDepth 100000 in
theorem rtrim_at {oa : Option Addr} {l : List Nat} {cap : Nat} (hlen : l.length ≤ 1000000000000) {w : World} (hr : Rep w .i64 (.slice oa l.length cap) l) :
    Calls Tryz.prog 100 #[.slice oa l.length cap] w fun e w' => ∃ v, e = .returned v ∧ Rep w .i64 v (trim l) ∧ w' = w ∧ ∃ k, v = .slice oa k cap := by
  have HR := Lib.hid hr
  have hcap := hr.len.2
  clear hr
  obtain ⟨N, hN⟩ : ∃ N, l.length = N := ⟨_, rfl⟩
  rw [hN] at hlen hcap
  rw [hN]
  have HN := Lib.hid hN; have HLEN := Lib.hid hlen
  clear hN hlen
  go_enter Tryz.func100, Tryz.ntmps100
  go_wp2_with fail
  go_loopw [3] (fun v3 wr => ∃ n : Nat, n ≤ N ∧ v3 = .int .i64 (n : Nat) ∧ Hid (∀ j (hj : j < l.length), n ≤ j → l[j] = 0) ∧ wr = w) (fun v3 _ => (intOf v3).toNat)
  case atStart => exact ⟨N, Nat.le_refl _, rfl, fun j hj h => by have := HN.out; omega, rfl⟩
  case round =>
    obtain ⟨n, hn, rfl, hz, rfl⟩ := hrel
    by_cases h0 : n = 0
    · have ht : trim l = l.take n := trim_take (by have := HN.out; omega) hz.out (Or.inl h0)
      have HT := Lib.hid ht; clear ht
      have hnc : n ≤ cap := by omega
      subst h0
      have HR2 : Hid (Rep wr .i64 (.slice oa 0 cap) (l.take 0)) := HR.out.take 0 (Nat.zero_le _)
      have t0 : ¬ (0 : Nat) < 0 := by omega
      clear HR
      cases oa with
      | none =>
        go_wp2_with fail
        go_ret
        exact ⟨_, rfl, by rw [HT.out]; exact HR2.out, rfl, _, rfl⟩
      | some a =>
        obtain ⟨b, off, sp⟩ := a
        go_wp2_with fail
        go_ret
        exact ⟨_, rfl, by rw [HT.out]; exact HR2.out, rfl, _, rfl⟩
    · have t0 : 0 < n := by omega
      have hw : wrap64 ((n : Int) - 1) = ((n - 1 : Nat) : Int) := by unfold wrap64; have := HLEN.out; omega
      have hl1 : n - 1 < l.length := by have := HN.out; omega
      obtain ⟨b, off, hoa, -, hc⟩ := HR.out.at' (Below.refl _ _) (n - 1) hl1
      subst hoa
      have HX : Hid (l[n - 1] = 0 ∨ l[n - 1] ≠ 0) := by by_cases h : l[n - 1] = 0; exact Or.inl h; exact Or.inr h
      have HG : Hid (l[n - 1]? = some l[n - 1]) := List.getElem?_eq_getElem hl1
      have hn1 : n - 1 < N := by omega
      have hnc : n ≤ cap := by omega
      have hzz : ∀ x : Nat, l[n - 1] = x → x = 0 → Hid (∀ j (hj : j < l.length), n - 1 ≤ j → l[j] = 0) := fun x hx h0 j hj h => by
        rcases Nat.lt_or_ge j n with h' | h'
        · have : j = n - 1 := by omega
          subst this; rw [hx, h0]
        · exact hz.out j hj h'
      have htt : ∀ x : Nat, l[n - 1] = x → x ≠ 0 → Hid (trim l = l.take n) := fun x hx h0 => trim_take (by have := HN.out; omega) hz.out (Or.inr ⟨hl1, by rw [hx]; exact h0⟩)
      generalize hx : l[n - 1] = x at *
      have HZ := Lib.hid (hzz x rfl); have HT := Lib.hid (htt x rfl)
      have HHL := Lib.hid hl1; have H0 := Lib.hid h0
      clear hzz htt hz HG h0
      by_cases hx0 : x = 0
      · have tx : ((x : Int) == 0) = true := by rw [beq_iff_eq]; omega
        have HZ2 := HZ.out hx0
        clear HT HZ hx hx0 HX hl1
        go_wp2_with fail
        go_roundw
        case rel => exact ⟨n - 1, by omega, congrArg (Value.int .i64) hw, HZ2.out, by first | trivial | rfl⟩
        case measure => have := H0.out; rw [hw]; simp [intOf]; omega
      · have tx : ((x : Int) == 0) = false := by rw [beq_eq_false_iff_ne]; omega
        have HT2 := HT.out hx0
        clear HT HZ hx hx0 HX hl1
        go_wp2_with fail
        go_ret
        refine ⟨_, rfl, ?_, rfl, _, rfl⟩
        rw [HT2.out]
        exact HR.out.take n (by have := HN.out; omega)
theorem rtrim_any {oa : Option Addr} {l : List Nat} {cap : Nat} (hlen : l.length ≤ 1000000000000) {w : World} (hr : Rep w .i64 (.slice oa l.length cap) l) :
    Calls Tryz.prog 100 #[.slice oa l.length cap] w fun e w' => ∃ v, e = .returned v ∧ Rep w .i64 v (trim l) ∧ w' = w :=
  (rtrim_at hlen hr).mono fun _ _ ⟨v, h1, h2, h3, _⟩ => ⟨v, h1, h2, h3⟩
/-- a value that does not lie in block g -/
def NotIn (g : Nat) (v : Value) : Prop := ∀ b off n c, v = .slice (some ⟨b, off, none⟩) n c → b ≠ g
theorem RNum.set_far {w : World} {v : Value} {n g i : Nat} {x : Value} (h : RNum w v n) (hf : NotIn g v) : RNum (w.setCell ⟨g, i, none⟩ x) v n := by
  obtain ⟨l, ⟨oa, ca, rfl, hc, hcell⟩, hl⟩ := h
  refine ⟨l, ⟨oa, ca, rfl, hc, fun j hj => ?_⟩, hl⟩
  obtain ⟨b, off, rfl, e⟩ := hcell j hj
  refine ⟨b, off, rfl, ?_⟩
  rw [World.cell?_setCell_far _ _ _ _ (fun h => hf b off _ _ rfl h.symm)]
  exact e
theorem keepc {w w' : World} {a : Addr} {x : Value} (h : w.cell? a = some x) (hb : Below w.heap.size w w') : w'.cell? a = some x := (hb.cell (World.block_lt_of_cell? w a h)).trans h





/-- lengths first -/
def RLen (n : Nat) : Nat := (ofNat 10000 n).length
theorem rlen_eq {l : List Nat} {n : Nat} (h : Canon 10000 l) (hv : val 10000 l = n) : l.length = RLen n := by
  unfold RLen; rw [← ofNat_unique (by omega) h hv]
theorem cmpT_len {la lb : List Nat} (ca : Canon 10000 la) (cb : Canon 10000 lb) (h : la.length < lb.length) : val 10000 la < val 10000 lb := by
  have h1 := val_lt (B := 10000) (by omega) ca.1
  have h2 := pow_le_val (B := 10000) cb.2 (by intro e; subst e; simp at h)
  have h3 : 10000 ^ la.length ≤ 10000 ^ (lb.length - 1) := Nat.pow_le_pow_right (by omega) (by omega)
  omega

theorem cmpT_at {la lb : List Nat} (ca : Digs 10000 la) (cb : Digs 10000 lb) (hl : la.length = lb.length) {i x y : Nat} (hi : i < la.length) (hx : la[i]? = some x) (hy : lb[i]? = some y)
    (ht : la.drop (i + 1) = lb.drop (i + 1)) (hxy : x < y) : val 10000 la < val 10000 lb := by
  have hi2 : i < lb.length := hl ▸ hi
  rw [val_take_drop _ la i (by omega), val_take_drop _ lb i (by omega), val_drop _ _ _ hi, val_drop _ _ _ hi2, ht]
  rw [List.getElem?_eq_getElem hi] at hx
  rw [List.getElem?_eq_getElem hi2] at hy
  have hx := Option.some.inj hx
  have hy := Option.some.inj hy
  subst hx; subst hy
  have h1 := val_lt (B := 10000) (by omega) (ca.take i)
  rw [List.length_take, Nat.min_eq_left (by omega)] at h1
  generalize 10000 ^ i = P at *
  generalize val 10000 (lb.drop (i + 1)) = T at *
  generalize la[i] = x at *
  generalize lb[i] = y at *
  have h2 : P * (x + 1) ≤ P * y := Nat.mul_le_mul_left P hxy
  rw [Nat.mul_add, Nat.mul_add]
  rw [Nat.mul_add] at h2
  omega

set_option maxHeartbeats 2000000 in
set_option maxRecDepth 100000 in
theorem rcmp_any {va vb : Value} {n m : Nat} {w : World} (ha : RNum w va n) (hb : RNum w vb m) (ln : RLen n ≤ 100000000000) (lm : RLen m ≤ 100000000000) :
    Calls Tryz.prog 76 #[va, vb] w fun e w' => e = .returned (.int .i64 (cmpN n m)) ∧ Below w.heap.size w w' := by
  obtain ⟨la, ra, ca, rfl⟩ := ha
  obtain ⟨lb, rb, cb, rfl⟩ := hb
  have hla : la.length ≤ 100000000000 := by rw [rlen_eq ca rfl]; exact ln
  have hlb : lb.length ≤ 100000000000 := by rw [rlen_eq cb rfl]; exact lm
  clear ln lm
  obtain ⟨oa, capa, rfl, -, -⟩ := id ra
  obtain ⟨ob, capb, rfl, -, -⟩ := id rb
  have RA := Lib.hid ra; have RB := Lib.hid rb; have CA := Lib.hid ca; have CB := Lib.hid cb
  clear ra rb ca cb
  by_cases h1 : la.length < lb.length
  · have hc : Hid (cmpN (val 10000 la) (val 10000 lb) = -1) := by show _ = _; simp [cmpN, cmpT_len CA.out CB.out h1]
    have t1 : ((la.length : Int) != (lb.length : Int)) = true := by rw [bne_iff_ne]; omega
    have t2 : decide ((la.length : Int) < (lb.length : Int)) = true := decide_eq_true (by omega)
    generalize la.length = na at *
    generalize lb.length = nb at *
    clear CA CB RA RB
    go_enter Tryz.func76, Tryz.ntmps76
    go_wp2_with fail
    go_ret
    exact ⟨by rw [hc.out]; rfl, Below.refl _ _⟩
  by_cases h2 : lb.length < la.length
  · have hc : Hid (cmpN (val 10000 la) (val 10000 lb) = 1) := by
      show _ = _
      have := cmpT_len CB.out CA.out h2
      unfold cmpN; rw [if_neg (by omega), if_pos this]
    have t1 : ((la.length : Int) != (lb.length : Int)) = true := by rw [bne_iff_ne]; omega
    have t2 : decide ((la.length : Int) < (lb.length : Int)) = false := decide_eq_false (by omega)
    generalize la.length = na at *
    generalize lb.length = nb at *
    clear CA CB RA RB
    go_enter Tryz.func76, Tryz.ntmps76
    go_wp2_with fail
    go_ret
    exact ⟨by rw [hc.out]; rfl, Below.refl _ _⟩
  have hl : la.length = lb.length := by omega
  have HLL := Lib.hid hl
  obtain ⟨N, hN⟩ : ∃ N, la.length = N := ⟨_, rfl⟩
  have hN2 : lb.length = N := by omega
  rw [hN] at hla
  rw [hN, hN2]
  have HN := Lib.hid hN; have HN2 := Lib.hid hN2; have HLA := Lib.hid hla
  clear h1 h2 hl hN hN2 hlb hla
  go_enter Tryz.func76, Tryz.ntmps76
  have hw0 : wrap64 ((N : Int) - 1) = (N : Int) - 1 := by unfold wrap64; have := HLA.out; omega
  go_wp2_with fail
  go_loopw [5] (fun v5 wr => ∃ i : Nat, i ≤ N ∧ v5 = .int .i64 ((i : Int) - 1) ∧ Hid (la.drop i = lb.drop i) ∧ Hid (Below w.heap.size w wr)) (fun v5 _ => (intOf v5 + 1).toNat)
  case atStart => exact ⟨N, Nat.le_refl _, by rw [hw0], by show _ = _; rw [List.drop_of_length_le (by have := HN.out; omega), List.drop_of_length_le (by have := HN2.out; omega)], Below.refl _ _⟩
  case round =>
    obtain ⟨i, hi, rfl, hd, hbel⟩ := hrel
    cases i with
    | zero =>
      have hc : Hid (cmpN (val 10000 la) (val 10000 lb) = 0) := by
        show _ = _
        have h := hd.out
        rw [List.drop_zero, List.drop_zero] at h
        rw [h]; simp [cmpN]
      have e0 : ((0 : Nat) : Int) - 1 = -1 := rfl
      rw [e0]
      clear e0
      go_wp2_with fail
      go_ret
      exact ⟨by rw [hc.out]; rfl, hbel.out⟩
    | succ k =>
      have e0 : ((k + 1 : Nat) : Int) - 1 = (k : Int) := by omega
      rw [e0]
      have hka : k < la.length := by have := HN.out; omega
      have hkb : k < lb.length := by have := HN2.out; omega
      obtain ⟨b1, f1, hoa, -, hx⟩ := RA.out.at' (Below.refl _ _) k hka
      obtain ⟨b2, f2, hob, -, hy⟩ := RB.out.at' (Below.refl _ _) k hkb
      subst hoa
      subst hob
      have HX := Lib.hid (keepc hx hbel.out); have HY := Lib.hid (keepc hy hbel.out)
      have GX : Hid (la[k]? = some la[k]) := List.getElem?_eq_getElem hka
      have GY : Hid (lb[k]? = some lb[k]) := List.getElem?_eq_getElem hkb
      have DX : Hid (la.drop k = la[k] :: la.drop (k + 1)) := List.drop_eq_getElem_cons hka
      have DY : Hid (lb.drop k = lb[k] :: lb.drop (k + 1)) := List.drop_eq_getElem_cons hkb
      have HKA := Lib.hid hka
      clear hx hy e0
      have hkn : k < N := by omega
      generalize la[k] = x at *
      generalize lb[k] = y at *
      clear hka hkb
      have tk : decide (0 ≤ (k : Int)) = true := decide_eq_true (by omega)
      have B100 := hbel
      go_wp2_with fail
      refine region_inv 8 41 [(23, Is (.slice (some ⟨b1, f1, none⟩) N capa)), (24, Is (.int .i64 ((k : Int)))), (25, Is (.pointer (some ⟨b1, f1 + k, none⟩))), (26, Is (.int .i64 ((x : Int)))), (27, Is (.slice (some ⟨b2, f2, none⟩) N capb)), (28, Is (.int .i64 ((k : Int)))), (29, Is (.pointer (some ⟨b2, f2 + k, none⟩))), (30, Is (.int .i64 ((y : Int))))] (by kernel_rfl) rfl (by kernel_rfl) ?_ ?_
      · refine steps_cons rfl (fun A_ W hb hr hg K hK => ?_) <| steps_cons rfl (fun A_ W hb hr hg K hK => ?_) <| steps_cons rfl (fun A_ W hb hr hg K hK => ?_) <| steps_cons rfl (fun A_ W hb hr hg K hK => ?_) <| steps_cons rfl (fun A_ W hb hr hg K hK => ?_) <| steps_cons rfl (fun A_ W hb hr hg K hK => ?_) <| steps_cons rfl (fun A_ W hb hr hg K hK => ?_) <| steps_cons rfl (fun A_ W hb hr hg K hK => ?_) trivial
        · have e0 : A_.tmps[0]?.getD undef = .slice (some ⟨b1, f1, none⟩) N capa := hb 0 (by kernel_rfl)
          clear hb hr
          go_simp
          exact hK _ _ (Below.refl _ _) (rfl)
        · have e0 : A_.tmps[5]?.getD undef = .int .i64 ((k : Int)) := hb 5 (by kernel_rfl)
          clear hb hr
          go_simp
          exact hK _ _ (Below.refl _ _) (rfl)
        · have e0 : A_.tmps[23]?.getD undef = .slice (some ⟨b1, f1, none⟩) N capa := hr 23 (by kernel_rfl)
          have e1 : A_.tmps[24]?.getD undef = .int .i64 ((k : Int)) := hr 24 (by kernel_rfl)
          clear hb hr
          go_simp; exact hK _ _ (Below.refl _ _) (rfl)
        · have e0 : A_.tmps[25]?.getD undef = .pointer (some ⟨b1, f1 + k, none⟩) := hr 25 (by kernel_rfl)
          clear hb hr
          have c0 := keepc HX.out hg
          go_simp; exact hK _ _ (Below.refl _ _) (rfl)
        · have e0 : A_.tmps[1]?.getD undef = .slice (some ⟨b2, f2, none⟩) N capb := hb 1 (by kernel_rfl)
          clear hb hr
          go_simp
          exact hK _ _ (Below.refl _ _) (rfl)
        · have e0 : A_.tmps[5]?.getD undef = .int .i64 ((k : Int)) := hb 5 (by kernel_rfl)
          clear hb hr
          go_simp
          exact hK _ _ (Below.refl _ _) (rfl)
        · have e0 : A_.tmps[27]?.getD undef = .slice (some ⟨b2, f2, none⟩) N capb := hr 27 (by kernel_rfl)
          have e1 : A_.tmps[28]?.getD undef = .int .i64 ((k : Int)) := hr 28 (by kernel_rfl)
          clear hb hr
          go_simp; exact hK _ _ (Below.refl _ _) (rfl)
        · have e0 : A_.tmps[29]?.getD undef = .pointer (some ⟨b2, f2 + k, none⟩) := hr 29 (by kernel_rfl)
          clear hb hr
          have c0 := keepc HY.out hg
          go_simp; exact hK _ _ (Below.refl _ _) (rfl)
      rintro g101 w101 hb101 ⟨-, -, -, h26, -, -, -, h30, -⟩
      simp only [List.drop_succ_cons, List.drop_zero, List.take_succ_cons, List.take_zero, putHead, Option.getD_some, Act.put, List.setIfInBounds_toArray, List.set_cons_zero, List.set_cons_succ]
      replace h26 : g101 26 = .int .i64 ((x : Int)) := h26
      generalize g101 26 = v26 at *
      subst h26
      replace h30 : g101 30 = .int .i64 ((y : Int)) := h30
      generalize g101 30 = v30 at *
      subst h30
      have B101 := Lib.hid (bstep (Below.refl _ _) hb101); clear hb101
      have BX := Lib.hid (hbel.out.trans (B101.out.mono hbel.out.size))
      by_cases hxy : x < y
      · have hc : Hid (cmpN (val 10000 la) (val 10000 lb) = -1) := by
          have := cmpT_at CA.out.1 CB.out.1 HLL.out HKA.out GX.out GY.out hd.out hxy
          show _ = _; unfold cmpN; rw [if_pos this]
        go_wp2_with fail
        go_ret
        exact ⟨by rw [hc.out]; rfl, BX.out⟩
      have HX2 := Lib.hid (keepc HX.out B101.out); have HY2 := Lib.hid (keepc HY.out B101.out)
      have HXY := Lib.hid hxy
      go_wp2_with fail
      refine region_inv 8 41 [(32, Is (.slice (some ⟨b1, f1, none⟩) N capa)), (33, Is (.int .i64 ((k : Int)))), (34, Is (.pointer (some ⟨b1, f1 + k, none⟩))), (35, Is (.int .i64 ((x : Int)))), (36, Is (.slice (some ⟨b2, f2, none⟩) N capb)), (37, Is (.int .i64 ((k : Int)))), (38, Is (.pointer (some ⟨b2, f2 + k, none⟩))), (39, Is (.int .i64 ((y : Int))))] (by kernel_rfl) rfl (by kernel_rfl) ?_ ?_
      · refine steps_cons rfl (fun A_ W hb hr hg K hK => ?_) <| steps_cons rfl (fun A_ W hb hr hg K hK => ?_) <| steps_cons rfl (fun A_ W hb hr hg K hK => ?_) <| steps_cons rfl (fun A_ W hb hr hg K hK => ?_) <| steps_cons rfl (fun A_ W hb hr hg K hK => ?_) <| steps_cons rfl (fun A_ W hb hr hg K hK => ?_) <| steps_cons rfl (fun A_ W hb hr hg K hK => ?_) <| steps_cons rfl (fun A_ W hb hr hg K hK => ?_) trivial
        · have e0 : A_.tmps[0]?.getD undef = .slice (some ⟨b1, f1, none⟩) N capa := hb 0 (by kernel_rfl)
          clear hb hr
          go_simp
          exact hK _ _ (Below.refl _ _) (rfl)
        · have e0 : A_.tmps[5]?.getD undef = .int .i64 ((k : Int)) := hb 5 (by kernel_rfl)
          clear hb hr
          go_simp
          exact hK _ _ (Below.refl _ _) (rfl)
        · have e0 : A_.tmps[32]?.getD undef = .slice (some ⟨b1, f1, none⟩) N capa := hr 32 (by kernel_rfl)
          have e1 : A_.tmps[33]?.getD undef = .int .i64 ((k : Int)) := hr 33 (by kernel_rfl)
          clear hb hr
          go_simp; exact hK _ _ (Below.refl _ _) (rfl)
        · have e0 : A_.tmps[34]?.getD undef = .pointer (some ⟨b1, f1 + k, none⟩) := hr 34 (by kernel_rfl)
          clear hb hr
          have c0 := keepc HX2.out hg
          go_simp; exact hK _ _ (Below.refl _ _) (rfl)
        · have e0 : A_.tmps[1]?.getD undef = .slice (some ⟨b2, f2, none⟩) N capb := hb 1 (by kernel_rfl)
          clear hb hr
          go_simp
          exact hK _ _ (Below.refl _ _) (rfl)
        · have e0 : A_.tmps[5]?.getD undef = .int .i64 ((k : Int)) := hb 5 (by kernel_rfl)
          clear hb hr
          go_simp
          exact hK _ _ (Below.refl _ _) (rfl)
        · have e0 : A_.tmps[36]?.getD undef = .slice (some ⟨b2, f2, none⟩) N capb := hr 36 (by kernel_rfl)
          have e1 : A_.tmps[37]?.getD undef = .int .i64 ((k : Int)) := hr 37 (by kernel_rfl)
          clear hb hr
          go_simp; exact hK _ _ (Below.refl _ _) (rfl)
        · have e0 : A_.tmps[38]?.getD undef = .pointer (some ⟨b2, f2 + k, none⟩) := hr 38 (by kernel_rfl)
          clear hb hr
          have c0 := keepc HY2.out hg
          go_simp; exact hK _ _ (Below.refl _ _) (rfl)
      rintro g102 w102 hb102 ⟨-, -, -, h35, -, -, -, h39, -⟩
      simp only [List.drop_succ_cons, List.drop_zero, List.take_succ_cons, List.take_zero, putHead, Option.getD_some, Act.put, List.setIfInBounds_toArray, List.set_cons_zero, List.set_cons_succ]
      replace h35 : g102 35 = .int .i64 ((x : Int)) := h35
      generalize g102 35 = v35 at *
      subst h35
      replace h39 : g102 39 = .int .i64 ((y : Int)) := h39
      generalize g102 39 = v39 at *
      subst h39
      have B102 := Lib.hid (bstep (Below.refl _ _) hb102); clear hb102
      have BY := Lib.hid (BX.out.trans (B102.out.mono BX.out.size))
      by_cases hyx : y < x
      · have hc : Hid (cmpN (val 10000 la) (val 10000 lb) = 1) := by
          have := cmpT_at CB.out.1 CA.out.1 HLL.out.symm (by have := HKA.out; have := HLL.out; omega) GY.out GX.out hd.out.symm hyx
          show _ = _; unfold cmpN; rw [if_neg (by omega), if_pos this]
        go_wp2_with fail
        go_ret
        exact ⟨by rw [hc.out]; rfl, BY.out⟩
      have HD : Hid (la.drop k = lb.drop k) := by
        have : x = y := by have := HXY.out; omega
        show _ = _
        rw [DX.out, DY.out, hd.out, this]
      have hw : wrap64 ((k : Int) - 1) = (k : Int) - 1 := by unfold wrap64; have := HLA.out; omega
      go_wp2_with fail
      go_roundw
      case rel => exact ⟨k, by omega, by rw [hw], HD.out, BY.out⟩
      case measure => rw [hw]; simp [intOf]
end Go.Proofs.YtegobakoflbnfaaGreatDoor.QA

namespace Go.Proofs.YtegobakoflbnfaaGreatDoor.QA
open Go Go.RowKit Go.Shelf WN LM

def RRet (w : World) (n : Nat) (e : Ending) (w' : World) : Prop := ∃ v, e = .returned v ∧ RNum w' v n ∧ Below w.heap.size w w'
theorem Tryz.underlying74 : Tryz.prog.underlying 74 = some (.slice 3) := by kernel_rfl
theorem one_celli (w : World) (x t : Nat) : ∀ j u, (nl .i64 [x])[j]? = some u → (w.alloc (.cells #[.int .i64 (x : Int)] t)).cell? ((⟨w.heap.size, 0, none⟩ : Addr).add j) = some u := by
  intro j u h
  match j, h with
  | 0, h => simp [nl] at h; subst h; simp [Addr.add]
  | j + 1, h => simp [nl] at h

/-- natOf, at the head of a round: what has been collected, and what is left -/
def NatOfInv (n : Nat) (w wr : World) (v : Value) (m : Nat) : Prop :=
  ∃ l, wr.ownsRow w.heap.size 3 1 v l.length (nl .i64 l) ∧ Digs 10000 l ∧ n = val 10000 l + 10000 ^ l.length * m ∧ (m = 0 → Top l) ∧ l.length ≤ 20 ∧ Below w.heap.size w wr

set_option maxHeartbeats 1000000 in
set_option maxRecDepth 100000 in
theorem natOf_any (n : Nat) (hn : n < 18446744073709551616) (w : World) : Calls Tryz.prog 73 #[.int .u64 (n : Nat)] w (RRet w n) := by
  have hn0 : (n : Int) ≤ 18446744073709551615 := by omega
  have Hn := Lib.hid hn0; clear hn0
  clear hn
  go_enter Tryz.func73, Tryz.ntmps73
  go_wp2
  obtain ⟨i0, hi, hz0, hz1, hz2⟩ := info_parts Tryz.info3
  go_loopw [3, 0] (fun v vm wr => ∃ m : Nat, vm = .int .u64 m ∧ (m : Int) ≤ 18446744073709551615 ∧ NatOfInv n w wr v m) (fun _ vm _ => (intOf vm).toNat)
  case atStart => exact ⟨n, rfl, Hn.out, [], World.ownsRow_nil _ _ _ _, Digs.nil _, by simp, fun _ => Top.nil, by simp, Below.refl _ _⟩
  case round =>
    obtain ⟨m, rfl, hm, hinv⟩ := hrel
    have Inv := Lib.hid hinv
    by_cases h0 : 0 < m
    · obtain ⟨l, hown, hd, he, ht, hl, hb⟩ := hinv
      have HE := Lib.hid he; clear he
      have HT := Lib.hid ht; clear ht
      have hl2 : l.length ≤ 4 := by
        have h1 : 10000 ^ l.length * 1 ≤ 10000 ^ l.length * m := Nat.mul_le_mul_left _ h0
        have h2 := HE.out
        have h3 : n < 10000 ^ 5 := by
          have := Hn.out
          have h9 : (10000 : Nat) ^ 5 = 100000000000000000000 := by decide
          rw [h9]; omega
        have h4 : 10000 ^ l.length < 10000 ^ 5 := by omega
        have := (Nat.pow_lt_pow_iff_right (by omega : 1 < 10000)).1 h4
        omega
      have Hm := Lib.hid hm; clear hm
      have hrem : wrap64 ((m : Int) % 10000) = (m : Int) % 10000 := by unfold wrap64; omega
      have hquo : IntKind.u64.wrap ((m : Int).tdiv 10000) = (m : Int) / 10000 := IntWalk.u64_quo _ _ ⟨by omega, Hm.out, by omega⟩
      go_wp2_with (at_builtin; refine wpList_append_own _ rfl (.tmp 6) (.tmp 10) 74 rfl w.heap.size 3 i0 (.int .i64 0) 1 8 Tryz.underlying74 hi hz0 hz1 hz2 rfl (by decide) _ l.length _ rfl (hown.alloc _) ⟨wr.heap.size, 0, none⟩ 1 1 (nl .i64 [m % 10000]) rfl rfl (by have := one_celli wr (m % 10000) 3; rwa [Int.natCast_emod] at this) (by intro u hu; simp [nl] at hu; subst hu; rfl) (by unfold maxLen; omega) (by omega) (by have := hb.size; simp; omega) ?_; intro v' w1 hown1 hgrow1 _)
      have hmw : IntKind.u64.wrap ((m : Int) / 10000) = ((m / 10000 : Nat) : Int) := by
        rw [Int.natCast_ediv]; exact IntWalk.u64_in _ ⟨by omega, by have := Hm.out; omega⟩
      rw [hmw]
      go_roundw
      case rel =>
        refine ⟨m / 10000, rfl, by have := Hm.out; omega, l ++ [m % 10000], ?_, hd.snoc (Nat.mod_lt _ (by omega)), ?_, ?_, by simp; omega, (hb.alloc hb.size _).grown hgrow1 (by simp; have := hb.size; omega) (fun k hk => (hown.lt k hk).1)⟩
        · rw [List.length_append, nl_append]; exact hown1
        · rw [val_snoc, List.length_append, List.length_singleton, Nat.pow_succ, HE.out]
          have := Nat.mod_add_div m 10000
          rw [Nat.add_assoc, Nat.mul_assoc, ← Nat.mul_add, this]
        · intro h
          refine top_snoc ?_
          omega
      case measure => simp [intOf]; omega
    · obtain rfl : m = 0 := by omega
      clear hinv
      go_wp2
      go_ret
      obtain ⟨l, hown, hd, he, ht, hl, hb⟩ := Inv.out
      exact ⟨_, rfl, ⟨l, Rep.own hown, ⟨hd, ht rfl⟩, by omega⟩, hb⟩
end Go.Proofs.YtegobakoflbnfaaGreatDoor.QA

namespace Go.Proofs.YtegobakoflbnfaaGreatDoor.QA
open Go Go.RowKit Go.Shelf WN LM

set_option maxHeartbeats 4000000 in
set_option maxRecDepth 100000 in
theorem rdigits_any (s : ByteArray) (w : World) (hs : s.size ≤ 140737488355328) : Calls Tryz.prog 89 #[.string s] w fun e w' => e = .returned (.bool (goodD s.data.toList)) ∧ w' = w := by
  have hlen : s.data.toList.length = s.size := by rw [Array.length_toList]; rfl
  have HL := Lib.hid hlen
  have HS : Hid ((s.size : Int) ≤ 140737488355328) := by show _ ≤ _; omega
  by_cases h1 : s.size = 0
  · have hg : Hid (goodD s.data.toList = false) := by show _ = _; unfold goodD; rw [hlen, h1]; rfl
    have e1 : ((s.size : Int) == 0) = true := by rw [beq_iff_eq]; omega
    clear hlen h1 hs
    go_enter Tryz.func89, Tryz.ntmps89
    go_wp2_with fail
    go_ret
    exact ⟨by rw [hg.out]; rfl, by first | trivial | rfl⟩
  have e1 : ((s.size : Int) == 0) = false := by rw [beq_eq_false_iff_ne]; omega
  by_cases h2 : 300 < s.size
  · have hg : Hid (goodD s.data.toList = false) := by
      show _ = _; unfold goodD; rw [hlen, decide_eq_false (show ¬ s.size ≤ 300 by omega)]; simp
    have e2 : decide ((300 : Int) < (s.size : Int)) = true := decide_eq_true (by omega)
    clear hlen h1 h2 hs
    go_enter Tryz.func89, Tryz.ntmps89
    go_wp2_with fail
    go_ret
    exact ⟨by rw [hg.out]; rfl, by first | trivial | rfl⟩
  have e2 : decide ((300 : Int) < (s.size : Int)) = false := decide_eq_false (by omega)
  have h0 : 0 < s.size := by omega
  have hh : s.data.toList.head? = some s[0] := by
    rw [List.head?_eq_getElem?, List.getElem?_eq_getElem (by omega)]; rfl
  by_cases h4 : 1 < s.size
  · have e3 : decide ((1 : Int) < (s.size : Int)) = true := decide_eq_true (by omega)
    by_cases h5 : s[0] = 48
    · have e4 : ((s[0].toNat : Int) == 48) = true := by rw [h5]; rfl
      have hg : Hid (goodD s.data.toList = false) := by
        show _ = _; unfold goodD; rw [hlen, hh, h5, decide_eq_false (show ¬ s.size = 1 by omega)]; simp
      clear hlen h1 h2 hs hh h4 h5
      go_enter Tryz.func89, Tryz.ntmps89
      go_wp2_with fail
      go_ret
      exact ⟨by rw [hg.out]; rfl, by first | trivial | rfl⟩
    · have hne : s[0].toNat ≠ 48 := fun h => h5 (UInt8.toNat_inj.1 h)
      have e4 : ((s[0].toNat : Int) == 48) = false := by rw [beq_eq_false_iff_ne]; omega
      have HG : Hid (goodD s.data.toList = s.data.toList.all isD) := by
        show _ = _; unfold goodD; rw [hlen, hh, decide_eq_true (show 1 ≤ s.size by omega), decide_eq_true (show s.size ≤ 300 by omega)]; simp [h5]
      clear hlen h1 h2 hs hh h4 h5 hne
      go_enter Tryz.func89, Tryz.ntmps89
      go_wp2_with fail
      go_loopw [3] (fun vi wr => ∃ i : Nat, i ≤ s.size ∧ vi = .int .i64 (i : Nat) ∧ Hid ((s.data.toList.take i).all isD = true) ∧ wr = w) (fun vi _ => s.size - (intOf vi).toNat)
      case atStart => exact ⟨0, Nat.zero_le _, rfl, by show _ = _; rw [List.take_zero]; rfl, rfl⟩
      case round =>
        obtain ⟨i, hi, rfl, ha, rfl⟩ := hrel
        by_cases hlt : i < s.size
        · have hgi : s.data.toList[i]? = some s[i] := by rw [List.getElem?_eq_getElem (by rw [HL.out]; exact hlt)]; rfl
          have HI := Lib.hid hgi; clear hgi
          by_cases hd : isD s[i] = true
          · have HA : Hid ((s.data.toList.take (i + 1)).all isD = true) := by
              show _ = _
              rw [List.take_add_one, List.all_append, ha.out, HI.out]; simp [hd]
            have hd' := hd
            simp only [isD, Bool.and_eq_true, decide_eq_true_eq] at hd'
            obtain ⟨hc1, hc2⟩ := hd'
            have d1 : decide ((s[i].toNat : Int) < 48) = false := by simp; omega
            have d2 : decide ((57 : Int) < (s[i].toNat : Int)) = false := by simp; omega
            have hw : wrap64 ((i : Int) + 1) = ((i + 1 : Nat) : Int) := by unfold wrap64; have := HS.out; omega
            clear hd hc1 hc2 HI ha
            go_wp2_with fail
            go_roundw
            case rel => exact ⟨i + 1, hlt, congrArg (Value.int .i64) hw, HA.out, by first | trivial | rfl⟩
            case measure => rw [hw]; simp [intOf]; omega
          · have hb : Hid (goodD s.data.toList = false) := by
              show _ = _
              rw [HG.out]
              cases h : s.data.toList.all isD
              · rfl
              · exfalso
                exact hd (List.all_eq_true.1 h _ (List.mem_of_getElem? HI.out))
            by_cases hc : s[i].toNat < 48
            · have d1 : decide ((s[i].toNat : Int) < 48) = true := by simp; omega
              clear hd hc HI ha
              go_wp2_with fail
              go_ret
              exact ⟨by rw [hb.out]; rfl, by first | trivial | rfl⟩
            · have d1 : decide ((s[i].toNat : Int) < 48) = false := by simp; omega
              have d2 : decide ((57 : Int) < (s[i].toNat : Int)) = true := by
                have : ¬ s[i].toNat ≤ 57 := fun h => hd (by simp [isD]; omega)
                simp; omega
              clear hd hc HI ha
              go_wp2_with fail
              go_ret
              exact ⟨by rw [hb.out]; rfl, by first | trivial | rfl⟩
        · have hb : Hid (goodD s.data.toList = true) := by
            show _ = _
            have h := ha.out
            rw [List.take_of_length_le (by rw [HL.out]; omega)] at h
            rw [HG.out, h]
          clear ha
          go_wp2_with fail
          go_ret
          exact ⟨by rw [hb.out]; rfl, by first | trivial | rfl⟩
  · have e3 : decide ((1 : Int) < (s.size : Int)) = false := decide_eq_false (by omega)
    have HG : Hid (goodD s.data.toList = s.data.toList.all isD) := by
      show _ = _; unfold goodD; rw [hlen, decide_eq_true (show 1 ≤ s.size by omega), decide_eq_true (show s.size ≤ 300 by omega), decide_eq_true (show s.size = 1 by omega)]; simp
    clear hlen h1 h2 hs hh h4
    go_enter Tryz.func89, Tryz.ntmps89
    go_wp2_with fail
    go_loopw [3] (fun vi wr => ∃ i : Nat, i ≤ s.size ∧ vi = .int .i64 (i : Nat) ∧ Hid ((s.data.toList.take i).all isD = true) ∧ wr = w) (fun vi _ => s.size - (intOf vi).toNat)
    case atStart => exact ⟨0, Nat.zero_le _, rfl, by show _ = _; rw [List.take_zero]; rfl, rfl⟩
    case round =>
      obtain ⟨i, hi, rfl, ha, rfl⟩ := hrel
      by_cases hlt : i < s.size
      · have hgi : s.data.toList[i]? = some s[i] := by rw [List.getElem?_eq_getElem (by rw [HL.out]; exact hlt)]; rfl
        have HI := Lib.hid hgi; clear hgi
        by_cases hd : isD s[i] = true
        · have HA : Hid ((s.data.toList.take (i + 1)).all isD = true) := by
            show _ = _
            rw [List.take_add_one, List.all_append, ha.out, HI.out]; simp [hd]
          have hd' := hd
          simp only [isD, Bool.and_eq_true, decide_eq_true_eq] at hd'
          obtain ⟨hc1, hc2⟩ := hd'
          have d1 : decide ((s[i].toNat : Int) < 48) = false := by simp; omega
          have d2 : decide ((57 : Int) < (s[i].toNat : Int)) = false := by simp; omega
          have hw : wrap64 ((i : Int) + 1) = ((i + 1 : Nat) : Int) := by unfold wrap64; have := HS.out; omega
          clear hd hc1 hc2 HI ha
          go_wp2_with fail
          go_roundw
          case rel => exact ⟨i + 1, hlt, congrArg (Value.int .i64) hw, HA.out, by first | trivial | rfl⟩
          case measure => rw [hw]; simp [intOf]; omega
        · have hb : Hid (goodD s.data.toList = false) := by
            show _ = _
            rw [HG.out]
            cases h : s.data.toList.all isD
            · rfl
            · exfalso
              exact hd (List.all_eq_true.1 h _ (List.mem_of_getElem? HI.out))
          by_cases hc : s[i].toNat < 48
          · have d1 : decide ((s[i].toNat : Int) < 48) = true := by simp; omega
            clear hd hc HI ha
            go_wp2_with fail
            go_ret
            exact ⟨by rw [hb.out]; rfl, by first | trivial | rfl⟩
          · have d1 : decide ((s[i].toNat : Int) < 48) = false := by simp; omega
            have d2 : decide ((57 : Int) < (s[i].toNat : Int)) = true := by
              have : ¬ s[i].toNat ≤ 57 := fun h => hd (by simp [isD]; omega)
              simp; omega
            clear hd hc HI ha
            go_wp2_with fail
            go_ret
            exact ⟨by rw [hb.out]; rfl, by first | trivial | rfl⟩
      · have hb : Hid (goodD s.data.toList = true) := by
          show _ = _
          have h := ha.out
          rw [List.take_of_length_le (by rw [HL.out]; omega)] at h
          rw [HG.out, h]
        clear ha
        go_wp2_with fail
        go_ret
        exact ⟨by rw [hb.out]; rfl, by first | trivial | rfl⟩
end Go.Proofs.YtegobakoflbnfaaGreatDoor.QA

namespace Go.Proofs.YtegobakoflbnfaaGreatDoor.QA
open Go Go.RowKit Go.Shelf WN LM

theorem dval_append (a b : List UInt8) : dval (a ++ b) = dval a * 10 ^ b.length + dval b := by
  induction b using snoc_ind with
  | h0 => simp [dval_nil]
  | h1 l c ih =>
    rw [← List.append_assoc, dval_snoc, ih, dval_snoc, List.length_append, List.length_singleton, Nat.pow_succ]
    generalize dval a = x
    generalize 10 ^ l.length = p
    generalize dval l = y
    grind
/-- readNat, at the head of a round -/
def ReadI (L : List UInt8) (w wr : World) (v : Value) (e : Int) : Prop :=
  ∃ l, wr.ownsRow w.heap.size 3 1 v l.length (nl .i64 l) ∧ Digs 10000 l ∧ dval L = val 10000 l + 10000 ^ l.length * dval (L.take e.toNat) ∧ 4 * (l.length : Int) + e = L.length ∧ Below w.heap.size w wr
theorem ReadI.next {L : List UInt8} {E : Nat} {l : List Nat} (hE : E ≤ L.length) (h0 : 0 < E) (h : dval L = val 10000 l + 10000 ^ l.length * dval (L.take E)) (hs : L.all isD = true) :
    dval ((L.take E).drop (E - 4)) < 10000 ∧ dval L = val 10000 (l ++ [dval ((L.take E).drop (E - 4))]) + 10000 ^ (l.length + 1) * dval (L.take ((E : Int) - 4).toNat) := by
  have e1 : ((E : Int) - 4).toNat = E - 4 := by omega
  have e2 : L.take E = L.take (E - 4) ++ (L.take E).drop (E - 4) := by
    have := (List.take_append_drop (E - 4) (L.take E)).symm
    rwa [List.take_take, Nat.min_eq_left (by omega)] at this
  have hlen : ((L.take E).drop (E - 4)).length = E - (E - 4) := by rw [List.length_drop, List.length_take]; omega
  have hall : ((L.take E).drop (E - 4)).all isD = true := by
    rw [List.all_eq_true] at hs ⊢
    exact fun x hx => hs x (List.mem_of_mem_take (List.mem_of_mem_drop hx))
  have hlt := dval_lt hall
  rw [hlen] at hlt
  have hp : (10 : Nat) ^ (E - (E - 4)) ≤ 10 ^ 4 := Nat.pow_le_pow_right (by omega) (by omega)
  have hp4 : (10 : Nat) ^ 4 = 10000 := by decide
  refine ⟨by omega, ?_⟩
  rw [e1, val_snoc, h, Nat.pow_succ]
  have e3 : dval (L.take E) = dval (L.take (E - 4)) * 10 ^ (E - (E - 4)) + dval ((L.take E).drop (E - 4)) := by
    have := dval_append (L.take (E - 4)) ((L.take E).drop (E - 4))
    rw [hlen, ← e2] at this
    exact this
  rw [e3]
  by_cases h4 : 4 ≤ E
  · rw [show E - (E - 4) = 4 from by omega, hp4]
    generalize dval (L.take (E - 4)) = x
    generalize dval ((L.take E).drop (E - 4)) = y
    generalize 10000 ^ l.length = p
    grind
  · have : L.take (E - 4) = [] := by rw [show E - 4 = 0 from by omega]; rfl
    rw [this, dval_nil]
    generalize dval ((L.take E).drop (E - 4)) = y
    generalize 10000 ^ l.length = p
    grind
theorem dval_step {L : List UInt8} {E i : Nat} (hi : i < E) (hE : E ≤ L.length) {c : UInt8} (hc : L[i]? = some c) (hst : E - 4 ≤ i) :
    dval ((L.take (i + 1)).drop (E - 4)) = 10 * dval ((L.take i).drop (E - 4)) + (c.toNat - 48) := by
  have : (L.take (i + 1)).drop (E - 4) = (L.take i).drop (E - 4) ++ [c] := by
    rw [List.take_add_one, hc, List.drop_append_of_le_length (by rw [List.length_take]; omega)]; rfl
  rw [this, dval_snoc]

set_option maxHeartbeats 4000000 in
set_option maxRecDepth 100000 in
theorem readNat_any (s : ByteArray) (w : World) (hs : s.size ≤ 1000000) (hall : s.data.toList.all isD = true) : Calls Tryz.prog 90 #[.string s] w (RRet w (dval s.data.toList)) := by
  have hlen : s.data.toList.length = s.size := by rw [Array.length_toList]; rfl
  have HL := Lib.hid hlen
  have HS : Hid (s.size ≤ 1000000) := hs
  have HALL := Lib.hid hall
  have hnt : (s.size : Int).toNat = s.data.toList.length := by omega
  have HNT := Lib.hid hnt
  clear hs hall hlen hnt
  go_enter Tryz.func90, Tryz.ntmps90
  go_wp2_with fail
  obtain ⟨i0, hi, hz0, hz1, hz2⟩ := info_parts Tryz.info3
  go_loopw [3, 4] (fun v3 ve wr => ∃ e : Int, ve = .int .i64 e ∧ e ≤ s.size ∧ -4 ≤ e ∧ Hid (ReadI s.data.toList w wr v3 e)) (fun _ ve _ => (intOf ve).toNat)
  case atStart => exact ⟨s.size, rfl, Int.le_refl _, by omega, [], World.ownsRow_nil _ _ _ _, Digs.nil _, by rw [HNT.out, List.take_of_length_le (Nat.le_refl _)]; simp [val], by rw [HL.out]; simp, Below.refl _ _⟩
  case round =>
    obtain ⟨e, rfl, he1, he2, hinv⟩ := hrel
    have Inv := Lib.hid hinv; clear hinv
    by_cases h0 : 0 < e
    · obtain ⟨E, rfl⟩ := Int.eq_ofNat_of_zero_le (show 0 ≤ e by omega)
      obtain ⟨l, hown, hd, hv, hl, hb⟩ := Inv.out.out
      have hES : E ≤ s.size := by omega
      have hE0 : 0 < E := by omega
      have hl2 : l.length ≤ 1000000 := by have := HL.out; have := HS.out; omega
      rw [show ((E : Int)).toNat = E from rfl] at hv
      have NX := Lib.hid (ReadI.next (by rw [HL.out]; exact hES) hE0 hv HALL.out)
      have HOWN := Lib.hid hown; have HD := Lib.hid hd; have HLL := Lib.hid hl; have HB := Lib.hid hb; have HES := Lib.hid hES
      have hw4 : wrap64 ((E : Int) - 4) = (E : Int) - 4 := by unfold wrap64; have := HS.out; omega
      clear hown hd hv hl hb he1 he2 h0 Inv hES
      go_wp2_with fail
      · have h4' : 4 ≤ E := by omega
        have e4 : (E : Int) - 4 = ((E - 4 : Nat) : Int) := by omega
        have H4 := Lib.hid h4'; clear h4'
        rw [e4]
        go_loopw [5, 6] (fun vd vi wk => ∃ (i : Nat), E - 4 ≤ i ∧ i ≤ E ∧ vd = .int .i64 ((dval ((s.data.toList.take i).drop (E - 4)) : Nat) : Int) ∧ vi = .int .i64 (i : Nat) ∧ wk = wr) (fun _ vi _ => E - (intOf vi).toNat)
        case atStart => exact ⟨E - 4, Nat.le_refl _, by omega, by rw [List.drop_of_length_le (by rw [List.length_take]; omega)]; rfl, rfl, rfl⟩
        case round =>
          obtain ⟨i, h1, h2, rfl, rfl, rfl⟩ := hrel
          by_cases hlt : i < E
          · have hi2 : i < s.size := by have := HES.out; omega
            have hgi : s.data.toList[i]? = some s[i] := by rw [List.getElem?_eq_getElem (by rw [HL.out]; exact hi2)]; rfl
            have hd2 : isD s[i] = true := List.all_eq_true.1 HALL.out _ (List.mem_of_getElem? hgi)
            simp only [isD, Bool.and_eq_true, decide_eq_true_eq] at hd2
            obtain ⟨hc1, hc2⟩ := hd2
            have hc1' : (48 : Int) ≤ (s[i].toNat : Int) := by omega
            have hc2' : (s[i].toNat : Int) ≤ 57 := by omega
            have hst := dval_step hlt (by rw [HL.out]; exact HES.out) hgi h1
            have hbd : dval ((s.data.toList.take i).drop (E - 4)) < 1000 := by
              have hall2 : ((s.data.toList.take i).drop (E - 4)).all isD = true := by
                have hs := HALL.out
                rw [List.all_eq_true] at hs ⊢
                exact fun x hx => hs x (List.mem_of_mem_take (List.mem_of_mem_drop hx))
              have h9 := dval_lt hall2
              have h8 : ((s.data.toList.take i).drop (E - 4)).length ≤ 3 := by rw [List.length_drop, List.length_take]; omega
              have h7 := Nat.pow_le_pow_right (show 0 < 10 by omega) h8
              have h6 : (10 : Nat) ^ 3 = 1000 := by decide
              omega
            have he : ((10 * dval ((s.data.toList.take i).drop (E - 4)) + (s[i].toNat - 48) : Nat) : Int) = 10 * (dval ((s.data.toList.take i).drop (E - 4)) : Int) + ((s[i].toNat : Int) - 48) := by omega
            have HST : Hid (((dval ((s.data.toList.take (i + 1)).drop (E - 4)) : Nat) : Int) = 10 * (dval ((s.data.toList.take i).drop (E - 4)) : Int) + ((s[i].toNat : Int) - 48)) := by show _ = _; rw [hst, he]
            clear hst he hgi hc1 hc2
            generalize dval ((s.data.toList.take i).drop (E - 4)) = d at *
            have hw : wrap64 ((i : Int) + 1) = ((i + 1 : Nat) : Int) := by unfold wrap64; have := HS.out; omega
            have HW := Lib.hid hw; clear hw
            have H1 := Lib.hid h1; have H2 := Lib.hid h2; clear h1 h2
            go_wp2_with fail
            go_roundw
            case rel => exact ⟨i + 1, by have := H1.out; omega, hlt, congrArg (Value.int .i64) HST.out.symm, by first | exact congrArg (Value.int .i64) HW.out | go_num, by first | trivial | rfl⟩
            case measure => first | (rw [HW.out]; simp [intOf]; omega) | (simp [intOf]; omega)
          · have hiE : i = E := by omega
            rw [hiE]
            obtain ⟨nx1, nx2⟩ := NX.out
            have NX2 := Lib.hid nx2
            generalize dval ((s.data.toList.take E).drop (E - 4)) = d at *
            have hw5 : wrap64 ((E - 4 : Nat) : Int) = ((E - 4 : Nat) : Int) := by unfold wrap64; have := HS.out; have := HES.out; omega
            have hnE : ¬ E < E := Nat.lt_irrefl E
            clear nx2 NX h1 h2 hlt hiE
            go_wp2_with (at_builtin; refine wpList_append_own _ rfl (.tmp 29) (.tmp 31) 74 rfl w.heap.size 3 i0 (.int .i64 0) 1 8 Tryz.underlying74 hi hz0 hz1 hz2 rfl (by decide) _ l.length _ rfl (HOWN.out.alloc _) ⟨wr.heap.size, 0, none⟩ 1 1 (nl .i64 [d]) rfl rfl (one_celli wr d 3) (by intro u hu; simp [nl] at hu; subst hu; rfl) (by unfold maxLen; omega) (by omega) (by simp; have := HB.out.size; omega) ?_; intro v' w1 hown1 hgrow1 _)
            go_roundw
            case rel =>
              refine ⟨((E - 4 : Nat) : Int), by first | rfl | rw [hw5], by have := HES.out; omega, by omega, ?_⟩
              show ReadI _ _ _ _ _
              refine ⟨l ++ [d], ?_, HD.out.snoc nx1, ?_, ?_, (HB.out.alloc HB.out.size _).grown hgrow1 (by simp; have := HB.out.size; omega) (fun k hk => (HOWN.out.lt k hk).1)⟩
              · rw [List.length_append, nl_append]; exact hown1
              · rw [List.length_append, List.length_singleton]; have := NX2.out; first | exact this | (rw [e4] at this; exact this)
              · rw [List.length_append, List.length_singleton]; have := HLL.out; omega
            case measure => first | (rw [hw5]; simp [intOf]; omega) | (simp [intOf]; omega) | (rw [hw4]; simp [intOf]; omega)
      · have h4' : E ≤ 4 := by omega
        have H4 := Lib.hid h4'; clear h4'
        go_loopw [5, 6] (fun vd vi wk => ∃ (i : Nat), E - 4 ≤ i ∧ i ≤ E ∧ vd = .int .i64 ((dval ((s.data.toList.take i).drop (E - 4)) : Nat) : Int) ∧ vi = .int .i64 (i : Nat) ∧ wk = wr) (fun _ vi _ => E - (intOf vi).toNat)
        case atStart => exact ⟨E - 4, Nat.le_refl _, by omega, by rw [List.drop_of_length_le (by rw [List.length_take]; omega)]; rfl, by rw [show E - 4 = 0 from by omega]; rfl, rfl⟩
        case round =>
          obtain ⟨i, h1, h2, rfl, rfl, rfl⟩ := hrel
          by_cases hlt : i < E
          · have hi2 : i < s.size := by have := HES.out; omega
            have hgi : s.data.toList[i]? = some s[i] := by rw [List.getElem?_eq_getElem (by rw [HL.out]; exact hi2)]; rfl
            have hd2 : isD s[i] = true := List.all_eq_true.1 HALL.out _ (List.mem_of_getElem? hgi)
            simp only [isD, Bool.and_eq_true, decide_eq_true_eq] at hd2
            obtain ⟨hc1, hc2⟩ := hd2
            have hc1' : (48 : Int) ≤ (s[i].toNat : Int) := by omega
            have hc2' : (s[i].toNat : Int) ≤ 57 := by omega
            have hst := dval_step hlt (by rw [HL.out]; exact HES.out) hgi h1
            have hbd : dval ((s.data.toList.take i).drop (E - 4)) < 1000 := by
              have hall2 : ((s.data.toList.take i).drop (E - 4)).all isD = true := by
                have hs := HALL.out
                rw [List.all_eq_true] at hs ⊢
                exact fun x hx => hs x (List.mem_of_mem_take (List.mem_of_mem_drop hx))
              have h9 := dval_lt hall2
              have h8 : ((s.data.toList.take i).drop (E - 4)).length ≤ 3 := by rw [List.length_drop, List.length_take]; omega
              have h7 := Nat.pow_le_pow_right (show 0 < 10 by omega) h8
              have h6 : (10 : Nat) ^ 3 = 1000 := by decide
              omega
            have he : ((10 * dval ((s.data.toList.take i).drop (E - 4)) + (s[i].toNat - 48) : Nat) : Int) = 10 * (dval ((s.data.toList.take i).drop (E - 4)) : Int) + ((s[i].toNat : Int) - 48) := by omega
            have HST : Hid (((dval ((s.data.toList.take (i + 1)).drop (E - 4)) : Nat) : Int) = 10 * (dval ((s.data.toList.take i).drop (E - 4)) : Int) + ((s[i].toNat : Int) - 48)) := by show _ = _; rw [hst, he]
            clear hst he hgi hc1 hc2
            generalize dval ((s.data.toList.take i).drop (E - 4)) = d at *
            have hw : wrap64 ((i : Int) + 1) = ((i + 1 : Nat) : Int) := by unfold wrap64; have := HS.out; omega
            have HW := Lib.hid hw; clear hw
            have H1 := Lib.hid h1; have H2 := Lib.hid h2; clear h1 h2
            go_wp2_with fail
            go_roundw
            case rel => exact ⟨i + 1, by have := H1.out; omega, hlt, congrArg (Value.int .i64) HST.out.symm, by first | exact congrArg (Value.int .i64) HW.out | go_num, by first | trivial | rfl⟩
            case measure => first | (rw [HW.out]; simp [intOf]; omega) | (simp [intOf]; omega)
          · have hiE : i = E := by omega
            rw [hiE]
            obtain ⟨nx1, nx2⟩ := NX.out
            have NX2 := Lib.hid nx2
            generalize dval ((s.data.toList.take E).drop (E - 4)) = d at *
            have hw5 : wrap64 ((E - 4 : Nat) : Int) = ((E - 4 : Nat) : Int) := by unfold wrap64; have := HS.out; have := HES.out; omega
            have hnE : ¬ E < E := Nat.lt_irrefl E
            clear nx2 NX h1 h2 hlt hiE
            go_wp2_with (at_builtin; refine wpList_append_own _ rfl (.tmp 29) (.tmp 31) 74 rfl w.heap.size 3 i0 (.int .i64 0) 1 8 Tryz.underlying74 hi hz0 hz1 hz2 rfl (by decide) _ l.length _ rfl (HOWN.out.alloc _) ⟨wr.heap.size, 0, none⟩ 1 1 (nl .i64 [d]) rfl rfl (one_celli wr d 3) (by intro u hu; simp [nl] at hu; subst hu; rfl) (by unfold maxLen; omega) (by omega) (by simp; have := HB.out.size; omega) ?_; intro v' w1 hown1 hgrow1 _)
            go_roundw
            case rel =>
              refine ⟨(E : Int) - 4, by first | rfl | rw [hw5] | rw [hw4], by have := HES.out; omega, by omega, ?_⟩
              show ReadI _ _ _ _ _
              refine ⟨l ++ [d], ?_, HD.out.snoc nx1, ?_, ?_, (HB.out.alloc HB.out.size _).grown hgrow1 (by simp; have := HB.out.size; omega) (fun k hk => (HOWN.out.lt k hk).1)⟩
              · rw [List.length_append, nl_append]; exact hown1
              · rw [List.length_append, List.length_singleton]; have := NX2.out; first | exact this | (rw [e4] at this; exact this)
              · rw [List.length_append, List.length_singleton]; have := HLL.out; omega
            case measure => first | (rw [hw5]; simp [intOf]; omega) | (simp [intOf]; omega) | (rw [hw4]; simp [intOf]; omega)
    · obtain ⟨l, hown, hd, hv, hl, hb⟩ := Inv.out.out
      have h00 : e.toNat = 0 := by omega
      rw [h00, List.take_zero, dval_nil, Nat.mul_zero, Nat.add_zero] at hv
      have hr := Rep.own hown
      have hl2 : l.length ≤ 1000000000000 := by have := HL.out; have := HS.out; omega
      obtain ⟨oa, cap, rfl, -, -⟩ := id hr
      have HT := Lib.hid (rtrim_any hl2 hr)
      have HV := Lib.hid hv; have HD := Lib.hid hd; have HB := Lib.hid hb
      clear hown hd hv hl hb Inv hr hl2 he1 he2 h00
      have t0 : decide (0 < e) = false := decide_eq_false h0
      clear h0
      go_wp2_with fail
      refine HT.out.mono ?_; rintro e' w1 ⟨v', rfl, hv', rfl⟩
      have HV' := Lib.hid hv'; clear hv'
      go_wp2_with fail
      go_ret
      exact ⟨_, rfl, ⟨_, HV'.out, canon_trim HD.out, by rw [val_trim, ← HV.out]⟩, HB.out⟩
end Go.Proofs.YtegobakoflbnfaaGreatDoor.QA

namespace Go.Proofs.YtegobakoflbnfaaGreatDoor.QA
open Go Go.RowKit Go.Shelf WN LM

def SubI (la lb : List Nat) (w wr : World) (i c : Nat) : Prop :=
  c ≤ 1 ∧ ∃ s, Row wr w.heap.size .i64 3 (s ++ List.replicate (la.length - i) 0) ∧ s.length = i ∧ Digs 10000 s ∧ val 10000 (la.take i) + 10000 ^ i * c = val 10000 s + val 10000 (lb.take i) ∧ Below w.heap.size w wr
theorem SubI.step {la lb : List Nat} {w wr : World} {i c x y d c' : Nat} {z : Int} (h : SubI la lb w wr i c) (hi : i < la.length) (hx : la[i]? = some x) (hy : lb[i]?.getD 0 = y) (hd : d < 10000) (hc : c' ≤ 1) (he : x + 10000 * c' = d + y + c) (hz : z = (d : Int)) :
    SubI la lb w (wr.setCell ⟨w.heap.size, i, none⟩ (.int .i64 z)) (i + 1) c' := by
  obtain ⟨_, s, h1, h2, h3, h4, h5⟩ := h
  subst hz
  refine ⟨hc, s ++ [d], ?_, by rw [List.length_append, List.length_singleton, h2], h3.snoc hd, ?_, h5.setCell (p := ⟨w.heap.size, i, none⟩) (Nat.le_refl _) _⟩
  · have := h1.set i d
    rw [set_next h2 hi] at this
    exact this
  · rw [val_take_next, val_take_next, hx, hy, val_snoc, h2, Nat.pow_succ]
    show val 10000 (la.take i) + 10000 ^ i * x + 10000 ^ i * 10000 * c' = _
    generalize val 10000 (la.take i) = A at *
    generalize val 10000 (lb.take i) = B at *
    generalize val 10000 s = S at *
    generalize 10000 ^ i = p at *
    have : p * (x + 10000 * c') = p * (d + y + c) := by rw [he]
    grind
theorem SubI.out {la lb : List Nat} {w wr : World} {c : Nat} (h : SubI la lb w wr la.length c) (hl : lb.length ≤ la.length) (hv : val 10000 lb ≤ val 10000 la) : ∃ s, Row wr w.heap.size .i64 3 s ∧ s.length = la.length ∧ Digs 10000 s ∧ val 10000 s = val 10000 la - val 10000 lb ∧ Below w.heap.size w wr := by
  obtain ⟨hc, s, h1, h2, h3, h4, h5⟩ := h
  rw [Nat.sub_self, List.replicate_zero, List.append_nil] at h1
  rw [List.take_of_length_le (Nat.le_refl _), List.take_of_length_le hl] at h4
  have hlt := val_lt (B := 10000) (by omega) h3
  rw [h2] at hlt
  refine ⟨s, h1, h2, h3, ?_, h5⟩
  have : c = 0 := by
    rcases Nat.eq_zero_or_pos c with h | h
    · exact h
    · have : c = 1 := by omega
      subst this
      rw [Nat.mul_one] at h4
      omega
  subst this
  omega

set_option maxHeartbeats 4000000 in
set_option maxRecDepth 100000 in
theorem rsub_at {va vb : Value} {n m : Nat} {w : World} (ha : RNum w va n) (hb : RNum w vb m) (hle : m ≤ n) (ln : RLen n ≤ 1000000) : Calls Tryz.prog 77 #[va, vb] w fun e w' => ∃ v, e = .returned v ∧ RNum w' v (n - m) ∧ Below w.heap.size w w' ∧ ∃ k c, v = .slice (some ⟨w.heap.size, 0, none⟩) k c := by
  obtain ⟨la, ra, ca, rfl⟩ := ha
  obtain ⟨lb, rb, cb, rfl⟩ := hb
  have hla : la.length ≤ 1000000 := by rw [rlen_eq ca rfl]; exact ln
  have hlb : lb.length ≤ la.length := by
    rcases Nat.lt_or_ge la.length lb.length with h | h
    · have := cmpT_len ca cb h; omega
    · exact h
  clear ln
  obtain ⟨oa, capa, rfl, -, -⟩ := id ra
  obtain ⟨ob, capb, rfl, -, -⟩ := id rb
  have RA := Lib.hid ra; have RB := Lib.hid rb; have CA := Lib.hid ca; have CB := Lib.hid cb; have HLE := Lib.hid hle
  clear ra rb ca cb hle
  have HLB := Lib.hid hlb
  obtain ⟨N, hN⟩ : ∃ N, la.length = N := ⟨_, rfl⟩
  obtain ⟨M, hM⟩ : ∃ M, lb.length = M := ⟨_, rfl⟩
  rw [hN] at hla
  rw [hN, hM]
  have HN := Lib.hid hN; have HM := Lib.hid hM; have HLA := Lib.hid hla
  have hmk := fun w => make_ints w (N : Int) (N : Int) (by omega) (by omega) (by omega)
  simp only [Int.toNat_natCast] at hmk
  clear hN hM hlb hla
  go_enter Tryz.func77, Tryz.ntmps77
  go_wp2_with fail
  have HR := Lib.hid (Row.new w .i64 3 (List.replicate N 0))
  have HB := Lib.hid ((Below.refl _ w).alloc (Nat.le_refl _) (.cells (ns .i64 (List.replicate N 0)) 3))
  generalize w.alloc (.cells (ns .i64 (List.replicate N 0)) 3) = w1 at *
  clear hmk
  go_loopw [6, 7] (fun v6 v7 wr => ∃ (i c : Nat), i ≤ N ∧ v6 = .int .i64 (c : Nat) ∧ v7 = .int .i64 (i : Nat) ∧ Hid (SubI la lb w wr i c)) (fun _ vi _ => N - (intOf vi).toNat)
  case atStart => exact ⟨0, 0, Nat.zero_le _, rfl, rfl, by omega, [], by have := HR.out; rw [List.nil_append, Nat.sub_zero, HN.out]; exact this, rfl, Digs.nil _, by simp [val], HB.out⟩
  case round =>
    obtain ⟨i, c, hi, rfl, rfl, hinv⟩ := hrel
    have Inv := Lib.hid hinv.out; clear hinv
    by_cases hlt : i < N
    · have hc1 : c ≤ 1 := Inv.out.1
      have hbel : Hid (Below w.heap.size w wr) := by obtain ⟨_, s, _, _, _, _, h5⟩ := Inv.out; exact h5
      have hia : i < la.length := by have := HN.out; omega
      obtain ⟨b1, f1, hoa, -, hx⟩ := RA.out.at' hbel.out i hia
      subst hoa
      have GX : Hid (la[i]? = some la[i]) := List.getElem?_eq_getElem hia
      have hx1 : la[i] < 10000 := CA.out.1.get i hia
      have HIA := Lib.hid hia
      obtain ⟨cc, hcc, hff⟩ : ∃ v0, wr.cell? ⟨w.heap.size, i, none⟩ = some v0 ∧ wr.frozen? ⟨w.heap.size, i, none⟩ = false := by
        obtain ⟨_, s, h1, h2, _, _, _⟩ := Inv.out
        exact ⟨_, h1.cell i (by rw [List.length_append, List.length_replicate]; omega), h1.free i⟩
      have hw : wrap64 ((i : Int) + 1) = ((i + 1 : Nat) : Int) := by unfold wrap64; have := HLA.out; omega
      have HW := Lib.hid hw; clear hw
      generalize la[i] = x at *
      clear hia
      have e1 : wrap64 ((x : Int) - (c : Int)) = (x : Int) - (c : Int) := by unfold wrap64; omega
      by_cases him : i < M
      · have hib : i < lb.length := by have := HM.out; omega
        obtain ⟨b2, f2, hob, -, hy⟩ := RB.out.at' hbel.out i hib
        subst hob
        have GY : Hid (lb[i]?.getD 0 = lb[i]) := by show _ = _; rw [List.getElem?_eq_getElem hib]; rfl
        have hy1 : lb[i] < 10000 := CB.out.1.get i hib
        generalize lb[i] = y at *
        clear hib
        have e2 : wrap64 ((x : Int) - (c : Int) - (y : Int)) = (x : Int) - (c : Int) - (y : Int) := by unfold wrap64; omega
        by_cases hneg : x < y + c
        · have e3 : wrap64 ((x : Int) - (c : Int) - (y : Int) + 10000) = (x : Int) - (c : Int) - (y : Int) + 10000 := by unfold wrap64; omega
          have t1 : decide ((x : Int) - (c : Int) - (y : Int) < 0) = true := decide_eq_true (by omega)
          have ST := Lib.hid (Inv.out.step HIA.out GX.out GY.out (d := x + 10000 - y - c) (c' := 1) (z := (x : Int) - (c : Int) - (y : Int) + 10000) (by omega) (by omega) (by omega) (by omega))
          clear Inv hneg
          go_wp2_with fail
          go_roundw
          case rel => exact ⟨i + 1, 1, hlt, rfl, congrArg (Value.int .i64) HW.out, ST.out⟩
          case measure => rw [HW.out]; simp [intOf]; omega
        · have t1 : decide ((x : Int) - (c : Int) - (y : Int) < 0) = false := decide_eq_false (by omega)
          have ST := Lib.hid (Inv.out.step HIA.out GX.out GY.out (d := x - y - c) (c' := 0) (z := (x : Int) - (c : Int) - (y : Int)) (by omega) (by omega) (by omega) (by omega))
          clear Inv hneg
          go_wp2_with fail
          go_roundw
          case rel => exact ⟨i + 1, 0, hlt, rfl, congrArg (Value.int .i64) HW.out, ST.out⟩
          case measure => rw [HW.out]; simp [intOf]; omega
      · have GY : Hid (lb[i]?.getD 0 = 0) := by show _ = _; rw [List.getElem?_eq_none (by have := HM.out; omega)]; rfl
        by_cases hneg : x < c
        · have e3 : wrap64 ((x : Int) - (c : Int) + 10000) = (x : Int) - (c : Int) + 10000 := by unfold wrap64; omega
          have t1 : decide ((x : Int) - (c : Int) < 0) = true := decide_eq_true (by omega)
          have ST := Lib.hid (Inv.out.step HIA.out GX.out GY.out (d := x + 10000 - c) (c' := 1) (z := (x : Int) - (c : Int) + 10000) (by omega) (by omega) (by omega) (by omega))
          clear Inv hneg
          go_wp2_with fail
          go_roundw
          case rel => exact ⟨i + 1, 1, hlt, rfl, congrArg (Value.int .i64) HW.out, ST.out⟩
          case measure => rw [HW.out]; simp [intOf]; omega
        · have t1 : decide ((x : Int) - (c : Int) < 0) = false := decide_eq_false (by omega)
          have ST := Lib.hid (Inv.out.step HIA.out GX.out GY.out (d := x - c) (c' := 0) (z := (x : Int) - (c : Int)) (by omega) (by omega) (by omega) (by omega))
          clear Inv hneg
          go_wp2_with fail
          go_roundw
          case rel => exact ⟨i + 1, 0, hlt, rfl, congrArg (Value.int .i64) HW.out, ST.out⟩
          case measure => rw [HW.out]; simp [intOf]; omega
    · have hiN : i = la.length := by have := HN.out; omega
      have h9 : SubI la lb w wr la.length c := by have := Inv.out; rwa [hiN] at this
      obtain ⟨s, k1, k2, k3, k4, k5⟩ := h9.out HLB.out HLE.out
      have hrep := Rep.rowAll k1 N (by have := HN.out; omega)
      have hsl : s.length = N := by have := HN.out; omega
      rw [hsl] at hrep
      have HT : Hid (Calls Tryz.prog 100 #[.slice (some ⟨w.heap.size, 0, none⟩) N N] wr fun e w' => ∃ v, e = .returned v ∧ Rep wr .i64 v (trim s) ∧ w' = wr ∧ ∃ k, v = .slice (some ⟨w.heap.size, 0, none⟩) k N) := by
        have := rtrim_at (oa := some ⟨w.heap.size, 0, none⟩) (l := s) (cap := N) (by have := HLA.out; omega) (w := wr) (by rw [hsl]; exact hrep)
        rw [hsl] at this
        exact this
      have K3 := Lib.hid k3; have K4 := Lib.hid k4; have K5 := Lib.hid k5
      clear Inv h9 k1 k2 k3 k4 k5 hrep hsl hiN
      go_wp2_with fail
      refine HT.out.mono ?_; rintro e' w2 ⟨v', rfl, hv', rfl, hk'⟩
      have HK' := Lib.hid hk'; clear hk'
      have HV' := Lib.hid hv'; clear hv'
      go_wp2_with fail
      go_ret
      exact ⟨_, rfl, ⟨_, HV'.out, canon_trim K3.out, by rw [val_trim, K4.out]⟩, K5.out, by obtain ⟨k, hk⟩ := HK'.out; exact ⟨k, _, hk⟩⟩
theorem rsub_any {va vb : Value} {n m : Nat} {w : World} (ha : RNum w va n) (hb : RNum w vb m) (hle : m ≤ n) (ln : RLen n ≤ 1000000) : Calls Tryz.prog 77 #[va, vb] w (RRet w (n - m)) :=
  (rsub_at ha hb hle ln).mono fun _ _ ⟨v, h1, h2, h3, _⟩ => ⟨v, h1, h2, h3⟩
end Go.Proofs.YtegobakoflbnfaaGreatDoor.QA

namespace Go.Proofs.YtegobakoflbnfaaGreatDoor.QA
open Go Go.RowKit Go.Shelf WN LM

def AddI (la lb : List Nat) (T : Nat) (w wr : World) (i c : Nat) : Prop :=
  c ≤ 1 ∧ ∃ s, Row wr w.heap.size .i64 3 (s ++ List.replicate (T - i) 0) ∧ s.length = i ∧ Digs 10000 s ∧ val 10000 (la.take i) + val 10000 (lb.take i) = val 10000 s + 10000 ^ i * c ∧ Below w.heap.size w wr
theorem AddI.step {la lb : List Nat} {T : Nat} {w wr : World} {i c x y d c' : Nat} {z : Int} (h : AddI la lb T w wr i c) (hi : i < T) (hx : la[i]?.getD 0 = x) (hy : lb[i]?.getD 0 = y) (hx1 : x < 10000) (hy1 : y < 10000) (hd : d = (c + x + y) % 10000) (hc : c' = (c + x + y) / 10000) (hz : z = (d : Int)) :
    AddI la lb T w (wr.setCell ⟨w.heap.size, i, none⟩ (.int .i64 z)) (i + 1) c' := by
  obtain ⟨h0, s, h1, h2, h3, h4, h5⟩ := h
  subst hz
  have he : d + 10000 * c' = c + x + y := by subst hd hc; exact Nat.mod_add_div _ _
  refine ⟨by omega, s ++ [d], ?_, by rw [List.length_append, List.length_singleton, h2], h3.snoc (by omega), ?_, h5.setCell (p := ⟨w.heap.size, i, none⟩) (Nat.le_refl _) _⟩
  · have := h1.set i d
    rw [set_next h2 hi] at this
    exact this
  · rw [val_take_next, val_take_next, hx, hy, val_snoc, h2, Nat.pow_succ]
    clear hd hc h1 h5
    generalize val 10000 (la.take i) = A at *
    generalize val 10000 (lb.take i) = B at *
    generalize val 10000 s = S at *
    generalize 10000 ^ i = p at *
    have : p * (d + 10000 * c') = p * (c + x + y) := by rw [he]
    grind
theorem AddI.out {la lb : List Nat} {T : Nat} {w wr : World} {c : Nat} (h : AddI la lb T w wr T c) (da : Digs 10000 la) (db : Digs 10000 lb) (hla : la.length < T) (hlb : lb.length < T) : ∃ s, Row wr w.heap.size .i64 3 s ∧ s.length = T ∧ Digs 10000 s ∧ val 10000 s = val 10000 la + val 10000 lb ∧ Below w.heap.size w wr := by
  obtain ⟨hc, s, h1, h2, h3, h4, h5⟩ := h
  rw [Nat.sub_self, List.replicate_zero, List.append_nil] at h1
  rw [List.take_of_length_le (by omega), List.take_of_length_le (by omega)] at h4
  refine ⟨s, h1, h2, h3, ?_, h5⟩
  have : c = 0 := by
    rcases Nat.eq_zero_or_pos c with h | h
    · exact h
    · have : c = 1 := by omega
      subst this
      obtain ⟨k, rfl⟩ : ∃ k, T = k + 1 := ⟨T - 1, by omega⟩
      have ha := val_lt (B := 10000) (by omega) da
      have hb := val_lt (B := 10000) (by omega) db
      have ea : 10000 ^ la.length ≤ 10000 ^ k := Nat.pow_le_pow_right (by omega) (by omega)
      have eb : 10000 ^ lb.length ≤ 10000 ^ k := Nat.pow_le_pow_right (by omega) (by omega)
      rw [Nat.pow_succ] at h4
      omega
  subst this
  omega
theorem rem_i64 {z : Int} {v : Nat} (h : z = v) (hv : v ≤ 9223372036854775807) : z.tmod 10000 = ((v % 10000 : Nat) : Int) := IntWalk.up_tmod h rfl
theorem quo_i64 {z : Int} {v : Nat} (h : z = v) (hv : v ≤ 9223372036854775807) : IntKind.i64.wrap (z.tdiv 10000) = ((v / 10000 : Nat) : Int) := by
  subst h
  rw [IntWalk.i64_quo _ _ ⟨by omega, by omega, by omega⟩]; rfl
theorem quo_w64 {z : Int} {v : Nat} (h : z = v) (hv : v ≤ 9223372036854775807) : wrap64 (z / 10000) = ((v / 10000 : Nat) : Int) := by
  subst h; unfold wrap64; omega

set_option maxHeartbeats 4000000 in
set_option maxRecDepth 100000 in
theorem radd_any {va vb : Value} {n m : Nat} {w : World} (ha : RNum w va n) (hb : RNum w vb m) (ln : RLen n ≤ 1000000) (lm : RLen m ≤ 1000000) : Calls Tryz.prog 75 #[va, vb] w (RRet w (n + m)) := by
  obtain ⟨la, ra, ca, rfl⟩ := ha
  obtain ⟨lb, rb, cb, rfl⟩ := hb
  have hla : la.length ≤ 1000000 := by rw [rlen_eq ca rfl]; exact ln
  have hlb : lb.length ≤ 1000000 := by rw [rlen_eq cb rfl]; exact lm
  clear ln lm
  obtain ⟨oa, capa, rfl, -, -⟩ := id ra
  obtain ⟨ob, capb, rfl, -, -⟩ := id rb
  have RA := Lib.hid ra; have RB := Lib.hid rb; have CA := Lib.hid ca; have CB := Lib.hid cb
  clear ra rb ca cb
  obtain ⟨N, hN⟩ : ∃ N, la.length = N := ⟨_, rfl⟩
  obtain ⟨M, hM⟩ : ∃ M, lb.length = M := ⟨_, rfl⟩
  rw [hN] at hla
  rw [hM] at hlb
  rw [hN, hM]
  have HN := Lib.hid hN; have HM := Lib.hid hM; have HLA := Lib.hid hla; have HLB := Lib.hid hlb
  obtain ⟨T, hT⟩ : ∃ T : Nat, max N M + 1 = T := ⟨_, rfl⟩
  have hTN : N < T := by omega
  have hTM : M < T := by omega
  have hT1 : N < M → wrap64 ((M : Int) + 1) = (T : Int) := fun h => by unfold wrap64; omega
  have hT2 : ¬ N < M → wrap64 ((N : Int) + 1) = (T : Int) := fun h => by unfold wrap64; omega
  have HTN := Lib.hid hTN; have HTM := Lib.hid hTM
  have HT : Hid (T ≤ 1000001) := by show _ ≤ _; omega
  have hmk := fun w => make_ints w (T : Int) (T : Int) (by omega) (by omega) (by omega)
  simp only [Int.toNat_natCast] at hmk
  clear hN hM hlb hla hT hTN hTM
  by_cases hNM : N < M
  · have hTi := hT1 hNM
    clear hT1 hT2
    go_enter Tryz.func75, Tryz.ntmps75
    go_wp2_with fail
    clear hTi hNM
    have HR := Lib.hid (Row.new w .i64 3 (List.replicate T 0))
    have HB := Lib.hid ((Below.refl _ w).alloc (Nat.le_refl _) (.cells (ns .i64 (List.replicate T 0)) 3))
    generalize w.alloc (.cells (ns .i64 (List.replicate T 0)) 3) = w1 at *
    clear hmk
    go_loopw [6, 7] (fun v6 v7 wr => ∃ (i c : Nat), i ≤ T ∧ v6 = .int .i64 (c : Nat) ∧ v7 = .int .i64 (i : Nat) ∧ Hid (AddI la lb T w wr i c)) (fun _ vi _ => T - (intOf vi).toNat)
    case atStart => exact ⟨0, 0, Nat.zero_le _, rfl, rfl, by omega, [], by have := HR.out; rw [List.nil_append, Nat.sub_zero]; exact this, rfl, Digs.nil _, by simp [val], HB.out⟩
    case round =>
      obtain ⟨i, c, hi, rfl, rfl, hinv⟩ := hrel
      have Inv := Lib.hid hinv.out; clear hinv
      by_cases hlt : i < T
      · have hc1 : c ≤ 1 := Inv.out.1
        have hbel : Hid (Below w.heap.size w wr) := by obtain ⟨_, s, _, _, _, _, h5⟩ := Inv.out; exact h5
        obtain ⟨cc, hcc, hff⟩ : ∃ v0, wr.cell? ⟨w.heap.size, i, none⟩ = some v0 ∧ wr.frozen? ⟨w.heap.size, i, none⟩ = false := by
          obtain ⟨_, s, h1, h2, _, _, _⟩ := Inv.out
          exact ⟨_, h1.cell i (by rw [List.length_append, List.length_replicate]; omega), h1.free i⟩
        have HLT := Lib.hid hlt
        have hw : wrap64 ((i : Int) + 1) = ((i + 1 : Nat) : Int) := by unfold wrap64; have := HT.out; omega
        have HW := Lib.hid hw; clear hw
        by_cases hin : i < N
        · have hia : i < la.length := by have := HN.out; omega
          obtain ⟨b1, f1, hoa, -, hx⟩ := RA.out.at' hbel.out i hia
          subst hoa
          have GX : Hid (la[i]?.getD 0 = la[i]) := by show _ = _; rw [List.getElem?_eq_getElem hia]; rfl
          have hx1 : la[i] < 10000 := CA.out.1.get i hia
          generalize la[i] = x at *
          clear hia
          have e1 : wrap64 ((c : Int) + (x : Int)) = (c : Int) + (x : Int) := by unfold wrap64; omega
          by_cases him : i < M
          · have hib : i < lb.length := by have := HM.out; omega
            obtain ⟨b2, f2, hob, -, hy⟩ := RB.out.at' hbel.out i hib
            subst hob
            have GY : Hid (lb[i]?.getD 0 = lb[i]) := by show _ = _; rw [List.getElem?_eq_getElem hib]; rfl
            have hy1 : lb[i] < 10000 := CB.out.1.get i hib
            generalize lb[i] = y at *
            clear hib
            have e2 : wrap64 ((c : Int) + (x : Int) + (y : Int)) = (c : Int) + (x : Int) + (y : Int) := by unfold wrap64; omega
            have ez : ((c : Int) + (x : Int) + (y : Int) : Int) = ((c + x + y : Nat) : Int) := by omega
            obtain ⟨d, hd⟩ : ∃ d, d = (c + x + y) % 10000 := ⟨_, rfl⟩
            obtain ⟨c2, hc2⟩ : ∃ c2, c2 = (c + x + y) / 10000 := ⟨_, rfl⟩
            have hrem : ((c : Int) + (x : Int) + (y : Int) : Int).tmod 10000 = (d : Int) := by rw [hd]; exact rem_i64 ez (by omega)
            have hrem2 : ((c : Int) + (x : Int) + (y : Int) : Int) % 10000 = (d : Int) := by omega
            have hquo : IntKind.i64.wrap (((c : Int) + (x : Int) + (y : Int) : Int).tdiv 10000) = (c2 : Int) := by rw [hc2]; exact quo_i64 ez (by omega)
            have hquo2 : wrap64 (((c : Int) + (x : Int) + (y : Int) : Int) / 10000) = (c2 : Int) := by rw [hc2]; exact quo_w64 ez (by omega)
            have ST := Lib.hid (Inv.out.step HLT.out GX.out GY.out hx1 hy1 hd hc2 (z := (d : Int)) rfl)
            have HC2 := Lib.hid hc2
            clear Inv ez hd hc2 hc1
            go_wp2_with fail
            go_roundw
            case rel => exact ⟨i + 1, c2, HLT.out, by first | with_reducible rfl | exact congrArg (Value.int .i64) hquo2, congrArg (Value.int .i64) HW.out, ST.out⟩
            case measure => rw [HW.out]; have := HLT.out; simp [intOf]; omega
          · have GY : Hid (lb[i]?.getD 0 = 0) := by show _ = _; rw [List.getElem?_eq_none (by have := HM.out; omega)]; rfl
            have hy1 : 0 < 10000 := by omega
            have ez : ((c : Int) + (x : Int) : Int) = ((c + x + 0 : Nat) : Int) := by omega
            obtain ⟨d, hd⟩ : ∃ d, d = (c + x + 0) % 10000 := ⟨_, rfl⟩
            obtain ⟨c2, hc2⟩ : ∃ c2, c2 = (c + x + 0) / 10000 := ⟨_, rfl⟩
            have hrem : ((c : Int) + (x : Int) : Int).tmod 10000 = (d : Int) := by rw [hd]; exact rem_i64 ez (by omega)
            have hrem2 : ((c : Int) + (x : Int) : Int) % 10000 = (d : Int) := by omega
            have hquo : IntKind.i64.wrap (((c : Int) + (x : Int) : Int).tdiv 10000) = (c2 : Int) := by rw [hc2]; exact quo_i64 ez (by omega)
            have hquo2 : wrap64 (((c : Int) + (x : Int) : Int) / 10000) = (c2 : Int) := by rw [hc2]; exact quo_w64 ez (by omega)
            have ST := Lib.hid (Inv.out.step HLT.out GX.out GY.out hx1 hy1 hd hc2 (z := (d : Int)) rfl)
            have HC2 := Lib.hid hc2
            clear Inv ez hd hc2 hc1
            go_wp2_with fail
            go_roundw
            case rel => exact ⟨i + 1, c2, HLT.out, by first | with_reducible rfl | exact congrArg (Value.int .i64) hquo2, congrArg (Value.int .i64) HW.out, ST.out⟩
            case measure => rw [HW.out]; have := HLT.out; simp [intOf]; omega
        · have GX : Hid (la[i]?.getD 0 = 0) := by show _ = _; rw [List.getElem?_eq_none (by have := HN.out; omega)]; rfl
          have hx1 : 0 < 10000 := by omega
          by_cases him : i < M
          · have hib : i < lb.length := by have := HM.out; omega
            obtain ⟨b2, f2, hob, -, hy⟩ := RB.out.at' hbel.out i hib
            subst hob
            have GY : Hid (lb[i]?.getD 0 = lb[i]) := by show _ = _; rw [List.getElem?_eq_getElem hib]; rfl
            have hy1 : lb[i] < 10000 := CB.out.1.get i hib
            generalize lb[i] = y at *
            clear hib
            have e2 : wrap64 ((c : Int) + (y : Int)) = (c : Int) + (y : Int) := by unfold wrap64; omega
            have ez : ((c : Int) + (y : Int) : Int) = ((c + 0 + y : Nat) : Int) := by omega
            obtain ⟨d, hd⟩ : ∃ d, d = (c + 0 + y) % 10000 := ⟨_, rfl⟩
            obtain ⟨c2, hc2⟩ : ∃ c2, c2 = (c + 0 + y) / 10000 := ⟨_, rfl⟩
            have hrem : ((c : Int) + (y : Int) : Int).tmod 10000 = (d : Int) := by rw [hd]; exact rem_i64 ez (by omega)
            have hrem2 : ((c : Int) + (y : Int) : Int) % 10000 = (d : Int) := by omega
            have hquo : IntKind.i64.wrap (((c : Int) + (y : Int) : Int).tdiv 10000) = (c2 : Int) := by rw [hc2]; exact quo_i64 ez (by omega)
            have hquo2 : wrap64 (((c : Int) + (y : Int) : Int) / 10000) = (c2 : Int) := by rw [hc2]; exact quo_w64 ez (by omega)
            have ST := Lib.hid (Inv.out.step HLT.out GX.out GY.out hx1 hy1 hd hc2 (z := (d : Int)) rfl)
            have HC2 := Lib.hid hc2
            clear Inv ez hd hc2 hc1
            go_wp2_with fail
            go_roundw
            case rel => exact ⟨i + 1, c2, HLT.out, by first | with_reducible rfl | exact congrArg (Value.int .i64) hquo2, congrArg (Value.int .i64) HW.out, ST.out⟩
            case measure => rw [HW.out]; have := HLT.out; simp [intOf]; omega
          · have GY : Hid (lb[i]?.getD 0 = 0) := by show _ = _; rw [List.getElem?_eq_none (by have := HM.out; omega)]; rfl
            have hy1 : 0 < 10000 := by omega
            have ez : ((c : Int) : Int) = ((c + 0 + 0 : Nat) : Int) := by omega
            obtain ⟨d, hd⟩ : ∃ d, d = (c + 0 + 0) % 10000 := ⟨_, rfl⟩
            obtain ⟨c2, hc2⟩ : ∃ c2, c2 = (c + 0 + 0) / 10000 := ⟨_, rfl⟩
            have hrem : ((c : Int) : Int).tmod 10000 = (d : Int) := by rw [hd]; exact rem_i64 ez (by omega)
            have hrem2 : ((c : Int) : Int) % 10000 = (d : Int) := by omega
            have hquo : IntKind.i64.wrap (((c : Int) : Int).tdiv 10000) = (c2 : Int) := by rw [hc2]; exact quo_i64 ez (by omega)
            have hquo2 : wrap64 (((c : Int) : Int) / 10000) = (c2 : Int) := by rw [hc2]; exact quo_w64 ez (by omega)
            have ST := Lib.hid (Inv.out.step HLT.out GX.out GY.out hx1 hy1 hd hc2 (z := (d : Int)) rfl)
            have HC2 := Lib.hid hc2
            clear Inv ez hd hc2 hc1
            go_wp2_with fail
            go_roundw
            case rel => exact ⟨i + 1, c2, HLT.out, by first | with_reducible rfl | exact congrArg (Value.int .i64) hquo2, congrArg (Value.int .i64) HW.out, ST.out⟩
            case measure => rw [HW.out]; have := HLT.out; simp [intOf]; omega
      · have hiT : i = T := by omega
        subst hiT
        obtain ⟨s, k1, k2, k3, k4, k5⟩ := Inv.out.out CA.out.1 CB.out.1 (by have := HN.out; have := HTN.out; omega) (by have := HM.out; have := HTM.out; omega)
        have hrep := Rep.rowAll k1 i (by omega)
        rw [k2] at hrep
        have HT9 : Hid (Calls Tryz.prog 100 #[.slice (some ⟨w.heap.size, 0, none⟩) i i] wr fun e w' => ∃ v, e = .returned v ∧ Rep wr .i64 v (trim s) ∧ w' = wr) := by
          have := rtrim_any (oa := some ⟨w.heap.size, 0, none⟩) (l := s) (cap := i) (by have := HT.out; omega) (w := wr) (by rw [k2]; exact hrep)
          rw [k2] at this
          exact this
        have K3 := Lib.hid k3; have K4 := Lib.hid k4; have K5 := Lib.hid k5
        clear Inv k1 k2 k3 k4 k5 hrep
        go_wp2_with fail
        refine HT9.out.mono ?_; rintro e' w2 ⟨v', rfl, hv', rfl⟩
        have HV' := Lib.hid hv'; clear hv'
        go_wp2_with fail
        go_ret
        exact ⟨_, rfl, ⟨_, HV'.out, canon_trim K3.out, by rw [val_trim, K4.out]⟩, K5.out⟩
  · have hTi := hT2 hNM
    clear hT1 hT2
    go_enter Tryz.func75, Tryz.ntmps75
    go_wp2_with fail
    clear hTi hNM
    have HR := Lib.hid (Row.new w .i64 3 (List.replicate T 0))
    have HB := Lib.hid ((Below.refl _ w).alloc (Nat.le_refl _) (.cells (ns .i64 (List.replicate T 0)) 3))
    generalize w.alloc (.cells (ns .i64 (List.replicate T 0)) 3) = w1 at *
    clear hmk
    go_loopw [6, 7] (fun v6 v7 wr => ∃ (i c : Nat), i ≤ T ∧ v6 = .int .i64 (c : Nat) ∧ v7 = .int .i64 (i : Nat) ∧ Hid (AddI la lb T w wr i c)) (fun _ vi _ => T - (intOf vi).toNat)
    case atStart => exact ⟨0, 0, Nat.zero_le _, rfl, rfl, by omega, [], by have := HR.out; rw [List.nil_append, Nat.sub_zero]; exact this, rfl, Digs.nil _, by simp [val], HB.out⟩
    case round =>
      obtain ⟨i, c, hi, rfl, rfl, hinv⟩ := hrel
      have Inv := Lib.hid hinv.out; clear hinv
      by_cases hlt : i < T
      · have hc1 : c ≤ 1 := Inv.out.1
        have hbel : Hid (Below w.heap.size w wr) := by obtain ⟨_, s, _, _, _, _, h5⟩ := Inv.out; exact h5
        obtain ⟨cc, hcc, hff⟩ : ∃ v0, wr.cell? ⟨w.heap.size, i, none⟩ = some v0 ∧ wr.frozen? ⟨w.heap.size, i, none⟩ = false := by
          obtain ⟨_, s, h1, h2, _, _, _⟩ := Inv.out
          exact ⟨_, h1.cell i (by rw [List.length_append, List.length_replicate]; omega), h1.free i⟩
        have HLT := Lib.hid hlt
        have hw : wrap64 ((i : Int) + 1) = ((i + 1 : Nat) : Int) := by unfold wrap64; have := HT.out; omega
        have HW := Lib.hid hw; clear hw
        by_cases hin : i < N
        · have hia : i < la.length := by have := HN.out; omega
          obtain ⟨b1, f1, hoa, -, hx⟩ := RA.out.at' hbel.out i hia
          subst hoa
          have GX : Hid (la[i]?.getD 0 = la[i]) := by show _ = _; rw [List.getElem?_eq_getElem hia]; rfl
          have hx1 : la[i] < 10000 := CA.out.1.get i hia
          generalize la[i] = x at *
          clear hia
          have e1 : wrap64 ((c : Int) + (x : Int)) = (c : Int) + (x : Int) := by unfold wrap64; omega
          by_cases him : i < M
          · have hib : i < lb.length := by have := HM.out; omega
            obtain ⟨b2, f2, hob, -, hy⟩ := RB.out.at' hbel.out i hib
            subst hob
            have GY : Hid (lb[i]?.getD 0 = lb[i]) := by show _ = _; rw [List.getElem?_eq_getElem hib]; rfl
            have hy1 : lb[i] < 10000 := CB.out.1.get i hib
            generalize lb[i] = y at *
            clear hib
            have e2 : wrap64 ((c : Int) + (x : Int) + (y : Int)) = (c : Int) + (x : Int) + (y : Int) := by unfold wrap64; omega
            have ez : ((c : Int) + (x : Int) + (y : Int) : Int) = ((c + x + y : Nat) : Int) := by omega
            obtain ⟨d, hd⟩ : ∃ d, d = (c + x + y) % 10000 := ⟨_, rfl⟩
            obtain ⟨c2, hc2⟩ : ∃ c2, c2 = (c + x + y) / 10000 := ⟨_, rfl⟩
            have hrem : ((c : Int) + (x : Int) + (y : Int) : Int).tmod 10000 = (d : Int) := by rw [hd]; exact rem_i64 ez (by omega)
            have hrem2 : ((c : Int) + (x : Int) + (y : Int) : Int) % 10000 = (d : Int) := by omega
            have hquo : IntKind.i64.wrap (((c : Int) + (x : Int) + (y : Int) : Int).tdiv 10000) = (c2 : Int) := by rw [hc2]; exact quo_i64 ez (by omega)
            have hquo2 : wrap64 (((c : Int) + (x : Int) + (y : Int) : Int) / 10000) = (c2 : Int) := by rw [hc2]; exact quo_w64 ez (by omega)
            have ST := Lib.hid (Inv.out.step HLT.out GX.out GY.out hx1 hy1 hd hc2 (z := (d : Int)) rfl)
            have HC2 := Lib.hid hc2
            clear Inv ez hd hc2 hc1
            go_wp2_with fail
            go_roundw
            case rel => exact ⟨i + 1, c2, HLT.out, by first | with_reducible rfl | exact congrArg (Value.int .i64) hquo2, congrArg (Value.int .i64) HW.out, ST.out⟩
            case measure => rw [HW.out]; have := HLT.out; simp [intOf]; omega
          · have GY : Hid (lb[i]?.getD 0 = 0) := by show _ = _; rw [List.getElem?_eq_none (by have := HM.out; omega)]; rfl
            have hy1 : 0 < 10000 := by omega
            have ez : ((c : Int) + (x : Int) : Int) = ((c + x + 0 : Nat) : Int) := by omega
            obtain ⟨d, hd⟩ : ∃ d, d = (c + x + 0) % 10000 := ⟨_, rfl⟩
            obtain ⟨c2, hc2⟩ : ∃ c2, c2 = (c + x + 0) / 10000 := ⟨_, rfl⟩
            have hrem : ((c : Int) + (x : Int) : Int).tmod 10000 = (d : Int) := by rw [hd]; exact rem_i64 ez (by omega)
            have hrem2 : ((c : Int) + (x : Int) : Int) % 10000 = (d : Int) := by omega
            have hquo : IntKind.i64.wrap (((c : Int) + (x : Int) : Int).tdiv 10000) = (c2 : Int) := by rw [hc2]; exact quo_i64 ez (by omega)
            have hquo2 : wrap64 (((c : Int) + (x : Int) : Int) / 10000) = (c2 : Int) := by rw [hc2]; exact quo_w64 ez (by omega)
            have ST := Lib.hid (Inv.out.step HLT.out GX.out GY.out hx1 hy1 hd hc2 (z := (d : Int)) rfl)
            have HC2 := Lib.hid hc2
            clear Inv ez hd hc2 hc1
            go_wp2_with fail
            go_roundw
            case rel => exact ⟨i + 1, c2, HLT.out, by first | with_reducible rfl | exact congrArg (Value.int .i64) hquo2, congrArg (Value.int .i64) HW.out, ST.out⟩
            case measure => rw [HW.out]; have := HLT.out; simp [intOf]; omega
        · have GX : Hid (la[i]?.getD 0 = 0) := by show _ = _; rw [List.getElem?_eq_none (by have := HN.out; omega)]; rfl
          have hx1 : 0 < 10000 := by omega
          by_cases him : i < M
          · have hib : i < lb.length := by have := HM.out; omega
            obtain ⟨b2, f2, hob, -, hy⟩ := RB.out.at' hbel.out i hib
            subst hob
            have GY : Hid (lb[i]?.getD 0 = lb[i]) := by show _ = _; rw [List.getElem?_eq_getElem hib]; rfl
            have hy1 : lb[i] < 10000 := CB.out.1.get i hib
            generalize lb[i] = y at *
            clear hib
            have e2 : wrap64 ((c : Int) + (y : Int)) = (c : Int) + (y : Int) := by unfold wrap64; omega
            have ez : ((c : Int) + (y : Int) : Int) = ((c + 0 + y : Nat) : Int) := by omega
            obtain ⟨d, hd⟩ : ∃ d, d = (c + 0 + y) % 10000 := ⟨_, rfl⟩
            obtain ⟨c2, hc2⟩ : ∃ c2, c2 = (c + 0 + y) / 10000 := ⟨_, rfl⟩
            have hrem : ((c : Int) + (y : Int) : Int).tmod 10000 = (d : Int) := by rw [hd]; exact rem_i64 ez (by omega)
            have hrem2 : ((c : Int) + (y : Int) : Int) % 10000 = (d : Int) := by omega
            have hquo : IntKind.i64.wrap (((c : Int) + (y : Int) : Int).tdiv 10000) = (c2 : Int) := by rw [hc2]; exact quo_i64 ez (by omega)
            have hquo2 : wrap64 (((c : Int) + (y : Int) : Int) / 10000) = (c2 : Int) := by rw [hc2]; exact quo_w64 ez (by omega)
            have ST := Lib.hid (Inv.out.step HLT.out GX.out GY.out hx1 hy1 hd hc2 (z := (d : Int)) rfl)
            have HC2 := Lib.hid hc2
            clear Inv ez hd hc2 hc1
            go_wp2_with fail
            go_roundw
            case rel => exact ⟨i + 1, c2, HLT.out, by first | with_reducible rfl | exact congrArg (Value.int .i64) hquo2, congrArg (Value.int .i64) HW.out, ST.out⟩
            case measure => rw [HW.out]; have := HLT.out; simp [intOf]; omega
          · have GY : Hid (lb[i]?.getD 0 = 0) := by show _ = _; rw [List.getElem?_eq_none (by have := HM.out; omega)]; rfl
            have hy1 : 0 < 10000 := by omega
            have ez : ((c : Int) : Int) = ((c + 0 + 0 : Nat) : Int) := by omega
            obtain ⟨d, hd⟩ : ∃ d, d = (c + 0 + 0) % 10000 := ⟨_, rfl⟩
            obtain ⟨c2, hc2⟩ : ∃ c2, c2 = (c + 0 + 0) / 10000 := ⟨_, rfl⟩
            have hrem : ((c : Int) : Int).tmod 10000 = (d : Int) := by rw [hd]; exact rem_i64 ez (by omega)
            have hrem2 : ((c : Int) : Int) % 10000 = (d : Int) := by omega
            have hquo : IntKind.i64.wrap (((c : Int) : Int).tdiv 10000) = (c2 : Int) := by rw [hc2]; exact quo_i64 ez (by omega)
            have hquo2 : wrap64 (((c : Int) : Int) / 10000) = (c2 : Int) := by rw [hc2]; exact quo_w64 ez (by omega)
            have ST := Lib.hid (Inv.out.step HLT.out GX.out GY.out hx1 hy1 hd hc2 (z := (d : Int)) rfl)
            have HC2 := Lib.hid hc2
            clear Inv ez hd hc2 hc1
            go_wp2_with fail
            go_roundw
            case rel => exact ⟨i + 1, c2, HLT.out, by first | with_reducible rfl | exact congrArg (Value.int .i64) hquo2, congrArg (Value.int .i64) HW.out, ST.out⟩
            case measure => rw [HW.out]; have := HLT.out; simp [intOf]; omega
      · have hiT : i = T := by omega
        subst hiT
        obtain ⟨s, k1, k2, k3, k4, k5⟩ := Inv.out.out CA.out.1 CB.out.1 (by have := HN.out; have := HTN.out; omega) (by have := HM.out; have := HTM.out; omega)
        have hrep := Rep.rowAll k1 i (by omega)
        rw [k2] at hrep
        have HT9 : Hid (Calls Tryz.prog 100 #[.slice (some ⟨w.heap.size, 0, none⟩) i i] wr fun e w' => ∃ v, e = .returned v ∧ Rep wr .i64 v (trim s) ∧ w' = wr) := by
          have := rtrim_any (oa := some ⟨w.heap.size, 0, none⟩) (l := s) (cap := i) (by have := HT.out; omega) (w := wr) (by rw [k2]; exact hrep)
          rw [k2] at this
          exact this
        have K3 := Lib.hid k3; have K4 := Lib.hid k4; have K5 := Lib.hid k5
        clear Inv k1 k2 k3 k4 k5 hrep
        go_wp2_with fail
        refine HT9.out.mono ?_; rintro e' w2 ⟨v', rfl, hv', rfl⟩
        have HV' := Lib.hid hv'; clear hv'
        go_wp2_with fail
        go_ret
        exact ⟨_, rfl, ⟨_, HV'.out, canon_trim K3.out, by rw [val_trim, K4.out]⟩, K5.out⟩
end Go.Proofs.YtegobakoflbnfaaGreatDoor.QA

namespace Go.Proofs.YtegobakoflbnfaaGreatDoor.QA
open Go Go.RowKit Go.Shelf WN LM

theorem val_set {B : Nat} {l : List Nat} {j : Nat} (hj : j < l.length) (d : Nat) : val B (l.set j d) + B ^ j * l[j] = val B l + B ^ j * d := by
  induction l generalizing j with
  | nil => simp at hj
  | cons a l ih =>
    cases j with
    | zero => simp; omega
    | succ j =>
      have h := ih (j := j) (by simpa using hj)
      simp only [List.set_cons_succ, val_cons, List.getElem_cons_succ, Nat.pow_succ]
      generalize val B (l.set j d) = X at *
      generalize val B l = Y at *
      generalize l[j]'(by simpa using hj) = o at *
      generalize B ^ j = p at *
      grind
def MulI (la lb : List Nat) (w wr : World) (i x k c : Nat) (s : List Nat) : Prop :=
  c < 10000 ∧ Row wr w.heap.size .i64 3 s ∧ s.length = la.length + lb.length + 1 ∧ Digs 10000 s ∧ val 10000 s + 10000 ^ (i + k) * c = val 10000 (la.take i) * val 10000 lb + 10000 ^ i * x * val 10000 (lb.take k) ∧ Below w.heap.size w wr
theorem MulI.go {la lb : List Nat} {w wr wx : World} {i x k c : Nat} {s : List Nat} (h : MulI la lb w wr i x k c s) (hb : Below wr.heap.size wr wx) : MulI la lb w wx i x k c s :=
  ⟨h.1, h.2.1.below hb h.2.1.lt, h.2.2.1, h.2.2.2.1, h.2.2.2.2.1, bstep h.2.2.2.2.2 hb⟩
theorem MulI.step {la lb : List Nat} {w wr : World} {i x k c y d c' o : Nat} {s : List Nat} {z : Int} (h : MulI la lb w wr i x k c s) (hi : i + k < s.length) (ho : s[i + k]? = some o) (hy : lb[k]?.getD 0 = y) (hx : x < 10000) (hy1 : y < 10000) (hd : d = (o + c + x * y) % 10000) (hc : c' = (o + c + x * y) / 10000) (hz : z = (d : Int)) :
    MulI la lb w (wr.setCell ⟨w.heap.size, i + k, none⟩ (.int .i64 z)) i x (k + 1) c' (s.set (i + k) d) := by
  obtain ⟨h0, h1, h2, h3, h4, h5⟩ := h
  subst hz
  rw [List.getElem?_eq_getElem hi] at ho
  have ho := Option.some.inj ho
  have ho1 : o < 10000 := by rw [← ho]; exact h3.get _ hi
  have he : d + 10000 * c' = o + c + x * y := by subst hd hc; exact Nat.mod_add_div _ _
  have hxy : x * y ≤ 9999 * 9999 := Nat.mul_le_mul (by omega) (by omega)
  refine ⟨by omega, h1.set (i + k) d, by rw [List.length_set]; exact h2, h3.set _ _ (by omega), ?_, h5.setCell (p := ⟨w.heap.size, i + k, none⟩) (Nat.le_refl _) _⟩
  have hs := val_set (B := 10000) hi d
  rw [ho] at hs
  rw [val_take_next, hy, ← Nat.add_assoc i k 1, Nat.pow_succ]
  rw [Nat.pow_add] at hs h4 ⊢
  clear hd hc h1 h5 h3
  generalize val 10000 (s.set (i + k) d) = S2 at *
  generalize val 10000 s = S at *
  generalize val 10000 (la.take i) * val 10000 lb = A at *
  generalize val 10000 (lb.take k) = L at *
  generalize 10000 ^ i = p at *
  generalize 10000 ^ k = q at *
  have h9 : p * q * (d + 10000 * c') = p * q * (o + c + x * y) := by rw [he]
  grind
theorem MulI.fits {la lb : List Nat} {w wr : World} {i x k c : Nat} {s : List Nat} (h : MulI la lb w wr i x k c s) (da : Digs 10000 la) (db : Digs 10000 lb) (hi : i < la.length) (hx : la[i]? = some x) (hc : 0 < c) : k < lb.length + 1 := by
  obtain ⟨h0, h1, h2, h3, h4, h5⟩ := h
  rcases Nat.lt_or_ge k (lb.length + 1) with hk | hk
  · exact hk
  · exfalso
    rw [List.take_of_length_le (l := lb) (by omega)] at h4
    have e1 : val 10000 (la.take (i + 1)) = val 10000 (la.take i) + 10000 ^ i * x := by rw [val_take_next, hx]; rfl
    have e2 : val 10000 s + 10000 ^ (i + k) * c = val 10000 (la.take (i + 1)) * val 10000 lb := by rw [h4, e1]; grind
    have h6 := val_lt (B := 10000) (by omega) (da.take (i + 1))
    have h7 := val_lt (B := 10000) (by omega) db
    rw [List.length_take, Nat.min_eq_left (by omega)] at h6
    have h8 : val 10000 (la.take (i + 1)) * val 10000 lb ≤ 10000 ^ (i + 1) * 10000 ^ lb.length := Nat.mul_le_mul (by omega) (by omega)
    rw [← Nat.pow_add] at h8
    have h9 : 10000 ^ (i + 1 + lb.length) ≤ 10000 ^ (i + k) := Nat.pow_le_pow_right (by omega) (by omega)
    have h10 : 10000 ^ (i + k) * 1 ≤ 10000 ^ (i + k) * c := Nat.mul_le_mul_left _ hc
    have h11 : 0 < val 10000 lb := by
      rcases Nat.eq_zero_or_pos (val 10000 lb) with h | h
      · rw [h, Nat.mul_zero] at e2
        have : 0 < 10000 ^ (i + k) := Nat.pow_pos (by omega)
        omega
      · exact h
    have h12 : val 10000 (la.take (i + 1)) * val 10000 lb < 10000 ^ (i + 1) * val 10000 lb := Nat.mul_lt_mul_of_pos_right h6 h11
    have h13 : 10000 ^ (i + 1) * val 10000 lb ≤ 10000 ^ (i + 1) * 10000 ^ lb.length := Nat.mul_le_mul_left _ (by omega)
    rw [← Nat.pow_add] at h13
    omega
theorem MulI.next {la lb : List Nat} {w wr : World} {i x k c x' : Nat} {s : List Nat} (h : MulI la lb w wr i x k c s) (hx : la[i]? = some x) (hk : lb.length ≤ k) (hc : c = 0) : MulI la lb w wr (i + 1) x' 0 0 s := by
  obtain ⟨h0, h1, h2, h3, h4, h5⟩ := h
  subst hc
  rw [List.take_of_length_le hk] at h4
  refine ⟨by omega, h1, h2, h3, ?_, h5⟩
  rw [val_take_next, hx]
  simp only [List.take_zero, val_nil, Nat.mul_zero, Nat.add_zero] at h4 ⊢
  show _ = (val 10000 (la.take i) + 10000 ^ i * x) * _
  rw [h4]; grind
theorem MulI.any {la lb : List Nat} {w wr : World} {i x x' : Nat} {s : List Nat} (h : MulI la lb w wr i x 0 0 s) : MulI la lb w wr i x' 0 0 s := by
  obtain ⟨h0, h1, h2, h3, h4, h5⟩ := h
  refine ⟨by omega, h1, h2, h3, ?_, h5⟩
  simp only [List.take_zero, val_nil, Nat.mul_zero, Nat.add_zero] at h4 ⊢
  exact h4

set_option maxHeartbeats 8000000 in
set_option maxRecDepth 100000 in
theorem rmul_any {va vb : Value} {n m : Nat} {w : World} (ha : RNum w va n) (hb : RNum w vb m) (ln : RLen n ≤ 1000000) (lm : RLen m ≤ 1000000) : Calls Tryz.prog 74 #[va, vb] w (RRet w (n * m)) := by
  obtain ⟨la, ra, ca, rfl⟩ := ha
  obtain ⟨lb, rb, cb, rfl⟩ := hb
  have hla : la.length ≤ 1000000 := by rw [rlen_eq ca rfl]; exact ln
  have hlb : lb.length ≤ 1000000 := by rw [rlen_eq cb rfl]; exact lm
  clear ln lm
  obtain ⟨oa, capa, rfl, -, -⟩ := id ra
  obtain ⟨ob, capb, rfl, -, -⟩ := id rb
  have RA := Lib.hid ra; have RB := Lib.hid rb; have CA := Lib.hid ca; have CB := Lib.hid cb
  clear ra rb ca cb
  obtain ⟨N, hN⟩ : ∃ N, la.length = N := ⟨_, rfl⟩
  obtain ⟨M, hM⟩ : ∃ M, lb.length = M := ⟨_, rfl⟩
  rw [hN] at hla
  rw [hM] at hlb
  rw [hN, hM]
  have HN := Lib.hid hN; have HM := Lib.hid hM; have HLA := Lib.hid hla; have HLB := Lib.hid hlb
  obtain ⟨T, hT⟩ : ∃ T : Nat, N + M + 1 = T := ⟨_, rfl⟩
  have hTi0 : wrap64 ((N : Int) + (M : Int)) = (N : Int) + (M : Int) := by unfold wrap64; omega
  have hTi : wrap64 ((N : Int) + (M : Int) + 1) = (T : Int) := by unfold wrap64; omega
  have HTT := Lib.hid hT
  have HT : Hid (T ≤ 2000001) := by show _ ≤ _; omega
  have hmk := fun w => make_ints w (T : Int) (T : Int) (by omega) (by omega) (by omega)
  simp only [Int.toNat_natCast] at hmk
  clear hN hM hlb hla hT
  go_enter Tryz.func74, Tryz.ntmps74
  go_wp2_with fail
  have HR := Lib.hid (Row.new w .i64 3 (List.replicate T 0))
  have HB := Lib.hid ((Below.refl _ w).alloc (Nat.le_refl _) (.cells (ns .i64 (List.replicate T 0)) 3))
  generalize w.alloc (.cells (ns .i64 (List.replicate T 0)) 3) = w1 at *
  clear hmk hTi hTi0
  go_loopw [6] (fun v6 wr => ∃ (i : Nat), i ≤ N ∧ v6 = .int .i64 (i : Nat) ∧ Hid (∃ s, MulI la lb w wr i 0 0 0 s)) (fun vi _ => N - (intOf vi).toNat)
  case atStart =>
    refine ⟨0, Nat.zero_le _, rfl, List.replicate T 0, by omega, HR.out, by rw [List.length_replicate, HN.out, HM.out]; exact HTT.out.symm, ?_, ?_, HB.out⟩
    · intro x hx
      rw [List.mem_replicate] at hx
      omega
    · rw [val_replicate_zero]; simp
  case round =>
    obtain ⟨i, hi, rfl, hinv⟩ := hrel
    have Inv := Lib.hid hinv.out; clear hinv
    by_cases hlt : i < N
    · have hia : i < la.length := by have := HN.out; omega
      have GX : Hid (la[i]? = some la[i]) := List.getElem?_eq_getElem hia
      have hx1 : la[i] < 10000 := CA.out.1.get i hia
      have HX1 := Lib.hid hx1
      have HLT := Lib.hid hlt
      have HIA := Lib.hid hia
      have hw : wrap64 ((i : Int) + 1) = ((i + 1 : Nat) : Int) := by unfold wrap64; have := HLA.out; omega
      have HW := Lib.hid hw; clear hw
      obtain ⟨b1, f1, hoa, -, hx0⟩ := RA.out.at' (Below.refl _ _) i hia
      subst hoa
      have HX0 : Hid (w.cell? ⟨b1, f1 + i, none⟩ = some (.int .i64 (la[i] : Nat))) := hx0
      clear hx0
      generalize la[i] = x at *
      clear hia hx1
      go_wp2_with fail
      go_loopw [7, 8] (fun v7 v8 wk => ∃ (k c : Nat), k ≤ M + 1 ∧ v7 = .int .i64 (c : Nat) ∧ v8 = .int .i64 (k : Nat) ∧ Hid (∃ s, MulI la lb w wk i x k c s)) (fun _ vk _ => M + 2 - (intOf vk).toNat)
      case atStart => exact ⟨0, 0, Nat.zero_le _, rfl, rfl, by obtain ⟨s, h⟩ := Inv.out; exact ⟨s, h.any⟩⟩
      case round =>
        clear Inv
        rename World => wk
        obtain ⟨k, c, hk, rfl, rfl, hinv⟩ := hrel
        obtain ⟨s, hs⟩ := hinv.out
        have Inv := Lib.hid hs; clear hinv hs
        have hbel : Hid (Below w.heap.size w wk) := Inv.out.2.2.2.2.2
        have hwk : wrap64 ((k : Int) + 1) = ((k + 1 : Nat) : Int) := by unfold wrap64; have := HLB.out; omega
        have HWK := Lib.hid hwk; clear hwk
        have HK := Lib.hid hk
        have hcb : c < 10000 := Inv.out.1
        have hik : wrap64 ((i : Int) + (k : Int)) = ((i + k : Nat) : Int) := by unfold wrap64; have := HLA.out; have := HLB.out; omega
        have part : i + k < T → Hid (∃ o, o < 10000 ∧ s[i + k]? = some o ∧ wk.cell? ⟨w.heap.size, i + k, none⟩ = some (.int .i64 (o : Nat)) ∧ wk.frozen? ⟨w.heap.size, i + k, none⟩ = false) := fun h => by
          obtain ⟨h0, h1, h2, h3, h4, h5⟩ := Inv.out
          have hl : i + k < s.length := by rw [h2, HN.out, HM.out]; have := HTT.out; omega
          exact ⟨s[i + k], h3.get _ hl, List.getElem?_eq_getElem hl, h1.cell _ hl, h1.free _⟩
        have HIS : Hid (i + k < T → i + k < s.length) := fun h => by
          obtain ⟨h0, h1, h2, h3, h4, h5⟩ := Inv.out
          rw [h2, HN.out, HM.out]; have := HTT.out; omega
        by_cases hkm : k < M
        · have hT9 : i + k < T := by have := HTT.out; omega
          obtain ⟨o, ho1, ho, hcc, hff⟩ := (part hT9).out
          have HO := Lib.hid ho; have HO1 := Lib.hid ho1; have HIS2 := Lib.hid (HIS.out hT9)
          clear part HIS ho
          have hkb : k < lb.length := by have := HM.out; omega
          obtain ⟨b2, f2, hob, -, hy0⟩ := RB.out.at' hbel.out k hkb
          subst hob
          have GY : Hid (lb[k]?.getD 0 = lb[k]) := by show _ = _; rw [List.getElem?_eq_getElem hkb]; rfl
          have hy1 : lb[k] < 10000 := CB.out.1.get k hkb
          generalize lb[k] = y at *
          clear hkb
          have HY1 := Lib.hid hy1
          have HY0 := Lib.hid hy0; clear hy0
          have HXW := Lib.hid (keepc HX0.out hbel.out)
          have HFF := Lib.hid hff; have HCC := Lib.hid hcc; clear hff
          have e1 : wrap64 ((o : Int) + (c : Int)) = (o : Int) + (c : Int) := by unfold wrap64; omega
          obtain ⟨p, hp⟩ : ∃ p, p = x * y := ⟨_, rfl⟩
          have hpb : p ≤ 99980001 := by
            have : x * y ≤ 9999 * 9999 := Nat.mul_le_mul (by have := HX1.out; omega) (by omega)
            omega
          have e2 : IntKind.i64.wrap ((x : Int) * (y : Int)) = (p : Int) := by
            rw [hp, Int.natCast_mul, ← Int.natCast_mul]; exact IntWalk.i64_in _ ⟨by omega, by omega⟩
          have E2 := Lib.hid e2
          have HCB := Lib.hid hcb
          have HPB := Lib.hid hpb
          have HP := Lib.hid hp
          clear e2 hpb hy1 hp e1
          go_wp2_with fail
          refine region_inv 10 67 [(45, Is (.int .i64 ((o : Int) + (c : Int)))), (46, Is (.slice (some ⟨b1, f1, none⟩) N capa)), (47, Is (.int .i64 ((i : Int)))), (48, Is (.pointer (some ⟨b1, f1 + i, none⟩))), (49, Is (.int .i64 ((x : Int)))), (50, Is (.slice (some ⟨b2, f2, none⟩) M capb)), (51, Is (.int .i64 ((k : Int)))), (52, Is (.pointer (some ⟨b2, f2 + k, none⟩))), (53, Is (.int .i64 ((y : Int)))), (54, Is (.int .i64 (p : Int)))] (by kernel_rfl) rfl (by kernel_rfl) ?_ ?_
          · refine steps_cons rfl (fun A_ W hb hr hg K hK => ?_) <| steps_cons rfl (fun A_ W hb hr hg K hK => ?_) <| steps_cons rfl (fun A_ W hb hr hg K hK => ?_) <| steps_cons rfl (fun A_ W hb hr hg K hK => ?_) <| steps_cons rfl (fun A_ W hb hr hg K hK => ?_) <| steps_cons rfl (fun A_ W hb hr hg K hK => ?_) <| steps_cons rfl (fun A_ W hb hr hg K hK => ?_) <| steps_cons rfl (fun A_ W hb hr hg K hK => ?_) <| steps_cons rfl (fun A_ W hb hr hg K hK => ?_) <| steps_cons rfl (fun A_ W hb hr hg K hK => ?_) trivial
            · have e0 : A_.tmps[9]?.getD undef = .int .i64 ((o : Int) + (c : Int)) := hb 9 (by kernel_rfl)
              clear hb hr
              go_simp
              exact hK _ _ (Below.refl _ _) (rfl)
            · have e0 : A_.tmps[0]?.getD undef = .slice (some ⟨b1, f1, none⟩) N capa := hb 0 (by kernel_rfl)
              clear hb hr
              go_simp
              exact hK _ _ (Below.refl _ _) (rfl)
            · have e0 : A_.tmps[6]?.getD undef = .int .i64 ((i : Int)) := hb 6 (by kernel_rfl)
              clear hb hr
              go_simp
              exact hK _ _ (Below.refl _ _) (rfl)
            · have e0 : A_.tmps[46]?.getD undef = .slice (some ⟨b1, f1, none⟩) N capa := hr 46 (by kernel_rfl)
              have e1 : A_.tmps[47]?.getD undef = .int .i64 ((i : Int)) := hr 47 (by kernel_rfl)
              clear hb hr
              go_simp; exact hK _ _ (Below.refl _ _) (rfl)
            · have e0 : A_.tmps[48]?.getD undef = .pointer (some ⟨b1, f1 + i, none⟩) := hr 48 (by kernel_rfl)
              clear hb hr
              have c0 := keepc HXW.out hg
              go_simp; exact hK _ _ (Below.refl _ _) (rfl)
            · have e0 : A_.tmps[1]?.getD undef = .slice (some ⟨b2, f2, none⟩) M capb := hb 1 (by kernel_rfl)
              clear hb hr
              go_simp
              exact hK _ _ (Below.refl _ _) (rfl)
            · have e0 : A_.tmps[8]?.getD undef = .int .i64 ((k : Int)) := hb 8 (by kernel_rfl)
              clear hb hr
              go_simp
              exact hK _ _ (Below.refl _ _) (rfl)
            · have e0 : A_.tmps[50]?.getD undef = .slice (some ⟨b2, f2, none⟩) M capb := hr 50 (by kernel_rfl)
              have e1 : A_.tmps[51]?.getD undef = .int .i64 ((k : Int)) := hr 51 (by kernel_rfl)
              clear hb hr
              go_simp; exact hK _ _ (Below.refl _ _) (rfl)
            · have e0 : A_.tmps[52]?.getD undef = .pointer (some ⟨b2, f2 + k, none⟩) := hr 52 (by kernel_rfl)
              clear hb hr
              have c0 := keepc HY0.out hg
              go_simp; exact hK _ _ (Below.refl _ _) (rfl)
            · have e0 : A_.tmps[49]?.getD undef = .int .i64 ((x : Int)) := hr 49 (by kernel_rfl)
              have e1 : A_.tmps[53]?.getD undef = .int .i64 ((y : Int)) := hr 53 (by kernel_rfl)
              clear hb hr
              go_simp; exact hK _ _ (Below.refl _ _) (congrArg (Value.int .i64) E2.out)
          rintro g101 w101 hb101 ⟨h45, -, -, -, -, -, -, -, -, h54, -⟩
          simp only [List.drop_succ_cons, List.drop_zero, List.take_succ_cons, List.take_zero, putHead, Option.getD_some, Act.put, List.setIfInBounds_toArray, List.set_cons_zero, List.set_cons_succ]
          replace h45 : g101 45 = .int .i64 ((o : Int) + (c : Int)) := h45
          generalize g101 45 = v45 at *
          subst h45
          replace h54 : g101 54 = .int .i64 (p : Int) := h54
          generalize g101 54 = v54 at *
          subst h54
          have Inv2 := Lib.hid (Inv.out.go hb101)
          have hc2 := keepc HCC.out hb101
          have hf2 : w101.frozen? ⟨w.heap.size, i + k, none⟩ = false := Inv2.out.2.1.free _
          clear hb101 Inv hcc
          have ho1 := HO1.out; have hcb := HCB.out; have hpb := HPB.out
          obtain ⟨d, hd⟩ : ∃ d, d = (o + c + x * y) % 10000 := ⟨_, rfl⟩
          obtain ⟨c2, hc9⟩ : ∃ c2, c2 = (o + c + x * y) / 10000 := ⟨_, rfl⟩
          have ez : ((o : Int) + (c : Int) + (p : Int)) = ((o + c + x * y : Nat) : Int) := by rw [← HP.out]; omega
          have hbd : o + c + x * y ≤ 9223372036854775807 := by rw [← HP.out]; omega
          have hrem2 : ((o : Int) + (c : Int) + (p : Int)) % 10000 = (d : Int) := by have hp := HP.out; rw [← hp] at hd; clear ez hp; omega
          have hrem : ((o : Int) + (c : Int) + (p : Int)).tmod 10000 = (d : Int) := by rw [hd]; exact rem_i64 ez hbd
          have hquo2 : wrap64 (((o : Int) + (c : Int) + (p : Int)) / 10000) = (c2 : Int) := by rw [hc9]; exact quo_w64 ez hbd
          have hquo : IntKind.i64.wrap (((o : Int) + (c : Int) + (p : Int)).tdiv 10000) = (c2 : Int) := by rw [hc9]; exact quo_i64 ez hbd
          have ST := Lib.hid (Inv2.out.step (d := d) (c' := c2) HIS2.out HO.out GY.out HX1.out HY1.out (z := (d : Int)) hd hc9 rfl)
          clear ez Inv2 hd hc9 hbd
          go_wp2_with fail
          go_roundw
          case rel => exact ⟨k + 1, c2, by omega, by first | with_reducible rfl | exact congrArg (Value.int .i64) hquo2, congrArg (Value.int .i64) HWK.out, _, ST.out⟩
          case measure => rw [HWK.out]; have := HK.out; simp [intOf]; omega
        · have hcp : c = 0 ∨ 0 < c := Nat.eq_zero_or_pos c
          have HCP := Lib.hid hcp; clear hcp
          rcases HCP.out with hc0 | hc0
          · subst hc0
            clear part HIS hcb
            have NX : Hid (∃ s, MulI la lb w wk (i + 1) 0 0 0 s) := ⟨s, Inv.out.next GX.out (by have := HM.out; omega) rfl⟩
            clear Inv
            go_wp2_with fail
            go_roundw
            case rel => exact ⟨i + 1, HLT.out, congrArg (Value.int .i64) HW.out, NX.out⟩
            case measure => rw [HW.out]; have := HLT.out; simp [intOf]; omega
          · have hkM : k = M := by have := Inv.out.fits CA.out.1 CB.out.1 HIA.out GX.out hc0; have := HM.out; omega
            have hT9 : i + k < T := by have := HTT.out; have := HLT.out; omega
            obtain ⟨o, ho1, ho, hcc, hff⟩ := (part hT9).out
            have HO := Lib.hid ho; have HO1 := Lib.hid ho1; have HIS2 := Lib.hid (HIS.out hT9)
            have HKM := Lib.hid hkM
            clear part HIS ho hkM
            have GY : Hid (lb[k]?.getD 0 = 0) := by show _ = _; rw [List.getElem?_eq_none (by have := HM.out; have := HKM.out; omega)]; rfl
            obtain ⟨d, hd⟩ : ∃ d, d = (o + c) % 10000 := ⟨_, rfl⟩
            obtain ⟨c2, hc9⟩ : ∃ c2, c2 = (o + c) / 10000 := ⟨_, rfl⟩
            have ez : ((o : Int) + (c : Int)) = ((o + c : Nat) : Int) := by omega
            have hbd : o + c ≤ 9223372036854775807 := by omega
            have hrem2 : ((o : Int) + (c : Int)) % 10000 = (d : Int) := by omega
            have hrem : ((o : Int) + (c : Int)).tmod 10000 = (d : Int) := by rw [hd]; exact rem_i64 ez hbd
            have hquo2 : wrap64 (((o : Int) + (c : Int)) / 10000) = (c2 : Int) := by rw [hc9]; exact quo_w64 ez hbd
            have hquo : IntKind.i64.wrap (((o : Int) + (c : Int)).tdiv 10000) = (c2 : Int) := by rw [hc9]; exact quo_i64 ez hbd
            have ST := Lib.hid (Inv.out.step (d := d) (c' := c2) HIS2.out HO.out GY.out HX1.out (y := 0) (by omega) (z := (d : Int)) (by rw [Nat.mul_zero, Nat.add_zero]; exact hd) (by rw [Nat.mul_zero, Nat.add_zero]; exact hc9) rfl)
            clear Inv hd hc9 ez hbd
            go_wp2_with fail
            go_roundw
            case rel => exact ⟨k + 1, c2, by have := HKM.out; omega, by first | with_reducible rfl | exact congrArg (Value.int .i64) hquo2, congrArg (Value.int .i64) HWK.out, _, ST.out⟩
            case measure => rw [HWK.out]; have := HK.out; simp [intOf]; omega
    · have hiN : i = N := by omega
      subst hiN
      obtain ⟨s, k0, k1, k2, k3, k4, k5⟩ := Inv.out
      have k4' : val 10000 s = val 10000 la * val 10000 lb := by
        rw [List.take_of_length_le (by have := HN.out; omega)] at k4
        simpa using k4
      have hsl : s.length = T := by rw [k2, HN.out, HM.out]; exact HTT.out
      have hrep := Rep.rowAll k1 T (by omega)
      rw [hsl] at hrep
      have HT9 : Hid (Calls Tryz.prog 100 #[.slice (some ⟨w.heap.size, 0, none⟩) T T] wr fun e w' => ∃ v, e = .returned v ∧ Rep wr .i64 v (trim s) ∧ w' = wr) := by
        have := rtrim_any (oa := some ⟨w.heap.size, 0, none⟩) (l := s) (cap := T) (by have := HT.out; omega) (w := wr) (by rw [hsl]; exact hrep)
        rw [hsl] at this
        exact this
      have K3 := Lib.hid k3; have K4 := Lib.hid k4'; have K5 := Lib.hid k5
      clear Inv k0 k1 k2 k3 k4 k4' k5 hrep hsl
      go_wp2_with fail
      refine HT9.out.mono ?_; rintro e' w2 ⟨v', rfl, hv', rfl⟩
      have HV' := Lib.hid hv'; clear hv'
      go_wp2_with fail
      go_ret
      exact ⟨_, rfl, ⟨_, HV'.out, canon_trim K3.out, by rw [val_trim, K4.out]⟩, K5.out⟩
end Go.Proofs.YtegobakoflbnfaaGreatDoor.QA

namespace Go.Proofs.YtegobakoflbnfaaGreatDoor.QA
open Go Go.RowKit Go.Shelf WN LM

theorem rlen_lt {n k : Nat} (h : n < 10000 ^ k) : RLen n ≤ k := len_le_of_lt (B := 10000) (by omega) (ofNat_canon (by omega) n).2 (by rw [val_ofNat (by omega)]; exact h)
theorem lt_rlen (n : Nat) : n < 10000 ^ RLen n := by
  have h := val_lt (B := 10000) (by omega) (ofNat_canon (B := 10000) (by omega) n).1
  rwa [val_ofNat (by omega)] at h
theorem rlen_mono {n m : Nat} (h : n ≤ m) : RLen n ≤ RLen m := rlen_lt (Nat.lt_of_le_of_lt h (lt_rlen m))
theorem rlen_mul (n m : Nat) : RLen (n * m) ≤ RLen n + RLen m := by
  refine rlen_lt ?_
  rw [Nat.pow_add]
  rcases Nat.eq_zero_or_pos m with h | h
  · subst h; rw [Nat.mul_zero]; exact Nat.mul_pos (Nat.pow_pos (by omega)) (Nat.pow_pos (by omega))
  · exact Nat.mul_lt_mul_of_lt_of_le (lt_rlen n) (Nat.le_of_lt (lt_rlen m)) (Nat.pow_pos (by omega))
theorem rlen_add (n m : Nat) : RLen (n + m) ≤ max (RLen n) (RLen m) + 1 := by
  refine rlen_lt ?_
  rw [Nat.pow_succ]
  have h1 := lt_rlen n
  have h2 := lt_rlen m
  have h3 : 10000 ^ RLen n ≤ 10000 ^ max (RLen n) (RLen m) := Nat.pow_le_pow_right (by omega) (by omega)
  have h4 : 10000 ^ RLen m ≤ 10000 ^ max (RLen n) (RLen m) := Nat.pow_le_pow_right (by omega) (by omega)
  omega
theorem rlen_small {n : Nat} (h : n < 10000) : RLen n ≤ 1 := rlen_lt (by rw [Nat.pow_one]; exact h)
theorem rlen_word {n : Nat} (h : n < 18446744073709551616) : RLen n ≤ 5 := rlen_lt (by
  have h9 : (10000 : Nat) ^ 5 = 100000000000000000000 := by decide
  rw [h9]; omega)
theorem rlen_pos {n : Nat} (h : 0 < n) : 0 < RLen n := by
  rcases Nat.eq_zero_or_pos (RLen n) with h0 | h0
  · have := lt_rlen n; rw [h0] at this; simp at this; omega
  · exact h0
theorem rlen_zero : RLen 0 = 0 := by unfold RLen; rfl
theorem rlen_le {n : Nat} (h : 0 < n) : 10000 ^ (RLen n - 1) ≤ n := by
  have hc := ofNat_canon (B := 10000) (by omega) n
  have := pow_le_val (B := 10000) hc.2 (by intro e; have := rlen_pos h; unfold RLen at this; rw [e] at this; simp at this)
  rwa [val_ofNat (by omega)] at this
theorem RNum.open {w : World} {v : Value} {n : Nat} (h : RNum w v n) : ∃ oa cap l, v = .slice oa (RLen n) cap ∧ Rep w .i64 (.slice oa (RLen n) cap) l ∧ Canon 10000 l ∧ val 10000 l = n ∧ l.length = RLen n := by
  obtain ⟨l, hr, hc, hv⟩ := h
  have hl := rlen_eq hc hv
  obtain ⟨oa, cap, rfl, h1, h2⟩ := id hr
  rw [hl] at hr ⊢
  exact ⟨oa, cap, l, rfl, hr, hc, hv, hl⟩
theorem RNum.shape {w : World} {v : Value} {n : Nat} (h : RNum w v n) : ∃ oa cap, v = .slice oa (RLen n) cap := by
  obtain ⟨oa, cap, l, h, _⟩ := h.open
  exact ⟨oa, cap, h⟩
theorem RNum.nil (w : World) : RNum w (.slice none 0 0) 0 := ⟨[], Rep.nil w _, ⟨Digs.nil _, Top.nil⟩, rfl⟩
theorem val_drop_div {l : List Nat} (h : Digs 10000 l) (f : Nat) : val 10000 (l.drop f) = val 10000 l / 10000 ^ f := by
  rcases Nat.lt_or_ge l.length f with hf | hf
  · rw [List.drop_of_length_le (by omega), val_nil]
    have h1 := val_lt (B := 10000) (by omega) h
    have h2 : 10000 ^ l.length ≤ 10000 ^ f := Nat.pow_le_pow_right (by omega) (by omega)
    rw [Nat.div_eq_of_lt (by omega)]
  · rw [val_take_drop _ l f hf, Nat.add_mul_div_left _ _ (Nat.pow_pos (by omega))]
    have h1 := val_lt (B := 10000) (by omega) (h.take f)
    rw [List.length_take, Nat.min_eq_left hf] at h1
    rw [Nat.div_eq_of_lt h1, Nat.zero_add]

set_option maxHeartbeats 2000000 in
set_option maxRecDepth 100000 in
theorem rmuld_any {va : Value} {n d : Nat} {w : World} (ha : RNum w va n) (ln : RLen n ≤ 1000000) (hd : d < 9223372036854775808) : Calls Tryz.prog 116 #[va, .int .i64 (d : Nat)] w (RRet w (n * d)) := by
  have NO : Hid (∀ w, Calls Tryz.prog 73 #[.int .u64 (d : Nat)] w (RRet w d)) := fun w => natOf_any d (by omega) w
  have MU : Hid (∀ w' v', Below w.heap.size w w' → RNum w' v' d → Calls Tryz.prog 74 #[va, v'] w' (RRet w' (n * d))) := fun w' v' hb hv => rmul_any (ha.go hb) hv ln (Nat.le_trans (rlen_word (by omega)) (by omega))
  have e1 : IntKind.u64.wrap ((d : Nat) : Int) = (d : Int) := IntWalk.u64_in _ ⟨by omega, by omega⟩
  obtain ⟨oa, cap, rfl⟩ := ha.shape
  clear ha
  have HD := Lib.hid hd; clear hd
  go_enter Tryz.func116, Tryz.ntmps116
  go_wp2_with fail
  refine (NO.out _).mono ?_; rintro e w1 ⟨v1, rfl, hv1, hb1⟩
  have HV1 := Lib.hid hv1; have HB1 := Lib.hid hb1; clear hv1 hb1
  go_wp2_with fail
  refine (MU.out _ _ HB1.out HV1.out).mono ?_; rintro e w2 ⟨v2, rfl, hv2, hb2⟩
  have HV2 := Lib.hid hv2; have HB2 := Lib.hid hb2; clear hv2 hb2
  go_wp2_with fail
  go_ret
  exact ⟨_, rfl, HV2.out, bstep HB1.out HB2.out⟩

set_option maxHeartbeats 2000000 in
set_option maxRecDepth 100000 in
theorem rtop_any {va : Value} {n f : Nat} {w : World} (ha : RNum w va n) (ln : RLen n ≤ 1000000) (hf : f ≤ 1000000) (hv : n / 10000 ^ f < 1000000000000) :
    Calls Tryz.prog 115 #[va, .int .i64 (f : Nat)] w fun e w' => e = .returned (.int .i64 ((n / 10000 ^ f : Nat) : Int)) ∧ w' = w := by
  obtain ⟨oa, cap, la, rfl, ra, ca, rfl, hl⟩ := ha.open
  clear ha
  rw [← val_drop_div ca.1] at hv ⊢
  obtain ⟨N, hN⟩ : ∃ N, RLen (val 10000 la) = N := ⟨_, rfl⟩
  rw [hN] at ra hl ln ⊢
  have RA := Lib.hid ra; have CA := Lib.hid ca; have HL := Lib.hid hl; have HV := Lib.hid hv; have LN := Lib.hid ln; have HF := Lib.hid hf
  clear ra ca hl hv hN
  have hw0 : wrap64 ((N : Int) - 1) = (N : Int) - 1 := by unfold wrap64; omega
  go_enter Tryz.func115, Tryz.ntmps115
  clear ln
  go_wp2_with fail
  go_loopw [5, 6] (fun v5 v6 wr => ∃ j : Nat, j ≤ N ∧ v5 = .int .i64 ((val 10000 (la.drop j) : Nat) : Int) ∧ v6 = .int .i64 ((j : Int) - 1) ∧ Hid (f ≤ j ∨ j = N) ∧ wr = w) (fun _ v6 _ => (intOf v6 + 1).toNat)
  case atStart => exact ⟨N, Nat.le_refl _, by rw [List.drop_of_length_le (by have := HL.out; omega)]; rfl, by rw [hw0], Or.inr rfl, rfl⟩
  case round =>
    obtain ⟨j, hj, rfl, rfl, hfj, rfl⟩ := hrel
    have HJ := Lib.hid hj
    by_cases hgo : f < j
    · obtain ⟨i, rfl⟩ : ∃ i, j = i + 1 := ⟨j - 1, by omega⟩
      have e0 : ((i + 1 : Nat) : Int) - 1 = (i : Int) := by omega
      rw [e0]
      have hil : i < la.length := by have := HL.out; omega
      obtain ⟨b1, f1, hoa, -, hx⟩ := RA.out.at' (Below.refl _ _) i hil
      subst hoa
      have hdr := val_drop 10000 la i hil
      have hlt : val 10000 (la.drop i) < 1000000000000 := by
        have h1 : val 10000 (la.drop i) ≤ val 10000 (la.drop f) := by
          rw [val_drop_div CA.out.1, val_drop_div CA.out.1]
          exact Nat.div_le_div_left (Nat.pow_le_pow_right (by omega) (by omega)) (Nat.pow_pos (by omega))
        have := HV.out
        omega
      have hfi : f ≤ i := by omega
      have HFI := Lib.hid hfi
      have t1 : decide ((f : Int) ≤ (i : Int)) = true := decide_eq_true (by omega)
      have t2 : decide (0 ≤ (i : Int)) = true := decide_eq_true (by omega)
      have hin : i < N := by omega
      clear e0 hfj hgo
      have HD := Lib.hid hdr
      clear hdr
      generalize la[i] = x at *
      clear hil
      have ev : Hid (wrap64 (wrap64 (((val 10000 (la.drop (i + 1)) : Nat) : Int) * 10000) + (x : Int)) = ((val 10000 (la.drop i) : Nat) : Int)) := by
        show _ = _
        rw [HD.out] at hlt ⊢
        generalize val 10000 (la.drop (i + 1)) = V at *
        unfold wrap64; omega
      have e1 : wrap64 (((val 10000 (la.drop (i + 1)) : Nat) : Int) * 10000) = ((val 10000 (la.drop (i + 1)) : Nat) : Int) * 10000 := by
        rw [HD.out] at hlt
        generalize val 10000 (la.drop (i + 1)) = V at *
        unfold wrap64; omega
      have e2 : wrap64 (((val 10000 (la.drop (i + 1)) : Nat) : Int) * 10000 + (x : Int)) = ((val 10000 (la.drop i) : Nat) : Int) := by
        have := ev.out; rwa [e1] at this
      have hw : wrap64 ((i : Int) - 1) = (i : Int) - 1 := by unfold wrap64; have := LN.out; omega
      generalize val 10000 (la.drop (i + 1)) = V at *
      clear ev HD hlt hj
      go_wp2_with fail
      go_roundw
      case rel => exact ⟨i, by have := HJ.out; omega, by rw [e2], by rw [hw], Or.inl HFI.out, by first | trivial | rfl⟩
      case measure => rw [hw]; simp [intOf]
    · have hjf : val 10000 (la.drop j) = val 10000 (la.drop f) := by
        rcases hfj.out with h | h
        · rw [show j = f from by omega]
        · subst h
          rw [List.drop_of_length_le (by have := HL.out; omega), List.drop_of_length_le (by have := HL.out; omega)]
      have HJF := Lib.hid hjf
      have t1 : decide ((f : Int) ≤ (j : Int) - 1) = false := decide_eq_false (by omega)
      clear hfj hgo hjf hj
      go_wp2_with fail
      go_ret
      exact ⟨by rw [HJF.out]; rfl, rfl⟩
end Go.Proofs.YtegobakoflbnfaaGreatDoor.QA
