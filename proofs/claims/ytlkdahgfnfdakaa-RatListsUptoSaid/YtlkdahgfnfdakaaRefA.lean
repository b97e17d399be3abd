/- The reference's numbers (rows of ints, base 10000): trim, cmpNat. -/
import Derived.Test.YtlkdahgfnfdakaaA8
namespace Go.Proofs.Ytlkdahgfnfdakaa
open Go Go.RowKit Go.Shelf WN LM

/-- v is a row of ints that holds the number n -/
def RNum (w : World) (v : Value) (n : Nat) : Prop := ∃ l, Rep w .i64 v l ∧ Canon 10000 l ∧ val 10000 l = n
theorem RNum.go {w w' : World} {v : Value} {n : Nat} (h : RNum w v n) (hb : Below w.heap.size w w') : RNum w' v n := by
  obtain ⟨l, h1, h2⟩ := h
  exact ⟨l, h1.below hb (Nat.le_refl _), h2⟩
theorem trim_take {l : List Nat} {n : Nat} (hn : n ≤ l.length) (hz : ∀ j (hj : j < l.length), n ≤ j → l[j] = 0) (ht : n = 0 ∨ ∃ h : n - 1 < l.length, l[n - 1] ≠ 0) : trim l = l.take n := by
  rcases ht with rfl | ⟨h, ht⟩
  · rw [trim_zeros fun j hj => hz j hj (Nat.zero_le _)]; simp
  · rcases Nat.eq_zero_or_pos n with rfl | h0
    · rw [trim_zeros fun j hj => hz j hj (Nat.zero_le _)]; simp
    · have := trim_top h (fun j hj h2 => hz j hj (by omega)) ht
      rwa [show n - 1 + 1 = n from by omega] at this

set_option maxHeartbeats 2000000 in
set_option maxRecDepth 100000 in
theorem rtrim_at {oa : Option Addr} {l : List Nat} {cap : Nat} (hlen : l.length ≤ 1000000000000) {w : World} (hr : Rep w .i64 (.slice oa l.length cap) l) :
    Calls Try.prog 121 #[.slice oa l.length cap] w fun e w' => ∃ v, e = .returned v ∧ Rep w .i64 v (trim l) ∧ w' = w ∧ ∃ k, v = .slice oa k cap := by
  have HR := Lib.hid hr
  have hcap := hr.len.2
  clear hr
  obtain ⟨N, hN⟩ : ∃ N, l.length = N := ⟨_, rfl⟩
  rw [hN] at hlen hcap
  rw [hN]
  have HN := Lib.hid hN; have HLEN := Lib.hid hlen
  clear hN hlen
  go_enter Try.func121, Try.ntmps121
  go_wp2_with fail
  go_loopw [3] (fun v3 wr => ∃ n : Nat, n ≤ N ∧ v3 = .int .i64 (n : Nat) ∧ Hid (∀ j (hj : j < l.length), n ≤ j → l[j] = 0) ∧ wr = w) (fun v3 _ => (intOf v3).toNat)
  case atStart => exact ⟨N, Nat.le_refl _, rfl, fun j hj h => by have := HN.out; omega, rfl⟩
  case round =>
    obtain ⟨n, hn, rfl, hz, rfl⟩ := hrel
    by_cases h0 : n = 0
    · have ht : trim l = l.take n := trim_take (by have := HN.out; omega) hz.out (Or.inl h0)
      have HT := Lib.hid ht; clear ht
      have hnc : n ≤ cap := by omega
      subst h0
      have HR2 : Hid (Rep wr .i64 (.slice oa 0 cap) (l.take 0)) := HR.out.take 0 (Nat.zero_le _)
      have t0 : ¬ (0 : Nat) < 0 := by omega
      clear HR
      cases oa with
      | none =>
        go_wp2_with fail
        go_ret
        exact ⟨_, rfl, by rw [HT.out]; exact HR2.out, rfl, _, rfl⟩
      | some a =>
        obtain ⟨b, off, sp⟩ := a
        go_wp2_with fail
        go_ret
        exact ⟨_, rfl, by rw [HT.out]; exact HR2.out, rfl, _, rfl⟩
    · have t0 : 0 < n := by omega
      have hw : wrap64 ((n : Int) - 1) = ((n - 1 : Nat) : Int) := by unfold wrap64; have := HLEN.out; omega
      have hl1 : n - 1 < l.length := by have := HN.out; omega
      obtain ⟨b, off, hoa, -, hc⟩ := HR.out.at' (Below.refl _ _) (n - 1) hl1
      subst hoa
      have HX : Hid (l[n - 1] = 0 ∨ l[n - 1] ≠ 0) := by by_cases h : l[n - 1] = 0; exact Or.inl h; exact Or.inr h
      have HG : Hid (l[n - 1]? = some l[n - 1]) := List.getElem?_eq_getElem hl1
      have hn1 : n - 1 < N := by omega
      have hnc : n ≤ cap := by omega
      have hzz : ∀ x : Nat, l[n - 1] = x → x = 0 → Hid (∀ j (hj : j < l.length), n - 1 ≤ j → l[j] = 0) := fun x hx h0 j hj h => by
        rcases Nat.lt_or_ge j n with h' | h'
        · have : j = n - 1 := by omega
          subst this; rw [hx, h0]
        · exact hz.out j hj h'
      have htt : ∀ x : Nat, l[n - 1] = x → x ≠ 0 → Hid (trim l = l.take n) := fun x hx h0 => trim_take (by have := HN.out; omega) hz.out (Or.inr ⟨hl1, by rw [hx]; exact h0⟩)
      generalize hx : l[n - 1] = x at *
      have HZ := Lib.hid (hzz x rfl); have HT := Lib.hid (htt x rfl)
      have HHL := Lib.hid hl1; have H0 := Lib.hid h0
      clear hzz htt hz HG h0
      by_cases hx0 : x = 0
      · have tx : ((x : Int) == 0) = true := by rw [beq_iff_eq]; omega
        have HZ2 := HZ.out hx0
        clear HT HZ hx hx0 HX hl1
        go_wp2_with fail
        go_roundw
        case rel => exact ⟨n - 1, by omega, congrArg (Value.int .i64) hw, HZ2.out, by first | trivial | rfl⟩
        case measure => have := H0.out; rw [hw]; simp [intOf]; omega
      · have tx : ((x : Int) == 0) = false := by rw [beq_eq_false_iff_ne]; omega
        have HT2 := HT.out hx0
        clear HT HZ hx hx0 HX hl1
        go_wp2_with fail
        go_ret
        refine ⟨_, rfl, ?_, rfl, _, rfl⟩
        rw [HT2.out]
        exact HR.out.take n (by have := HN.out; omega)
theorem rtrim_any {oa : Option Addr} {l : List Nat} {cap : Nat} (hlen : l.length ≤ 1000000000000) {w : World} (hr : Rep w .i64 (.slice oa l.length cap) l) :
    Calls Try.prog 121 #[.slice oa l.length cap] w fun e w' => ∃ v, e = .returned v ∧ Rep w .i64 v (trim l) ∧ w' = w :=
  (rtrim_at hlen hr).mono fun _ _ ⟨v, h1, h2, h3, _⟩ => ⟨v, h1, h2, h3⟩
/-- a value that does not lie in block g -/
def NotIn (g : Nat) (v : Value) : Prop := ∀ b off n c, v = .slice (some ⟨b, off, none⟩) n c → b ≠ g
theorem RNum.set_far {w : World} {v : Value} {n g i : Nat} {x : Value} (h : RNum w v n) (hf : NotIn g v) : RNum (w.setCell ⟨g, i, none⟩ x) v n := by
  obtain ⟨l, ⟨oa, ca, rfl, hc, hcell⟩, hl⟩ := h
  refine ⟨l, ⟨oa, ca, rfl, hc, fun j hj => ?_⟩, hl⟩
  obtain ⟨b, off, rfl, e⟩ := hcell j hj
  refine ⟨b, off, rfl, ?_⟩
  rw [World.cell?_setCell_far _ _ _ _ (fun h => hf b off _ _ rfl h.symm)]
  exact e
theorem keepc {w w' : World} {a : Addr} {x : Value} (h : w.cell? a = some x) (hb : Below w.heap.size w w') : w'.cell? a = some x := (hb.cell (World.block_lt_of_cell? w a h)).trans h





/-- lengths first -/
def RLen (n : Nat) : Nat := (ofNat 10000 n).length
theorem rlen_eq {l : List Nat} {n : Nat} (h : Canon 10000 l) (hv : val 10000 l = n) : l.length = RLen n := by
  unfold RLen; rw [← ofNat_unique (by omega) h hv]
theorem cmpT_len {la lb : List Nat} (ca : Canon 10000 la) (cb : Canon 10000 lb) (h : la.length < lb.length) : val 10000 la < val 10000 lb := by
  have h1 := val_lt (B := 10000) (by omega) ca.1
  have h2 := pow_le_val (B := 10000) cb.2 (by intro e; subst e; simp at h)
  have h3 : 10000 ^ la.length ≤ 10000 ^ (lb.length - 1) := Nat.pow_le_pow_right (by omega) (by omega)
  omega

theorem cmpT_at {la lb : List Nat} (ca : Digs 10000 la) (cb : Digs 10000 lb) (hl : la.length = lb.length) {i x y : Nat} (hi : i < la.length) (hx : la[i]? = some x) (hy : lb[i]? = some y)
    (ht : la.drop (i + 1) = lb.drop (i + 1)) (hxy : x < y) : val 10000 la < val 10000 lb := by
  have hi2 : i < lb.length := hl ▸ hi
  rw [val_take_drop _ la i (by omega), val_take_drop _ lb i (by omega), val_drop _ _ _ hi, val_drop _ _ _ hi2, ht]
  rw [List.getElem?_eq_getElem hi] at hx
  rw [List.getElem?_eq_getElem hi2] at hy
  have hx := Option.some.inj hx
  have hy := Option.some.inj hy
  subst hx; subst hy
  have h1 := val_lt (B := 10000) (by omega) (ca.take i)
  rw [List.length_take, Nat.min_eq_left (by omega)] at h1
  generalize 10000 ^ i = P at *
  generalize val 10000 (lb.drop (i + 1)) = T at *
  generalize la[i] = x at *
  generalize lb[i] = y at *
  have h2 : P * (x + 1) ≤ P * y := Nat.mul_le_mul_left P hxy
  rw [Nat.mul_add, Nat.mul_add]
  rw [Nat.mul_add] at h2
  omega

set_option maxHeartbeats 2000000 in
set_option maxRecDepth 100000 in
theorem rcmp_any {va vb : Value} {n m : Nat} {w : World} (ha : RNum w va n) (hb : RNum w vb m) (ln : RLen n ≤ 100000000000) (lm : RLen m ≤ 100000000000) :
    Calls Try.prog 103 #[va, vb] w fun e w' => e = .returned (.int .i64 (cmpN n m)) ∧ Below w.heap.size w w' := by
  obtain ⟨la, ra, ca, rfl⟩ := ha
  obtain ⟨lb, rb, cb, rfl⟩ := hb
  have hla : la.length ≤ 100000000000 := by rw [rlen_eq ca rfl]; exact ln
  have hlb : lb.length ≤ 100000000000 := by rw [rlen_eq cb rfl]; exact lm
  clear ln lm
  obtain ⟨oa, capa, rfl, -, -⟩ := id ra
  obtain ⟨ob, capb, rfl, -, -⟩ := id rb
  have RA := Lib.hid ra; have RB := Lib.hid rb; have CA := Lib.hid ca; have CB := Lib.hid cb
  clear ra rb ca cb
  by_cases h1 : la.length < lb.length
  · have hc : Hid (cmpN (val 10000 la) (val 10000 lb) = -1) := by show _ = _; simp [cmpN, cmpT_len CA.out CB.out h1]
    have t1 : ((la.length : Int) != (lb.length : Int)) = true := by rw [bne_iff_ne]; omega
    have t2 : decide ((la.length : Int) < (lb.length : Int)) = true := decide_eq_true (by omega)
    generalize la.length = na at *
    generalize lb.length = nb at *
    clear CA CB RA RB
    go_enter Try.func103, Try.ntmps103
    go_wp2_with fail
    go_ret
    exact ⟨by rw [hc.out]; rfl, Below.refl _ _⟩
  by_cases h2 : lb.length < la.length
  · have hc : Hid (cmpN (val 10000 la) (val 10000 lb) = 1) := by
      show _ = _
      have := cmpT_len CB.out CA.out h2
      unfold cmpN; rw [if_neg (by omega), if_pos this]
    have t1 : ((la.length : Int) != (lb.length : Int)) = true := by rw [bne_iff_ne]; omega
    have t2 : decide ((la.length : Int) < (lb.length : Int)) = false := decide_eq_false (by omega)
    generalize la.length = na at *
    generalize lb.length = nb at *
    clear CA CB RA RB
    go_enter Try.func103, Try.ntmps103
    go_wp2_with fail
    go_ret
    exact ⟨by rw [hc.out]; rfl, Below.refl _ _⟩
  have hl : la.length = lb.length := by omega
  have HLL := Lib.hid hl
  obtain ⟨N, hN⟩ : ∃ N, la.length = N := ⟨_, rfl⟩
  have hN2 : lb.length = N := by omega
  rw [hN] at hla
  rw [hN, hN2]
  have HN := Lib.hid hN; have HN2 := Lib.hid hN2; have HLA := Lib.hid hla
  clear h1 h2 hl hN hN2 hlb hla
  go_enter Try.func103, Try.ntmps103
  have hw0 : wrap64 ((N : Int) - 1) = (N : Int) - 1 := by unfold wrap64; have := HLA.out; omega
  go_wp2_with fail
  go_loopw [5] (fun v5 wr => ∃ i : Nat, i ≤ N ∧ v5 = .int .i64 ((i : Int) - 1) ∧ Hid (la.drop i = lb.drop i) ∧ Hid (Below w.heap.size w wr)) (fun v5 _ => (intOf v5 + 1).toNat)
  case atStart => exact ⟨N, Nat.le_refl _, by rw [hw0], by show _ = _; rw [List.drop_of_length_le (by have := HN.out; omega), List.drop_of_length_le (by have := HN2.out; omega)], Below.refl _ _⟩
  case round =>
    obtain ⟨i, hi, rfl, hd, hbel⟩ := hrel
    cases i with
    | zero =>
      have hc : Hid (cmpN (val 10000 la) (val 10000 lb) = 0) := by
        show _ = _
        have h := hd.out
        rw [List.drop_zero, List.drop_zero] at h
        rw [h]; simp [cmpN]
      have e0 : ((0 : Nat) : Int) - 1 = -1 := rfl
      rw [e0]
      clear e0
      go_wp2_with fail
      go_ret
      exact ⟨by rw [hc.out]; rfl, hbel.out⟩
    | succ k =>
      have e0 : ((k + 1 : Nat) : Int) - 1 = (k : Int) := by omega
      rw [e0]
      have hka : k < la.length := by have := HN.out; omega
      have hkb : k < lb.length := by have := HN2.out; omega
      obtain ⟨b1, f1, hoa, -, hx⟩ := RA.out.at' (Below.refl _ _) k hka
      obtain ⟨b2, f2, hob, -, hy⟩ := RB.out.at' (Below.refl _ _) k hkb
      subst hoa
      subst hob
      have HX := Lib.hid (keepc hx hbel.out); have HY := Lib.hid (keepc hy hbel.out)
      have GX : Hid (la[k]? = some la[k]) := List.getElem?_eq_getElem hka
      have GY : Hid (lb[k]? = some lb[k]) := List.getElem?_eq_getElem hkb
      have DX : Hid (la.drop k = la[k] :: la.drop (k + 1)) := List.drop_eq_getElem_cons hka
      have DY : Hid (lb.drop k = lb[k] :: lb.drop (k + 1)) := List.drop_eq_getElem_cons hkb
      have HKA := Lib.hid hka
      clear hx hy e0
      have hkn : k < N := by omega
      generalize la[k] = x at *
      generalize lb[k] = y at *
      clear hka hkb
      have tk : decide (0 ≤ (k : Int)) = true := decide_eq_true (by omega)
      have B100 := hbel
      go_wp2_with fail
      refine region_inv 8 41 [(23, Is (.slice (some ⟨b1, f1, none⟩) N capa)), (24, Is (.int .i64 ((k : Int)))), (25, Is (.pointer (some ⟨b1, f1 + k, none⟩))), (26, Is (.int .i64 ((x : Int)))), (27, Is (.slice (some ⟨b2, f2, none⟩) N capb)), (28, Is (.int .i64 ((k : Int)))), (29, Is (.pointer (some ⟨b2, f2 + k, none⟩))), (30, Is (.int .i64 ((y : Int))))] (by kernel_rfl) rfl (by kernel_rfl) ?_ ?_
      · refine steps_cons rfl (fun A_ W hb hr hg K hK => ?_) <| steps_cons rfl (fun A_ W hb hr hg K hK => ?_) <| steps_cons rfl (fun A_ W hb hr hg K hK => ?_) <| steps_cons rfl (fun A_ W hb hr hg K hK => ?_) <| steps_cons rfl (fun A_ W hb hr hg K hK => ?_) <| steps_cons rfl (fun A_ W hb hr hg K hK => ?_) <| steps_cons rfl (fun A_ W hb hr hg K hK => ?_) <| steps_cons rfl (fun A_ W hb hr hg K hK => ?_) trivial
        · have e0 : A_.tmps[0]?.getD undef = .slice (some ⟨b1, f1, none⟩) N capa := hb 0 (by kernel_rfl)
          clear hb hr
          go_simp
          exact hK _ _ (Below.refl _ _) (rfl)
        · have e0 : A_.tmps[5]?.getD undef = .int .i64 ((k : Int)) := hb 5 (by kernel_rfl)
          clear hb hr
          go_simp
          exact hK _ _ (Below.refl _ _) (rfl)
        · have e0 : A_.tmps[23]?.getD undef = .slice (some ⟨b1, f1, none⟩) N capa := hr 23 (by kernel_rfl)
          have e1 : A_.tmps[24]?.getD undef = .int .i64 ((k : Int)) := hr 24 (by kernel_rfl)
          clear hb hr
          go_simp; exact hK _ _ (Below.refl _ _) (rfl)
        · have e0 : A_.tmps[25]?.getD undef = .pointer (some ⟨b1, f1 + k, none⟩) := hr 25 (by kernel_rfl)
          clear hb hr
          have c0 := keepc HX.out hg
          go_simp; exact hK _ _ (Below.refl _ _) (rfl)
        · have e0 : A_.tmps[1]?.getD undef = .slice (some ⟨b2, f2, none⟩) N capb := hb 1 (by kernel_rfl)
          clear hb hr
          go_simp
          exact hK _ _ (Below.refl _ _) (rfl)
        · have e0 : A_.tmps[5]?.getD undef = .int .i64 ((k : Int)) := hb 5 (by kernel_rfl)
          clear hb hr
          go_simp
          exact hK _ _ (Below.refl _ _) (rfl)
        · have e0 : A_.tmps[27]?.getD undef = .slice (some ⟨b2, f2, none⟩) N capb := hr 27 (by kernel_rfl)
          have e1 : A_.tmps[28]?.getD undef = .int .i64 ((k : Int)) := hr 28 (by kernel_rfl)
          clear hb hr
          go_simp; exact hK _ _ (Below.refl _ _) (rfl)
        · have e0 : A_.tmps[29]?.getD undef = .pointer (some ⟨b2, f2 + k, none⟩) := hr 29 (by kernel_rfl)
          clear hb hr
          have c0 := keepc HY.out hg
          go_simp; exact hK _ _ (Below.refl _ _) (rfl)
      rintro g101 w101 hb101 ⟨-, -, -, h26, -, -, -, h30, -⟩
      simp only [List.drop_succ_cons, List.drop_zero, List.take_succ_cons, List.take_zero, putHead, Option.getD_some, Act.put, List.setIfInBounds_toArray, List.set_cons_zero, List.set_cons_succ]
      replace h26 : g101 26 = .int .i64 ((x : Int)) := h26
      generalize g101 26 = v26 at *
      subst h26
      replace h30 : g101 30 = .int .i64 ((y : Int)) := h30
      generalize g101 30 = v30 at *
      subst h30
      have B101 := Lib.hid (bstep (Below.refl _ _) hb101); clear hb101
      have BX := Lib.hid (hbel.out.trans (B101.out.mono hbel.out.size))
      by_cases hxy : x < y
      · have hc : Hid (cmpN (val 10000 la) (val 10000 lb) = -1) := by
          have := cmpT_at CA.out.1 CB.out.1 HLL.out HKA.out GX.out GY.out hd.out hxy
          show _ = _; unfold cmpN; rw [if_pos this]
        go_wp2_with fail
        go_ret
        exact ⟨by rw [hc.out]; rfl, BX.out⟩
      have HX2 := Lib.hid (keepc HX.out B101.out); have HY2 := Lib.hid (keepc HY.out B101.out)
      have HXY := Lib.hid hxy
      go_wp2_with fail
      refine region_inv 8 41 [(32, Is (.slice (some ⟨b1, f1, none⟩) N capa)), (33, Is (.int .i64 ((k : Int)))), (34, Is (.pointer (some ⟨b1, f1 + k, none⟩))), (35, Is (.int .i64 ((x : Int)))), (36, Is (.slice (some ⟨b2, f2, none⟩) N capb)), (37, Is (.int .i64 ((k : Int)))), (38, Is (.pointer (some ⟨b2, f2 + k, none⟩))), (39, Is (.int .i64 ((y : Int))))] (by kernel_rfl) rfl (by kernel_rfl) ?_ ?_
      · refine steps_cons rfl (fun A_ W hb hr hg K hK => ?_) <| steps_cons rfl (fun A_ W hb hr hg K hK => ?_) <| steps_cons rfl (fun A_ W hb hr hg K hK => ?_) <| steps_cons rfl (fun A_ W hb hr hg K hK => ?_) <| steps_cons rfl (fun A_ W hb hr hg K hK => ?_) <| steps_cons rfl (fun A_ W hb hr hg K hK => ?_) <| steps_cons rfl (fun A_ W hb hr hg K hK => ?_) <| steps_cons rfl (fun A_ W hb hr hg K hK => ?_) trivial
        · have e0 : A_.tmps[0]?.getD undef = .slice (some ⟨b1, f1, none⟩) N capa := hb 0 (by kernel_rfl)
          clear hb hr
          go_simp
          exact hK _ _ (Below.refl _ _) (rfl)
        · have e0 : A_.tmps[5]?.getD undef = .int .i64 ((k : Int)) := hb 5 (by kernel_rfl)
          clear hb hr
          go_simp
          exact hK _ _ (Below.refl _ _) (rfl)
        · have e0 : A_.tmps[32]?.getD undef = .slice (some ⟨b1, f1, none⟩) N capa := hr 32 (by kernel_rfl)
          have e1 : A_.tmps[33]?.getD undef = .int .i64 ((k : Int)) := hr 33 (by kernel_rfl)
          clear hb hr
          go_simp; exact hK _ _ (Below.refl _ _) (rfl)
        · have e0 : A_.tmps[34]?.getD undef = .pointer (some ⟨b1, f1 + k, none⟩) := hr 34 (by kernel_rfl)
          clear hb hr
          have c0 := keepc HX2.out hg
          go_simp; exact hK _ _ (Below.refl _ _) (rfl)
        · have e0 : A_.tmps[1]?.getD undef = .slice (some ⟨b2, f2, none⟩) N capb := hb 1 (by kernel_rfl)
          clear hb hr
          go_simp
          exact hK _ _ (Below.refl _ _) (rfl)
        · have e0 : A_.tmps[5]?.getD undef = .int .i64 ((k : Int)) := hb 5 (by kernel_rfl)
          clear hb hr
          go_simp
          exact hK _ _ (Below.refl _ _) (rfl)
        · have e0 : A_.tmps[36]?.getD undef = .slice (some ⟨b2, f2, none⟩) N capb := hr 36 (by kernel_rfl)
          have e1 : A_.tmps[37]?.getD undef = .int .i64 ((k : Int)) := hr 37 (by kernel_rfl)
          clear hb hr
          go_simp; exact hK _ _ (Below.refl _ _) (rfl)
        · have e0 : A_.tmps[38]?.getD undef = .pointer (some ⟨b2, f2 + k, none⟩) := hr 38 (by kernel_rfl)
          clear hb hr
          have c0 := keepc HY2.out hg
          go_simp; exact hK _ _ (Below.refl _ _) (rfl)
      rintro g102 w102 hb102 ⟨-, -, -, h35, -, -, -, h39, -⟩
      simp only [List.drop_succ_cons, List.drop_zero, List.take_succ_cons, List.take_zero, putHead, Option.getD_some, Act.put, List.setIfInBounds_toArray, List.set_cons_zero, List.set_cons_succ]
      replace h35 : g102 35 = .int .i64 ((x : Int)) := h35
      generalize g102 35 = v35 at *
      subst h35
      replace h39 : g102 39 = .int .i64 ((y : Int)) := h39
      generalize g102 39 = v39 at *
      subst h39
      have B102 := Lib.hid (bstep (Below.refl _ _) hb102); clear hb102
      have BY := Lib.hid (BX.out.trans (B102.out.mono BX.out.size))
      by_cases hyx : y < x
      · have hc : Hid (cmpN (val 10000 la) (val 10000 lb) = 1) := by
          have := cmpT_at CB.out.1 CA.out.1 HLL.out.symm (by have := HKA.out; have := HLL.out; omega) GY.out GX.out hd.out.symm hyx
          show _ = _; unfold cmpN; rw [if_neg (by omega), if_pos this]
        go_wp2_with fail
        go_ret
        exact ⟨by rw [hc.out]; rfl, BY.out⟩
      have HD : Hid (la.drop k = lb.drop k) := by
        have : x = y := by have := HXY.out; omega
        show _ = _
        rw [DX.out, DY.out, hd.out, this]
      have hw : wrap64 ((k : Int) - 1) = (k : Int) - 1 := by unfold wrap64; have := HLA.out; omega
      go_wp2_with fail
      go_roundw
      case rel => exact ⟨k, by omega, by rw [hw], HD.out, BY.out⟩
      case measure => rw [hw]; simp [intOf]
end Go.Proofs.Ytlkdahgfnfdakaa
