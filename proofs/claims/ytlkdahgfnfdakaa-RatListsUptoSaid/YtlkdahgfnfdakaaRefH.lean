/- The reference's mulNat, mulDigit, top. -/
import Derived.Test.YtlkdahgfnfdakaaRefG
namespace Go.Proofs.Ytlkdahgfnfdakaa
open Go Go.RowKit Go.Shelf WN LM

theorem val_set {B : Nat} {l : List Nat} {j : Nat} (hj : j < l.length) (d : Nat) : val B (l.set j d) + B ^ j * l[j] = val B l + B ^ j * d := by
  induction l generalizing j with
  | nil => simp at hj
  | cons a l ih =>
    cases j with
    | zero => simp; omega
    | succ j =>
      have h := ih (j := j) (by simpa using hj)
      simp only [List.set_cons_succ, val_cons, List.getElem_cons_succ, Nat.pow_succ]
      generalize val B (l.set j d) = X at *
      generalize val B l = Y at *
      generalize l[j]'(by simpa using hj) = o at *
      generalize B ^ j = p at *
      grind
def MulI (la lb : List Nat) (w wr : World) (i x k c : Nat) (s : List Nat) : Prop :=
  c < 10000 ∧ Row wr w.heap.size .i64 3 s ∧ s.length = la.length + lb.length + 1 ∧ Digs 10000 s ∧ val 10000 s + 10000 ^ (i + k) * c = val 10000 (la.take i) * val 10000 lb + 10000 ^ i * x * val 10000 (lb.take k) ∧ Below w.heap.size w wr
theorem MulI.go {la lb : List Nat} {w wr wx : World} {i x k c : Nat} {s : List Nat} (h : MulI la lb w wr i x k c s) (hb : Below wr.heap.size wr wx) : MulI la lb w wx i x k c s :=
  ⟨h.1, h.2.1.below hb h.2.1.lt, h.2.2.1, h.2.2.2.1, h.2.2.2.2.1, bstep h.2.2.2.2.2 hb⟩
theorem MulI.step {la lb : List Nat} {w wr : World} {i x k c y d c' o : Nat} {s : List Nat} {z : Int} (h : MulI la lb w wr i x k c s) (hi : i + k < s.length) (ho : s[i + k]? = some o) (hy : lb[k]?.getD 0 = y) (hx : x < 10000) (hy1 : y < 10000) (hd : d = (o + c + x * y) % 10000) (hc : c' = (o + c + x * y) / 10000) (hz : z = (d : Int)) :
    MulI la lb w (wr.setCell ⟨w.heap.size, i + k, none⟩ (.int .i64 z)) i x (k + 1) c' (s.set (i + k) d) := by
  obtain ⟨h0, h1, h2, h3, h4, h5⟩ := h
  subst hz
  rw [List.getElem?_eq_getElem hi] at ho
  have ho := Option.some.inj ho
  have ho1 : o < 10000 := by rw [← ho]; exact h3.get _ hi
  have he : d + 10000 * c' = o + c + x * y := by subst hd hc; exact Nat.mod_add_div _ _
  have hxy : x * y ≤ 9999 * 9999 := Nat.mul_le_mul (by omega) (by omega)
  refine ⟨by omega, h1.set (i + k) d, by rw [List.length_set]; exact h2, h3.set _ _ (by omega), ?_, h5.setCell (p := ⟨w.heap.size, i + k, none⟩) (Nat.le_refl _) _⟩
  have hs := val_set (B := 10000) hi d
  rw [ho] at hs
  rw [val_take_next, hy, ← Nat.add_assoc i k 1, Nat.pow_succ]
  rw [Nat.pow_add] at hs h4 ⊢
  clear hd hc h1 h5 h3
  generalize val 10000 (s.set (i + k) d) = S2 at *
  generalize val 10000 s = S at *
  generalize val 10000 (la.take i) * val 10000 lb = A at *
  generalize val 10000 (lb.take k) = L at *
  generalize 10000 ^ i = p at *
  generalize 10000 ^ k = q at *
  have h9 : p * q * (d + 10000 * c') = p * q * (o + c + x * y) := by rw [he]
  grind
theorem MulI.fits {la lb : List Nat} {w wr : World} {i x k c : Nat} {s : List Nat} (h : MulI la lb w wr i x k c s) (da : Digs 10000 la) (db : Digs 10000 lb) (hi : i < la.length) (hx : la[i]? = some x) (hc : 0 < c) : k < lb.length + 1 := by
  obtain ⟨h0, h1, h2, h3, h4, h5⟩ := h
  rcases Nat.lt_or_ge k (lb.length + 1) with hk | hk
  · exact hk
  · exfalso
    rw [List.take_of_length_le (l := lb) (by omega)] at h4
    have e1 : val 10000 (la.take (i + 1)) = val 10000 (la.take i) + 10000 ^ i * x := by rw [val_take_next, hx]; rfl
    have e2 : val 10000 s + 10000 ^ (i + k) * c = val 10000 (la.take (i + 1)) * val 10000 lb := by rw [h4, e1]; grind
    have h6 := val_lt (B := 10000) (by omega) (da.take (i + 1))
    have h7 := val_lt (B := 10000) (by omega) db
    rw [List.length_take, Nat.min_eq_left (by omega)] at h6
    have h8 : val 10000 (la.take (i + 1)) * val 10000 lb ≤ 10000 ^ (i + 1) * 10000 ^ lb.length := Nat.mul_le_mul (by omega) (by omega)
    rw [← Nat.pow_add] at h8
    have h9 : 10000 ^ (i + 1 + lb.length) ≤ 10000 ^ (i + k) := Nat.pow_le_pow_right (by omega) (by omega)
    have h10 : 10000 ^ (i + k) * 1 ≤ 10000 ^ (i + k) * c := Nat.mul_le_mul_left _ hc
    have h11 : 0 < val 10000 lb := by
      rcases Nat.eq_zero_or_pos (val 10000 lb) with h | h
      · rw [h, Nat.mul_zero] at e2
        have : 0 < 10000 ^ (i + k) := Nat.pow_pos (by omega)
        omega
      · exact h
    have h12 : val 10000 (la.take (i + 1)) * val 10000 lb < 10000 ^ (i + 1) * val 10000 lb := Nat.mul_lt_mul_of_pos_right h6 h11
    have h13 : 10000 ^ (i + 1) * val 10000 lb ≤ 10000 ^ (i + 1) * 10000 ^ lb.length := Nat.mul_le_mul_left _ (by omega)
    rw [← Nat.pow_add] at h13
    omega
theorem MulI.next {la lb : List Nat} {w wr : World} {i x k c x' : Nat} {s : List Nat} (h : MulI la lb w wr i x k c s) (hx : la[i]? = some x) (hk : lb.length ≤ k) (hc : c = 0) : MulI la lb w wr (i + 1) x' 0 0 s := by
  obtain ⟨h0, h1, h2, h3, h4, h5⟩ := h
  subst hc
  rw [List.take_of_length_le hk] at h4
  refine ⟨by omega, h1, h2, h3, ?_, h5⟩
  rw [val_take_next, hx]
  simp only [List.take_zero, val_nil, Nat.mul_zero, Nat.add_zero] at h4 ⊢
  show _ = (val 10000 (la.take i) + 10000 ^ i * x) * _
  rw [h4]; grind
theorem MulI.any {la lb : List Nat} {w wr : World} {i x x' : Nat} {s : List Nat} (h : MulI la lb w wr i x 0 0 s) : MulI la lb w wr i x' 0 0 s := by
  obtain ⟨h0, h1, h2, h3, h4, h5⟩ := h
  refine ⟨by omega, h1, h2, h3, ?_, h5⟩
  simp only [List.take_zero, val_nil, Nat.mul_zero, Nat.add_zero] at h4 ⊢
  exact h4

set_option maxHeartbeats 8000000 in
set_option maxRecDepth 100000 in
theorem rmul_any {va vb : Value} {n m : Nat} {w : World} (ha : RNum w va n) (hb : RNum w vb m) (ln : RLen n ≤ 1000000) (lm : RLen m ≤ 1000000) : Calls Try.prog 85 #[va, vb] w (RRet w (n * m)) := by
  obtain ⟨la, ra, ca, rfl⟩ := ha
  obtain ⟨lb, rb, cb, rfl⟩ := hb
  have hla : la.length ≤ 1000000 := by rw [rlen_eq ca rfl]; exact ln
  have hlb : lb.length ≤ 1000000 := by rw [rlen_eq cb rfl]; exact lm
  clear ln lm
  obtain ⟨oa, capa, rfl, -, -⟩ := id ra
  obtain ⟨ob, capb, rfl, -, -⟩ := id rb
  have RA := Lib.hid ra; have RB := Lib.hid rb; have CA := Lib.hid ca; have CB := Lib.hid cb
  clear ra rb ca cb
  obtain ⟨N, hN⟩ : ∃ N, la.length = N := ⟨_, rfl⟩
  obtain ⟨M, hM⟩ : ∃ M, lb.length = M := ⟨_, rfl⟩
  rw [hN] at hla
  rw [hM] at hlb
  rw [hN, hM]
  have HN := Lib.hid hN; have HM := Lib.hid hM; have HLA := Lib.hid hla; have HLB := Lib.hid hlb
  obtain ⟨T, hT⟩ : ∃ T : Nat, N + M + 1 = T := ⟨_, rfl⟩
  have hTi0 : wrap64 ((N : Int) + (M : Int)) = (N : Int) + (M : Int) := by unfold wrap64; omega
  have hTi : wrap64 ((N : Int) + (M : Int) + 1) = (T : Int) := by unfold wrap64; omega
  have HTT := Lib.hid hT
  have HT : Hid (T ≤ 2000001) := by show _ ≤ _; omega
  have hmk := fun w => make_ints w (T : Int) (T : Int) (by omega) (by omega) (by omega)
  simp only [Int.toNat_natCast] at hmk
  clear hN hM hlb hla hT
  go_enter Try.func85, Try.ntmps85
  go_wp2_with fail
  have HR := Lib.hid (Row.new w .i64 3 (List.replicate T 0))
  have HB := Lib.hid ((Below.refl _ w).alloc (Nat.le_refl _) (.cells (ns .i64 (List.replicate T 0)) 3))
  generalize w.alloc (.cells (ns .i64 (List.replicate T 0)) 3) = w1 at *
  clear hmk hTi hTi0
  go_loopw [6] (fun v6 wr => ∃ (i : Nat), i ≤ N ∧ v6 = .int .i64 (i : Nat) ∧ Hid (∃ s, MulI la lb w wr i 0 0 0 s)) (fun vi _ => N - (intOf vi).toNat)
  case atStart =>
    refine ⟨0, Nat.zero_le _, rfl, List.replicate T 0, by omega, HR.out, by rw [List.length_replicate, HN.out, HM.out]; exact HTT.out.symm, ?_, ?_, HB.out⟩
    · intro x hx
      rw [List.mem_replicate] at hx
      omega
    · rw [val_replicate_zero]; simp
  case round =>
    obtain ⟨i, hi, rfl, hinv⟩ := hrel
    have Inv := Lib.hid hinv.out; clear hinv
    by_cases hlt : i < N
    · have hia : i < la.length := by have := HN.out; omega
      have GX : Hid (la[i]? = some la[i]) := List.getElem?_eq_getElem hia
      have hx1 : la[i] < 10000 := CA.out.1.get i hia
      have HX1 := Lib.hid hx1
      have HLT := Lib.hid hlt
      have HIA := Lib.hid hia
      have hw : wrap64 ((i : Int) + 1) = ((i + 1 : Nat) : Int) := by unfold wrap64; have := HLA.out; omega
      have HW := Lib.hid hw; clear hw
      obtain ⟨b1, f1, hoa, -, hx0⟩ := RA.out.at' (Below.refl _ _) i hia
      subst hoa
      have HX0 : Hid (w.cell? ⟨b1, f1 + i, none⟩ = some (.int .i64 (la[i] : Nat))) := hx0
      clear hx0
      generalize la[i] = x at *
      clear hia hx1
      go_wp2_with fail
      go_loopw [7, 8] (fun v7 v8 wk => ∃ (k c : Nat), k ≤ M + 1 ∧ v7 = .int .i64 (c : Nat) ∧ v8 = .int .i64 (k : Nat) ∧ Hid (∃ s, MulI la lb w wk i x k c s)) (fun _ vk _ => M + 2 - (intOf vk).toNat)
      case atStart => exact ⟨0, 0, Nat.zero_le _, rfl, rfl, by obtain ⟨s, h⟩ := Inv.out; exact ⟨s, h.any⟩⟩
      case round =>
        clear Inv
        rename World => wk
        obtain ⟨k, c, hk, rfl, rfl, hinv⟩ := hrel
        obtain ⟨s, hs⟩ := hinv.out
        have Inv := Lib.hid hs; clear hinv hs
        have hbel : Hid (Below w.heap.size w wk) := Inv.out.2.2.2.2.2
        have hwk : wrap64 ((k : Int) + 1) = ((k + 1 : Nat) : Int) := by unfold wrap64; have := HLB.out; omega
        have HWK := Lib.hid hwk; clear hwk
        have HK := Lib.hid hk
        have hcb : c < 10000 := Inv.out.1
        have hik : wrap64 ((i : Int) + (k : Int)) = ((i + k : Nat) : Int) := by unfold wrap64; have := HLA.out; have := HLB.out; omega
        have part : i + k < T → Hid (∃ o, o < 10000 ∧ s[i + k]? = some o ∧ wk.cell? ⟨w.heap.size, i + k, none⟩ = some (.int .i64 (o : Nat)) ∧ wk.frozen? ⟨w.heap.size, i + k, none⟩ = false) := fun h => by
          obtain ⟨h0, h1, h2, h3, h4, h5⟩ := Inv.out
          have hl : i + k < s.length := by rw [h2, HN.out, HM.out]; have := HTT.out; omega
          exact ⟨s[i + k], h3.get _ hl, List.getElem?_eq_getElem hl, h1.cell _ hl, h1.free _⟩
        have HIS : Hid (i + k < T → i + k < s.length) := fun h => by
          obtain ⟨h0, h1, h2, h3, h4, h5⟩ := Inv.out
          rw [h2, HN.out, HM.out]; have := HTT.out; omega
        by_cases hkm : k < M
        · have hT9 : i + k < T := by have := HTT.out; omega
          obtain ⟨o, ho1, ho, hcc, hff⟩ := (part hT9).out
          have HO := Lib.hid ho; have HO1 := Lib.hid ho1; have HIS2 := Lib.hid (HIS.out hT9)
          clear part HIS ho
          have hkb : k < lb.length := by have := HM.out; omega
          obtain ⟨b2, f2, hob, -, hy0⟩ := RB.out.at' hbel.out k hkb
          subst hob
          have GY : Hid (lb[k]?.getD 0 = lb[k]) := by show _ = _; rw [List.getElem?_eq_getElem hkb]; rfl
          have hy1 : lb[k] < 10000 := CB.out.1.get k hkb
          generalize lb[k] = y at *
          clear hkb
          have HY1 := Lib.hid hy1
          have HY0 := Lib.hid hy0; clear hy0
          have HXW := Lib.hid (keepc HX0.out hbel.out)
          have HFF := Lib.hid hff; have HCC := Lib.hid hcc; clear hff
          have e1 : wrap64 ((o : Int) + (c : Int)) = (o : Int) + (c : Int) := by unfold wrap64; omega
          obtain ⟨p, hp⟩ : ∃ p, p = x * y := ⟨_, rfl⟩
          have hpb : p ≤ 99980001 := by
            have : x * y ≤ 9999 * 9999 := Nat.mul_le_mul (by have := HX1.out; omega) (by omega)
            omega
          have e2 : IntKind.i64.wrap ((x : Int) * (y : Int)) = (p : Int) := by
            rw [hp, Int.natCast_mul, ← Int.natCast_mul]; exact IntWalk.i64_in _ ⟨by omega, by omega⟩
          have E2 := Lib.hid e2
          have HCB := Lib.hid hcb
          have HPB := Lib.hid hpb
          have HP := Lib.hid hp
          clear e2 hpb hy1 hp e1
          go_wp2_with fail
          refine region_inv 10 67 [(45, Is (.int .i64 ((o : Int) + (c : Int)))), (46, Is (.slice (some ⟨b1, f1, none⟩) N capa)), (47, Is (.int .i64 ((i : Int)))), (48, Is (.pointer (some ⟨b1, f1 + i, none⟩))), (49, Is (.int .i64 ((x : Int)))), (50, Is (.slice (some ⟨b2, f2, none⟩) M capb)), (51, Is (.int .i64 ((k : Int)))), (52, Is (.pointer (some ⟨b2, f2 + k, none⟩))), (53, Is (.int .i64 ((y : Int)))), (54, Is (.int .i64 (p : Int)))] (by kernel_rfl) rfl (by kernel_rfl) ?_ ?_
          · refine steps_cons rfl (fun A_ W hb hr hg K hK => ?_) <| steps_cons rfl (fun A_ W hb hr hg K hK => ?_) <| steps_cons rfl (fun A_ W hb hr hg K hK => ?_) <| steps_cons rfl (fun A_ W hb hr hg K hK => ?_) <| steps_cons rfl (fun A_ W hb hr hg K hK => ?_) <| steps_cons rfl (fun A_ W hb hr hg K hK => ?_) <| steps_cons rfl (fun A_ W hb hr hg K hK => ?_) <| steps_cons rfl (fun A_ W hb hr hg K hK => ?_) <| steps_cons rfl (fun A_ W hb hr hg K hK => ?_) <| steps_cons rfl (fun A_ W hb hr hg K hK => ?_) trivial
            · have e0 : A_.tmps[9]?.getD undef = .int .i64 ((o : Int) + (c : Int)) := hb 9 (by kernel_rfl)
              clear hb hr
              go_simp
              exact hK _ _ (Below.refl _ _) (rfl)
            · have e0 : A_.tmps[0]?.getD undef = .slice (some ⟨b1, f1, none⟩) N capa := hb 0 (by kernel_rfl)
              clear hb hr
              go_simp
              exact hK _ _ (Below.refl _ _) (rfl)
            · have e0 : A_.tmps[6]?.getD undef = .int .i64 ((i : Int)) := hb 6 (by kernel_rfl)
              clear hb hr
              go_simp
              exact hK _ _ (Below.refl _ _) (rfl)
            · have e0 : A_.tmps[46]?.getD undef = .slice (some ⟨b1, f1, none⟩) N capa := hr 46 (by kernel_rfl)
              have e1 : A_.tmps[47]?.getD undef = .int .i64 ((i : Int)) := hr 47 (by kernel_rfl)
              clear hb hr
              go_simp; exact hK _ _ (Below.refl _ _) (rfl)
            · have e0 : A_.tmps[48]?.getD undef = .pointer (some ⟨b1, f1 + i, none⟩) := hr 48 (by kernel_rfl)
              clear hb hr
              have c0 := keepc HXW.out hg
              go_simp; exact hK _ _ (Below.refl _ _) (rfl)
            · have e0 : A_.tmps[1]?.getD undef = .slice (some ⟨b2, f2, none⟩) M capb := hb 1 (by kernel_rfl)
              clear hb hr
              go_simp
              exact hK _ _ (Below.refl _ _) (rfl)
            · have e0 : A_.tmps[8]?.getD undef = .int .i64 ((k : Int)) := hb 8 (by kernel_rfl)
              clear hb hr
              go_simp
              exact hK _ _ (Below.refl _ _) (rfl)
            · have e0 : A_.tmps[50]?.getD undef = .slice (some ⟨b2, f2, none⟩) M capb := hr 50 (by kernel_rfl)
              have e1 : A_.tmps[51]?.getD undef = .int .i64 ((k : Int)) := hr 51 (by kernel_rfl)
              clear hb hr
              go_simp; exact hK _ _ (Below.refl _ _) (rfl)
            · have e0 : A_.tmps[52]?.getD undef = .pointer (some ⟨b2, f2 + k, none⟩) := hr 52 (by kernel_rfl)
              clear hb hr
              have c0 := keepc HY0.out hg
              go_simp; exact hK _ _ (Below.refl _ _) (rfl)
            · have e0 : A_.tmps[49]?.getD undef = .int .i64 ((x : Int)) := hr 49 (by kernel_rfl)
              have e1 : A_.tmps[53]?.getD undef = .int .i64 ((y : Int)) := hr 53 (by kernel_rfl)
              clear hb hr
              go_simp; exact hK _ _ (Below.refl _ _) (congrArg (Value.int .i64) E2.out)
          rintro g101 w101 hb101 ⟨h45, -, -, -, -, -, -, -, -, h54, -⟩
          simp only [List.drop_succ_cons, List.drop_zero, List.take_succ_cons, List.take_zero, putHead, Option.getD_some, Act.put, List.setIfInBounds_toArray, List.set_cons_zero, List.set_cons_succ]
          replace h45 : g101 45 = .int .i64 ((o : Int) + (c : Int)) := h45
          generalize g101 45 = v45 at *
          subst h45
          replace h54 : g101 54 = .int .i64 (p : Int) := h54
          generalize g101 54 = v54 at *
          subst h54
          have Inv2 := Lib.hid (Inv.out.go hb101)
          have hc2 := keepc HCC.out hb101
          have hf2 : w101.frozen? ⟨w.heap.size, i + k, none⟩ = false := Inv2.out.2.1.free _
          clear hb101 Inv hcc
          have ho1 := HO1.out; have hcb := HCB.out; have hpb := HPB.out
          obtain ⟨d, hd⟩ : ∃ d, d = (o + c + x * y) % 10000 := ⟨_, rfl⟩
          obtain ⟨c2, hc9⟩ : ∃ c2, c2 = (o + c + x * y) / 10000 := ⟨_, rfl⟩
          have ez : ((o : Int) + (c : Int) + (p : Int)) = ((o + c + x * y : Nat) : Int) := by rw [← HP.out]; omega
          have hbd : o + c + x * y ≤ 9223372036854775807 := by rw [← HP.out]; omega
          have hrem2 : ((o : Int) + (c : Int) + (p : Int)) % 10000 = (d : Int) := by have hp := HP.out; rw [← hp] at hd; clear ez hp; omega
          have hrem : ((o : Int) + (c : Int) + (p : Int)).tmod 10000 = (d : Int) := by rw [hd]; exact rem_i64 ez hbd
          have hquo2 : wrap64 (((o : Int) + (c : Int) + (p : Int)) / 10000) = (c2 : Int) := by rw [hc9]; exact quo_w64 ez hbd
          have hquo : IntKind.i64.wrap (((o : Int) + (c : Int) + (p : Int)).tdiv 10000) = (c2 : Int) := by rw [hc9]; exact quo_i64 ez hbd
          have ST := Lib.hid (Inv2.out.step (d := d) (c' := c2) HIS2.out HO.out GY.out HX1.out HY1.out (z := (d : Int)) hd hc9 rfl)
          clear ez Inv2 hd hc9 hbd
          go_wp2_with fail
          go_roundw
          case rel => exact ⟨k + 1, c2, by omega, by first | with_reducible rfl | exact congrArg (Value.int .i64) hquo2, congrArg (Value.int .i64) HWK.out, _, ST.out⟩
          case measure => rw [HWK.out]; have := HK.out; simp [intOf]; omega
        · have hcp : c = 0 ∨ 0 < c := Nat.eq_zero_or_pos c
          have HCP := Lib.hid hcp; clear hcp
          rcases HCP.out with hc0 | hc0
          · subst hc0
            clear part HIS hcb
            have NX : Hid (∃ s, MulI la lb w wk (i + 1) 0 0 0 s) := ⟨s, Inv.out.next GX.out (by have := HM.out; omega) rfl⟩
            clear Inv
            go_wp2_with fail
            go_roundw
            case rel => exact ⟨i + 1, HLT.out, congrArg (Value.int .i64) HW.out, NX.out⟩
            case measure => rw [HW.out]; have := HLT.out; simp [intOf]; omega
          · have hkM : k = M := by have := Inv.out.fits CA.out.1 CB.out.1 HIA.out GX.out hc0; have := HM.out; omega
            have hT9 : i + k < T := by have := HTT.out; have := HLT.out; omega
            obtain ⟨o, ho1, ho, hcc, hff⟩ := (part hT9).out
            have HO := Lib.hid ho; have HO1 := Lib.hid ho1; have HIS2 := Lib.hid (HIS.out hT9)
            have HKM := Lib.hid hkM
            clear part HIS ho hkM
            have GY : Hid (lb[k]?.getD 0 = 0) := by show _ = _; rw [List.getElem?_eq_none (by have := HM.out; have := HKM.out; omega)]; rfl
            obtain ⟨d, hd⟩ : ∃ d, d = (o + c) % 10000 := ⟨_, rfl⟩
            obtain ⟨c2, hc9⟩ : ∃ c2, c2 = (o + c) / 10000 := ⟨_, rfl⟩
            have ez : ((o : Int) + (c : Int)) = ((o + c : Nat) : Int) := by omega
            have hbd : o + c ≤ 9223372036854775807 := by omega
            have hrem2 : ((o : Int) + (c : Int)) % 10000 = (d : Int) := by omega
            have hrem : ((o : Int) + (c : Int)).tmod 10000 = (d : Int) := by rw [hd]; exact rem_i64 ez hbd
            have hquo2 : wrap64 (((o : Int) + (c : Int)) / 10000) = (c2 : Int) := by rw [hc9]; exact quo_w64 ez hbd
            have hquo : IntKind.i64.wrap (((o : Int) + (c : Int)).tdiv 10000) = (c2 : Int) := by rw [hc9]; exact quo_i64 ez hbd
            have ST := Lib.hid (Inv.out.step (d := d) (c' := c2) HIS2.out HO.out GY.out HX1.out (y := 0) (by omega) (z := (d : Int)) (by rw [Nat.mul_zero, Nat.add_zero]; exact hd) (by rw [Nat.mul_zero, Nat.add_zero]; exact hc9) rfl)
            clear Inv hd hc9 ez hbd
            go_wp2_with fail
            go_roundw
            case rel => exact ⟨k + 1, c2, by have := HKM.out; omega, by first | with_reducible rfl | exact congrArg (Value.int .i64) hquo2, congrArg (Value.int .i64) HWK.out, _, ST.out⟩
            case measure => rw [HWK.out]; have := HK.out; simp [intOf]; omega
    · have hiN : i = N := by omega
      subst hiN
      obtain ⟨s, k0, k1, k2, k3, k4, k5⟩ := Inv.out
      have k4' : val 10000 s = val 10000 la * val 10000 lb := by
        rw [List.take_of_length_le (by have := HN.out; omega)] at k4
        simpa using k4
      have hsl : s.length = T := by rw [k2, HN.out, HM.out]; exact HTT.out
      have hrep := Rep.rowAll k1 T (by omega)
      rw [hsl] at hrep
      have HT9 : Hid (Calls Try.prog 121 #[.slice (some ⟨w.heap.size, 0, none⟩) T T] wr fun e w' => ∃ v, e = .returned v ∧ Rep wr .i64 v (trim s) ∧ w' = wr) := by
        have := rtrim_any (oa := some ⟨w.heap.size, 0, none⟩) (l := s) (cap := T) (by have := HT.out; omega) (w := wr) (by rw [hsl]; exact hrep)
        rw [hsl] at this
        exact this
      have K3 := Lib.hid k3; have K4 := Lib.hid k4'; have K5 := Lib.hid k5
      clear Inv k0 k1 k2 k3 k4 k4' k5 hrep hsl
      go_wp2_with fail
      refine HT9.out.mono ?_; rintro e' w2 ⟨v', rfl, hv', rfl⟩
      have HV' := Lib.hid hv'; clear hv'
      go_wp2_with fail
      go_ret
      exact ⟨_, rfl, ⟨_, HV'.out, canon_trim K3.out, by rw [val_trim, K4.out]⟩, K5.out⟩
end Go.Proofs.Ytlkdahgfnfdakaa
