/- The reference's Write, Parts. -/
import Derived.Test.YtlkdahgfnfdakaaRefP
import Derived.Test.YtlkdahgfnfdakaaFaceM
namespace Go.Proofs.Ytlkdahgfnfdakaa
open Go Go.RowKit Go.Shelf WN LM

theorem ba_app (a b : List UInt8) : (⟨a.toArray⟩ : ByteArray) ++ ⟨b.toArray⟩ = ⟨(a ++ b).toArray⟩ := by
  apply ByteArray.ext
  simp
theorem rat_t0 {n : Nat} : (⟨#[45]⟩ : ByteArray) ++ ⟨(decT n).toArray⟩ = ⟨(ratText true n 1).toArray⟩ := by
  rw [show (⟨#[45]⟩ : ByteArray) = ⟨([45] : List UInt8).toArray⟩ from rfl, ba_app]
  congr 2
  unfold ratText; simp
theorem rat_t1 {n d : Nat} (h : ¬ d = 1) : (⟨#[45]⟩ : ByteArray) ++ ⟨(decT n).toArray⟩ ++ ⟨#[47]⟩ ++ ⟨(decT d).toArray⟩ = ⟨(ratText true n d).toArray⟩ := by
  rw [show (⟨#[45]⟩ : ByteArray) = ⟨([45] : List UInt8).toArray⟩ from rfl, show (⟨#[47]⟩ : ByteArray) = ⟨([47] : List UInt8).toArray⟩ from rfl, ba_app, ba_app, ba_app]
  congr 2
  unfold ratText; simp [h]
theorem rat_f1 {n d : Nat} (h : ¬ d = 1) : (⟨(decT n).toArray⟩ : ByteArray) ++ ⟨#[47]⟩ ++ ⟨(decT d).toArray⟩ = ⟨(ratText false n d).toArray⟩ := by
  rw [show (⟨#[47]⟩ : ByteArray) = ⟨([47] : List UInt8).toArray⟩ from rfl, ba_app, ba_app]
  congr 2
  unfold ratText; simp [h]
def IsRF (s : Bool) (n d : Nat) : Rel := ⟨fun v w => RFrac w v s n d, fun _ _ _ hb h => h.go hb⟩
theorem decT_size {n : Nat} (h : RLen n ≤ 1000) : (⟨(decT n).toArray⟩ : ByteArray).size ≤ 4001 := by
  have h1 := (dig_len4 n).1
  show (decT n).toArray.size ≤ _
  rw [List.size_toArray, decT_len]; omega

set_option maxHeartbeats 2000000 in
set_option maxRecDepth 100000 in
theorem rwrite_any {w : World} {v : Value} {s : Bool} {n d : Nat} (h : RFrac w v s n d) (ln : RLen n ≤ 1000) (ld : RLen d ≤ 1000) : Calls Try.prog 59 #[v] w fun e w' => e = .returned (.string ⟨(ratText s n d).toArray⟩) ∧ Below w.heap.size w w' := by
  obtain ⟨o1, k1, c1, o2, k2, c2, rfl, h1, h2⟩ := h
  have bx := BoxQ.new w (.bool s) (.slice o1 k1 c1) (.slice o2 k2 c2)
  have b1 := below_alloc w (.cells #[.bool s, .slice o1 k1 c1, .slice o2 k2 c2] 60)
  have BX := Lib.hid bx; have HB1 := Lib.hid b1; have H1 := Lib.hid (h1.go b1); have H2 := Lib.hid (h2.go b1)
  have TX : Hid (∀ W v x, RNum W v x → RLen x ≤ 1000 → Calls Try.prog 60 #[v] W fun e w' => e = .returned (.string ⟨(decT x).toArray⟩) ∧ Below W.heap.size W w') := fun W v x h1 h2 => rtext_any h1 (by omega)
  have WH : Hid (∀ W v s n d, RFrac W v s n d → RLen d ≤ 1000 → Calls Try.prog 83 #[v] W fun e w' => e = .returned (.bool (decide (d = 1))) ∧ Below W.heap.size W w') := fun W v s n d h1 h2 => rwhole_any h1 (by omega)
  have LN := Lib.hid ln; have LD := Lib.hid ld
  have hsn := decT_size ln; have hsd := decT_size ld
  have RT : Hid (ratText s n d = (if s then [45] else []) ++ decT n ++ (if d = 1 then [] else 47 :: decT d)) := rfl
  clear h1 h2 ln ld b1
  obtain ⟨x0, x1, x2, f0, f1, f2⟩ := bx.facts
  clear bx
  obtain ⟨tn, htn⟩ : ∃ tn, tn = (⟨(decT n).toArray⟩ : ByteArray) := ⟨_, rfl⟩
  obtain ⟨td, htd⟩ : ∃ td, td = (⟨(decT d).toArray⟩ : ByteArray) := ⟨_, rfl⟩
  rw [← htn] at hsn; rw [← htd] at hsd
  have HTN := Lib.hid htn; have HTD := Lib.hid htd
  clear htn htd
  go_enter Try.func59, Try.ntmps59
  go_wp2_with fail
  generalize w.alloc (.cells #[.bool s, .slice o1 k1 c1, .slice o2 k2 c2] 60) = w1 at *
  refine (TX.out _ _ _ H1.out LN.out).mono ?_; rintro e w2 ⟨rfl, hb2⟩
  rw [← HTN.out]
  have BX2 := Lib.hid (BX.out.go hb2); have HB2 := Lib.hid (bstep HB1.out hb2); have HN2 := Lib.hid (H1.out.go hb2); have HD2 := Lib.hid (H2.out.go hb2)
  clear hb2 x0 x1 x2 f0 f1 f2
  obtain ⟨x0, x1, x2, f0, f1, f2⟩ := BX2.out.facts
  cases s
  · go_wp2_with fail
    refine (WH.out _ _ _ _ _ ⟨_, _, _, _, _, _, rfl, HN2.out, HD2.out⟩ LD.out).mono ?_; rintro e w3 ⟨rfl, hb3⟩
    have BX3 := Lib.hid (BX2.out.go hb3); have HB3 := Lib.hid (bstep HB2.out hb3); have HD3 := Lib.hid (HD2.out.go hb3)
    clear hb3 x0 x1 x2 f0 f1 f2
    obtain ⟨x0, x1, x2, f0, f1, f2⟩ := BX3.out.facts
    by_cases h1 : d = 1
    · rw [decide_eq_true h1]
      have H1' := Lib.hid h1; clear h1
      go_wp2_with fail
      go_ret
      exact ⟨by rw [RT.out, if_pos H1'.out]; show Ending.returned (Value.string tn) = _; rw [HTN.out]; simp, HB3.out⟩
    · rw [decide_eq_false h1]
      have H1' := Lib.hid h1; clear h1
      go_wp2_with fail
      refine (TX.out _ _ _ HD3.out LD.out).mono ?_; rintro e w4 ⟨rfl, hb4⟩
      rw [← HTD.out]
      have HB4 := Lib.hid (bstep HB3.out hb4); clear hb4
      go_wp2_with fail
      go_ret
      refine ⟨?_, HB4.out⟩
      show Ending.returned (Value.string (tn ++ ⟨#[47]⟩ ++ td)) = _
      rw [HTN.out, HTD.out, rat_f1 H1'.out]
  · go_wp2_with fail
    refine (WH.out _ _ _ _ _ ⟨_, _, _, _, _, _, rfl, HN2.out, HD2.out⟩ LD.out).mono ?_; rintro e w3 ⟨rfl, hb3⟩
    have BX3 := Lib.hid (BX2.out.go hb3); have HB3 := Lib.hid (bstep HB2.out hb3); have HD3 := Lib.hid (HD2.out.go hb3)
    clear hb3 x0 x1 x2 f0 f1 f2
    obtain ⟨x0, x1, x2, f0, f1, f2⟩ := BX3.out.facts
    by_cases h1 : d = 1
    · rw [decide_eq_true h1]
      have H1' := Lib.hid h1; clear h1
      go_wp2_with fail
      go_ret
      refine ⟨?_, HB3.out⟩
      show Ending.returned (Value.string (⟨#[45]⟩ ++ tn)) = _
      rw [HTN.out, H1'.out, rat_t0]
    · rw [decide_eq_false h1]
      have H1' := Lib.hid h1; clear h1
      go_wp2_with fail
      refine (TX.out _ _ _ HD3.out LD.out).mono ?_; rintro e w4 ⟨rfl, hb4⟩
      rw [← HTD.out]
      have HB4 := Lib.hid (bstep HB3.out hb4); clear hb4
      go_wp2_with fail
      go_ret
      refine ⟨?_, HB4.out⟩
      show Ending.returned (Value.string (⟨#[45]⟩ ++ tn ++ ⟨#[47]⟩ ++ td)) = _
      rw [HTN.out, HTD.out, rat_t1 H1'.out]

set_option maxHeartbeats 4000000 in
set_option maxRecDepth 100000 in
theorem rparts_any (w : World) (a : ByteArray) (ha : a.size ≤ 140737488355328) : Calls Try.prog 17 #[.string a] w (OutT w (parT a)) := by
  have RD := Lib.hid (rread_any a w ha)
  have N1 : Hid (∀ W, Calls Try.prog 58 #[.int .u64 1] W (RRet W 1)) := fun W => natOf_any 1 (by omega) W
  clear ha
  go_enter Try.func17, Try.ntmps17
  go_wp2_with fail
  refine RD.out.mono ?_; rintro e w1 ⟨v1, hb1, h⟩
  have HB1 := Lib.hid hb1; clear hb1
  cases hp : readQ a.data.toList with
  | none =>
    rw [hp] at h
    have HR : Hid ((parT a) = ((⟨#[]⟩ : ByteArray), (⟨#[]⟩ : ByteArray), (1 : Int))) := by show _ = _; unfold parT oneG; rw [hp]
    obtain ⟨rfl, rfl⟩ := h
    clear hp
    go_wp2_with fail
    go_ret3
    exact ⟨by rw [HR.out]; rfl, bstep HB1.out (below_alloc _ _)⟩
  | some p =>
    rw [hp] at h
    obtain ⟨s, n, d⟩ := p
    have HR : Hid (parT a = (textB (numQ (s, n, d)), textB (denQ (s, n, d)), 0)) := by show _ = _; unfold parT oneG; rw [hp]
    obtain ⟨p1, p2, p3, p4, p5, -⟩ := readQ_q hp
    have ln : RLen n ≤ 100 := by have := (dig_len4 n).2; rcases Nat.eq_zero_or_pos n with h0 | h0; rw [h0, rlen_zero]; omega; have := this h0; have p1' : Dig n ≤ 300 := p1; omega
    have ld : RLen d ≤ 100 := by have := (dig_len4 d).2 p3; have p2' : Dig d ≤ 300 := p2; omega
    obtain ⟨rfl, o1, k1, c1, o2, k2, c2, rfl, h1, h2⟩ := h
    have bx := BoxQ.new w1 (.bool s) (.slice o1 k1 c1) (.slice o2 k2 c2)
    have b1 := below_alloc w1 (.cells #[.bool s, .slice o1 k1 c1, .slice o2 k2 c2] 60)
    have BX := Lib.hid bx; have HB2 := Lib.hid (bstep HB1.out b1); have H1 := Lib.hid (h1.go b1); have H2 := Lib.hid (h2.go b1)
    have e1 : textB (numQ (s, n, d)) = ⟨(ratText s n 1).toArray⟩ := by
      show (⟨(ratText (s && decide (n ≠ 0)) n 1).toArray⟩ : ByteArray) = _
      have : (s && decide (n ≠ 0)) = s := by
        cases s
        · rfl
        · have : n ≠ 0 := p5 rfl
          simp [this]
      rw [this]
    have e2 : textB (denQ (s, n, d)) = ⟨(decT d).toArray⟩ := by
      show (⟨(ratText (false && decide (d ≠ 0)) d 1).toArray⟩ : ByteArray) = _
      unfold ratText; simp
    obtain ⟨t1, ht1⟩ : ∃ t1, t1 = textB (numQ (s, n, d)) := ⟨_, rfl⟩
    obtain ⟨t2, ht2⟩ : ∃ t2, t2 = textB (denQ (s, n, d)) := ⟨_, rfl⟩
    have WR : Hid (∀ W v, RFrac W v s n 1 → Calls Try.prog 59 #[v] W fun e w' => e = .returned (.string t1) ∧ Below W.heap.size W w') := fun W v h => by
      have := rwrite_any h (by omega) (by rw [rlen_one]; omega)
      rwa [← e1, ← ht1] at this
    have TX : Hid (∀ W v, RNum W v d → Calls Try.prog 60 #[v] W fun e w' => e = .returned (.string t2) ∧ Below W.heap.size W w') := fun W v h => by
      have := rtext_any h (by omega)
      rwa [← e2, ← ht2] at this
    rw [← ht1, ← ht2] at HR
    clear hp h1 h2 bx b1 p1 p2 p3 p4 p5 ln ld e1 e2 ht1 ht2
    go_wp2_with fail
    generalize w1.alloc (.cells #[.bool s, .slice o1 k1 c1, .slice o2 k2 c2] 60) = w2 at *
    refine region_inv 10 24 [(14, Is (.pointer (some ⟨w1.heap.size, 0, none⟩))), (15, Is (.bool s)), (16, Is (.pointer (some ⟨w1.heap.size, 1, none⟩))), (17, Is (.slice o1 k1 c1)), (18, IsR 1), (19, IsRF s n 1), (20, Is (.string t1)), (21, Is (.pointer (some ⟨w1.heap.size, 2, none⟩))), (22, Is (.slice o2 k2 c2)), (23, Is (.string t2))] (by kernel_rfl) rfl (by kernel_rfl) ?_ ?_
    · refine steps_cons rfl (fun A_ W hb hr hg K hK => ?_) <| steps_cons rfl (fun A_ W hb hr hg K hK => ?_) <| steps_cons rfl (fun A_ W hb hr hg K hK => ?_) <| steps_cons rfl (fun A_ W hb hr hg K hK => ?_) <| steps_cons rfl (fun A_ W hb hr hg K hK => ?_) <| steps_cons rfl (fun A_ W hb hr hg K hK => ?_) <| steps_cons rfl (fun A_ W hb hr hg K hK => ?_) <| steps_cons rfl (fun A_ W hb hr hg K hK => ?_) <| steps_cons rfl (fun A_ W hb hr hg K hK => ?_) <| steps_cons rfl (fun A_ W hb hr hg K hK => ?_) trivial
      · have e0 : A_.tmps[5]?.getD undef = .pointer (some ⟨w1.heap.size, 0, none⟩) := hb 5 (by kernel_rfl)
        clear hb hr; go_simp; exact hK _ _ (Below.refl _ _) rfl
      · have e0 : A_.tmps[14]?.getD undef = .pointer (some ⟨w1.heap.size, 0, none⟩) := hr 14 (by kernel_rfl)
        have c0 := (BX.out.go hg).facts.1
        clear hb hr; go_simp; exact hK _ _ (Below.refl _ _) rfl
      · have e0 : A_.tmps[5]?.getD undef = .pointer (some ⟨w1.heap.size, 0, none⟩) := hb 5 (by kernel_rfl)
        clear hb hr; go_simp; exact hK _ _ (Below.refl _ _) rfl
      · have e0 : A_.tmps[16]?.getD undef = .pointer (some ⟨w1.heap.size, 1, none⟩) := hr 16 (by kernel_rfl)
        have c0 := (BX.out.go hg).facts.2.1
        clear hb hr; go_simp; exact hK _ _ (Below.refl _ _) rfl
      · clear hb hr; go_simp
        refine (N1.out W).mono ?_; rintro e w5 ⟨v5, rfl, hv5, hb5⟩
        exact hK _ _ hb5 hv5
      · have e0 : A_.tmps[15]?.getD undef = .bool s := hr 15 (by kernel_rfl)
        have e1 : A_.tmps[17]?.getD undef = .slice o1 k1 c1 := hr 17 (by kernel_rfl)
        have h5 : RNum W (A_.tmps[18]?.getD undef) 1 := hr 18 (by kernel_rfl)
        obtain ⟨o8, c8, e2⟩ := h5.shape
        have H5 := Lib.hid h5
        rw [e2] at H5
        have E2 := Lib.hid e2
        clear hb hr h5
        go_simp
        exact hK _ _ (Below.refl _ _) ⟨_, _, _, _, _, _, rfl, H1.out.go hg, H5.out⟩
      · have h5 : RFrac W (A_.tmps[19]?.getD undef) s n 1 := hr 19 (by kernel_rfl)
        have H5 := Lib.hid h5
        clear hb hr h5
        go_simp
        refine (WR.out _ _ H5.out).mono ?_; rintro e w5 ⟨rfl, hb5⟩
        exact hK _ _ hb5 rfl
      · have e0 : A_.tmps[5]?.getD undef = .pointer (some ⟨w1.heap.size, 0, none⟩) := hb 5 (by kernel_rfl)
        clear hb hr; go_simp; exact hK _ _ (Below.refl _ _) rfl
      · have e0 : A_.tmps[21]?.getD undef = .pointer (some ⟨w1.heap.size, 2, none⟩) := hr 21 (by kernel_rfl)
        have c0 := (BX.out.go hg).facts.2.2.1
        clear hb hr; go_simp; exact hK _ _ (Below.refl _ _) rfl
      · have e0 : A_.tmps[22]?.getD undef = .slice o2 k2 c2 := hr 22 (by kernel_rfl)
        clear hb hr; go_simp
        refine (TX.out _ _ (H2.out.go hg)).mono ?_; rintro e w5 ⟨rfl, hb5⟩
        exact hK _ _ hb5 rfl
    rintro g4 w14 hb14 ⟨-, -, -, -, -, -, h20, -, -, h23, -⟩
    simp only [List.drop_succ_cons, List.drop_zero, List.take_succ_cons, List.take_zero, putHead, Option.getD_some, Act.put, List.setIfInBounds_toArray, List.set_cons_zero, List.set_cons_succ]
    replace h20 : g4 20 = .string t1 := h20
    generalize g4 20 = v20 at *
    subst h20
    replace h23 : g4 23 = .string t2 := h23
    generalize g4 23 = v23 at *
    subst h23
    have HB9 := Lib.hid (bstep HB2.out hb14); clear hb14
    go_wp2_with fail
    go_ret3
    exact ⟨by rw [HR.out]; rfl, HB9.out⟩
end Go.Proofs.Ytlkdahgfnfdakaa
