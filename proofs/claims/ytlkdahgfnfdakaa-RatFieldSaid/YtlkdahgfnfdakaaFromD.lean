import Derived.Test.YtlkdahgfnfdakaaDec
namespace Go.Proofs.Ytlkdahgfnfdakaa
open Go.RowKit WN LM

/-- what fromDigits returns -/
def FromD (w : World) (l : List UInt8) (e : Ending) (w' : World) : Prop :=
  ∃ v, e = .returned (.tuple #[v, .bool (goodD l)]) ∧ Below w.heap.size w w' ∧ (goodD l = true → Num w' v (dval l)) ∧ (goodD l = false → v = .slice none 0 0)

def FromI (l : List UInt8) (w : World) (i : Nat) (W : World) : Prop :=
  Row W w.heap.size .u32 117 (wd (dval (l.take i)) (l.length - i) ((l.length + 8) / 9)) ∧ (l.take i).all isD = true ∧ Below w.heap.size w W
theorem dec_lower {n : Nat} (h : n ≠ 0) : 10 ^ (Dig n - 1) ≤ n := by
  have := dec_len n n (Nat.le_refl _) h
  have e : Dig n = (dec n).length := by rw [← decT_len]; unfold decT; rw [if_neg h]
  rw [e]; exact this.2.2
theorem FromI.last {l : List UInt8} {w W : World} {g : Nat} (hg : goodD l = true) (hh : l.head? ≠ some 48) (h : FromI l w l.length W) (he : g = (l.length + 8) / 9) :
    Num W (.slice (some ⟨w.heap.size, 0, none⟩) g g) (dval l) := by
  obtain ⟨hr, ha, hb⟩ := h
  rw [List.take_length, Nat.sub_self, ← he] at hr
  obtain ⟨g1, g2, g3⟩ := goodD_eq hg
  have h0 : dval l ≠ 0 := by
    intro h0
    apply hh
    rw [g1, h0]; rfl
  have h1 := lt_dig (dval l)
  have h2 := dec_lower h0
  have h3 := dig_pos (dval l)
  have hc := wd_canon (P := dval l) (W := g) (Nat.lt_of_lt_of_le h1 (Nat.pow_le_pow_right (by omega) (by omega))) (Nat.le_trans (Nat.pow_le_pow_right (by omega) (by omega)) h2) (by omega)
  refine ⟨_, ?_, hc.1, hc.2⟩
  have := Rep.rowAll hr g (by rw [wd_length]; exact Nat.le_refl _)
  rwa [wd_length] at this
theorem FromI.step {l : List UInt8} {w W : World} {i : Nat} (h : FromI l w i W) (hi : i < l.length) (c : UInt8) (hc : l[i]? = some c) (hd : isD c = true) (hl : l.length ≤ 300) :
    FromI l w (i + 1) (W.setCell ⟨w.heap.size, (l.length - 1 - i) / 9, none⟩ (.int .u32 ((wdAt (dval (l.take i)) (l.length - i) ((l.length - 1 - i) / 9) * 10 + (c.toNat - 48) : Nat)))) := by
  obtain ⟨hr, ha, hb⟩ := h
  have e : l.take (i + 1) = l.take i ++ [c] := by
    rw [List.take_add_one, hc]; rfl
  have hd' := hd
  simp only [isD, Bool.and_eq_true, decide_eq_true_eq] at hd'
  refine ⟨?_, ?_, hb.setCell (p := ⟨w.heap.size, _, none⟩) (Nat.le_refl _) _⟩
  · rw [e, dval_snoc, show l.length - (i + 1) = l.length - i - 1 from by omega, wd_step (b := (l.length - 1 - i) / 9) (by omega) (by omega) (by omega) (by omega)]
    exact hr.set _ _
  · rw [e, List.all_append, ha]; simp [hd]
theorem FromD.no {w w' : World} {l : List UInt8} (h : goodD l = false) (hb : Below w.heap.size w w') : FromD w l (.returned (.tuple #[.slice none 0 0, .bool false])) w' :=
  ⟨_, by rw [h], hb, fun h' => by (rw [h] at h'; cases h'), fun _ => rfl⟩


set_option maxHeartbeats 4000000 in
set_option maxRecDepth 100000 in
theorem fromDigits_num (s : ByteArray) (w : World) (hs : s.size ≤ 140737488355328) : Calls Try.prog 105 #[.string s] w (FromD w s.data.toList) := by
  have hmk := fun w => make_words w (((s.size : Int) + 9 - 1).tdiv 9) (((s.size : Int) + 9 - 1).tdiv 9)
  have hlen : s.data.toList.length = s.size := by simp
  by_cases h2 : 1 ≤ s.size
  · have e0 : ((s.size : Int) == 0) = false := by rw [beq_eq_false_iff_ne]; omega
    by_cases h3 : s.size ≤ 300
    · have e1 : decide ((300 : Int) < (s.size : Int)) = false := by simp; omega
      have hh : s.data.toList.head? = some s[0] := by
        rw [List.head?_eq_getElem?, List.getElem?_eq_getElem (by omega)]; rfl
      by_cases h0 : s[0] = 48
      · have e2 : ((s[0].toNat : Int) == 48) = true := by rw [h0]; rfl
        have hg : goodD s.data.toList = decide (s.size = 1) := by
          unfold goodD; rw [hlen, hh, h0]
          by_cases h4 : s.size = 1
          · have : s.data.toList = [48] := by
              match hx : s.data.toList, hlen with
              | [c], _ => rw [hx] at hh; rw [h0] at hh; simpa using hh
              | [], h => simp at h; omega
              | a :: b :: l, h => simp at h; omega
            rw [this]; simp [h4, isD]
          · simp [h4]
        have Hg := Lib.hid hg
        have HH : Hid (s.data.toList.head? = some 48) := by show _ = _; rw [hh, h0]
        clear hg hh h0 hlen hmk
        have e4 : ((s.size : Int) == 1) = decide (s.size = 1) := by rw [Bool.eq_iff_iff]; simp; omega
        go_enter Try.func105, Try.ntmps105
        go_wp2
        go_ret2
        exact ⟨_, by rw [Hg.out]; rfl, Below.refl _ _, fun h => by
          have h4 : s.size = 1 := by have := Hg.out; rw [h] at this; simpa using this.symm
          have h5 := (goodD_eq h)
          have h6 : dval s.data.toList = 0 := by
            have : s.data.toList = [48] := by
              match hx : s.data.toList, (show s.data.toList.length = 1 by simpa using h4) with
              | [c], _ => have := HH.out; rw [hx] at this; simpa using this
            rw [this]; rfl
          rw [h6]; exact Num.nil _, fun _ => rfl⟩
      · have hne : s[0].toNat ≠ 48 := fun h => h0 (UInt8.toNat_inj.1 h)
        have e2 : ((s[0].toNat : Int) == 48) = false := by rw [beq_eq_false_iff_ne]; omega
        have hg : goodD s.data.toList = s.data.toList.all isD := by
          unfold goodD; rw [hlen, hh]
          have : decide (some s[0] ≠ some 48) = true := by simp [h0]
          simp [h2, h3, h0]
        have hh' := Lib.hid hh; have H0 := Lib.hid h0
        have Hg := Lib.hid hg
        have HL := Lib.hid hlen
        obtain ⟨W, hW⟩ : ∃ W, W = (s.size + 8) / 9 := ⟨_, rfl⟩
        have hq : ((s.size : Int) + 9 - 1) / 9 = (W : Int) := by omega
        have hmk := fun w => make_words w (W : Int) (W : Int) (by omega) (by omega) (by omega)
        simp only [Int.toNat_natCast] at hmk
        have HW := Lib.hid hW
        clear hg hh h0 hlen hne hW
        go_enter Try.func105, Try.ntmps105
        go_wp2
        have HR := Lib.hid (Row.new w .u32 117 (List.replicate W 0))
        have HB := Lib.hid ((Below.refl _ w).alloc (Nat.le_refl _) (.cells (ns .u32 (List.replicate W 0)) 117))
        generalize w.alloc (.cells (ns .u32 (List.replicate W 0)) 117) = w1 at *
        clear hmk hq
        go_loopw [30] (fun vi wr => ∃ i : Nat, i ≤ s.size ∧ vi = .int .i64 i ∧ FromI s.data.toList w i wr) (fun vi _ => s.size - (intOf vi).toNat)
        case atStart =>
          refine ⟨0, Nat.zero_le _, rfl, ?_, rfl, HB.out⟩
          rw [List.take_zero, dval_nil, wd_zero, HL.out, ← HW.out]; exact HR.out
        case round =>
          clear HR HB
          obtain ⟨i, hi, rfl, hinv⟩ := hrel
          have Inv := Lib.hid hinv; clear hinv
          by_cases hlt : i < s.size
          · have hgi : s.data.toList[i]? = some s[i] := by rw [List.getElem?_eq_getElem (by rw [HL.out]; exact hlt)]; rfl
            by_cases hd : isD s[i] = true
            · have HD := Lib.hid hd
              have hd' := hd
              simp only [isD, Bool.and_eq_true, decide_eq_true_eq] at hd'
              obtain ⟨hc1, hc2⟩ := hd'
              have d1 : decide ((s[i].toNat : Int) < 48) = false := by simp; omega
              have d2 : decide ((57 : Int) < (s[i].toNat : Int)) = false := by simp; omega
              obtain ⟨b, hb⟩ : ∃ b, b = (s.size - 1 - i) / 9 := ⟨_, rfl⟩
              have hqi : ((s.size : Int) - 1 - (i : Int)) / 9 = (b : Int) := by omega
              have hbW : b < W := by have := HW.out; omega
              have hx : wdAt (dval (s.data.toList.take i)) (s.data.toList.length - i) b < 100000000 := wdAt_cur_lt (by rw [HL.out]; omega) (by rw [HL.out]; omega)
              have c0 := Inv.out.1.cell b (by rw [wd_length, HL.out]; have := HW.out; omega)
              rw [wd_get _ _ _ _ (by rw [HL.out]; have := HW.out; omega)] at c0
              have f0 := Inv.out.1.free b
              have HS := Lib.hid (FromI.step Inv.out (by rw [HL.out]; exact hlt) s[i] hgi hd (by rw [HL.out]; exact h3))
              rw [HL.out, ← hb] at HS
              rw [HL.out] at c0 hx
              have hc1' : (48 : Int) ≤ (s[i].toNat : Int) := by omega
              have hc2' : (s[i].toNat : Int) ≤ 57 := by omega
              have he : (((wdAt (dval (s.data.toList.take i)) (s.size - i) b * 10 + (s[i].toNat - 48) : Nat)) : Int) = (wdAt (dval (s.data.toList.take i)) (s.size - i) b : Int) * 10 + ((s[i].toNat : Int) - 48) := by omega
              rw [he] at HS
              clear he
              generalize wdAt (dval (s.data.toList.take i)) (s.size - i) b = x at *
              have HBE := Lib.hid hb
              clear hd hgi hc1 hc2 Inv hb
              go_wp2
              go_roundw
              case rel => exact ⟨i + 1, hlt, by go_num, HS.out⟩
              case measure => simp [intOf]; omega
            · have hgo : goodD s.data.toList = false := by
                rw [Hg.out, List.all_eq_false]
                exact ⟨s[i], List.mem_of_getElem? hgi, hd⟩
              have Hgo := Lib.hid hgo
              have hnd : (s[i].toNat < 48) ∨ (57 < s[i].toNat) := by
                simp only [isD, Bool.and_eq_true, decide_eq_true_eq] at hd; omega
              clear hd hgi hgo
              by_cases h5 : s[i].toNat < 48
              · have d1 : decide ((s[i].toNat : Int) < 48) = true := by simp; omega
                clear h5 hnd
                go_wp2
                go_ret2
                exact FromD.no Hgo.out Inv.out.2.2
              · have d1 : decide ((s[i].toNat : Int) < 48) = false := by simp; omega
                have d2 : decide ((57 : Int) < (s[i].toNat : Int)) = true := by simp; omega
                clear h5 hnd
                go_wp2
                go_ret2
                exact FromD.no Hgo.out Inv.out.2.2
          · obtain rfl : i = s.size := by omega
            go_wp2
            go_ret2
            have ha : goodD s.data.toList = true := by
              have := Inv.out.2.1
              rw [List.take_of_length_le (by rw [HL.out]; exact Nat.le_refl _)] at this
              rw [Hg.out, this]
            have hI : FromI s.data.toList w s.data.toList.length wr := by rw [HL.out]; exact Inv.out
            exact ⟨_, by rw [ha]; rfl, Inv.out.2.2, fun _ => FromI.last ha (by rw [hh'.out]; intro h; exact H0.out (Option.some.inj h)) hI (by rw [HL.out]; exact HW.out), fun h => by (rw [ha] at h; cases h)⟩
    · have e1 : decide ((300 : Int) < (s.size : Int)) = true := by simp; omega
      have hg : goodD s.data.toList = false := by unfold goodD; rw [hlen]; simp [h3]
      have Hg := Lib.hid hg; clear hg hlen hmk
      go_enter Try.func105, Try.ntmps105
      go_wp2
      go_ret2
      exact FromD.no Hg.out (Below.refl _ _)
  · have e0 : ((s.size : Int) == 0) = true := by rw [beq_iff_eq]; omega
    have hg : goodD s.data.toList = false := by unfold goodD; rw [hlen]; simp [h2]
    have Hg := Lib.hid hg; clear hg hlen hmk
    go_enter Try.func105, Try.ntmps105
    go_wp2
    go_ret2
    exact FromD.no Hg.out (Below.refl _ _)
end Go.Proofs.Ytlkdahgfnfdakaa
