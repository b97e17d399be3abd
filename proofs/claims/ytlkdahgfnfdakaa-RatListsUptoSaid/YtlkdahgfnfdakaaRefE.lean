/- The reference's readNat, whole. -/
import Derived.Test.YtlkdahgfnfdakaaRefC
namespace Go.Proofs.Ytlkdahgfnfdakaa
open Go Go.RowKit Go.Shelf WN LM

theorem dval_append (a b : List UInt8) : dval (a ++ b) = dval a * 10 ^ b.length + dval b := by
  induction b using snoc_ind with
  | h0 => simp [dval_nil]
  | h1 l c ih =>
    rw [← List.append_assoc, dval_snoc, ih, dval_snoc, List.length_append, List.length_singleton, Nat.pow_succ]
    generalize dval a = x
    generalize 10 ^ l.length = p
    generalize dval l = y
    grind
/-- readNat, at the head of a round -/
def ReadI (L : List UInt8) (w wr : World) (v : Value) (e : Int) : Prop :=
  ∃ l, wr.ownsRow w.heap.size 3 1 v l.length (nl .i64 l) ∧ Digs 10000 l ∧ dval L = val 10000 l + 10000 ^ l.length * dval (L.take e.toNat) ∧ 4 * (l.length : Int) + e = L.length ∧ Below w.heap.size w wr
theorem ReadI.next {L : List UInt8} {E : Nat} {l : List Nat} (hE : E ≤ L.length) (h0 : 0 < E) (h : dval L = val 10000 l + 10000 ^ l.length * dval (L.take E)) (hs : L.all isD = true) :
    dval ((L.take E).drop (E - 4)) < 10000 ∧ dval L = val 10000 (l ++ [dval ((L.take E).drop (E - 4))]) + 10000 ^ (l.length + 1) * dval (L.take ((E : Int) - 4).toNat) := by
  have e1 : ((E : Int) - 4).toNat = E - 4 := by omega
  have e2 : L.take E = L.take (E - 4) ++ (L.take E).drop (E - 4) := by
    have := (List.take_append_drop (E - 4) (L.take E)).symm
    rwa [List.take_take, Nat.min_eq_left (by omega)] at this
  have hlen : ((L.take E).drop (E - 4)).length = E - (E - 4) := by rw [List.length_drop, List.length_take]; omega
  have hall : ((L.take E).drop (E - 4)).all isD = true := by
    rw [List.all_eq_true] at hs ⊢
    exact fun x hx => hs x (List.mem_of_mem_take (List.mem_of_mem_drop hx))
  have hlt := dval_lt hall
  rw [hlen] at hlt
  have hp : (10 : Nat) ^ (E - (E - 4)) ≤ 10 ^ 4 := Nat.pow_le_pow_right (by omega) (by omega)
  have hp4 : (10 : Nat) ^ 4 = 10000 := by decide
  refine ⟨by omega, ?_⟩
  rw [e1, val_snoc, h, Nat.pow_succ]
  have e3 : dval (L.take E) = dval (L.take (E - 4)) * 10 ^ (E - (E - 4)) + dval ((L.take E).drop (E - 4)) := by
    have := dval_append (L.take (E - 4)) ((L.take E).drop (E - 4))
    rw [hlen, ← e2] at this
    exact this
  rw [e3]
  by_cases h4 : 4 ≤ E
  · rw [show E - (E - 4) = 4 from by omega, hp4]
    generalize dval (L.take (E - 4)) = x
    generalize dval ((L.take E).drop (E - 4)) = y
    generalize 10000 ^ l.length = p
    grind
  · have : L.take (E - 4) = [] := by rw [show E - 4 = 0 from by omega]; rfl
    rw [this, dval_nil]
    generalize dval ((L.take E).drop (E - 4)) = y
    generalize 10000 ^ l.length = p
    grind
theorem dval_step {L : List UInt8} {E i : Nat} (hi : i < E) (hE : E ≤ L.length) {c : UInt8} (hc : L[i]? = some c) (hst : E - 4 ≤ i) :
    dval ((L.take (i + 1)).drop (E - 4)) = 10 * dval ((L.take i).drop (E - 4)) + (c.toNat - 48) := by
  have : (L.take (i + 1)).drop (E - 4) = (L.take i).drop (E - 4) ++ [c] := by
    rw [List.take_add_one, hc, List.drop_append_of_le_length (by rw [List.length_take]; omega)]; rfl
  rw [this, dval_snoc]

set_option maxHeartbeats 4000000 in
set_option maxRecDepth 100000 in
theorem readNat_any (s : ByteArray) (w : World) (hs : s.size ≤ 1000000) (hall : s.data.toList.all isD = true) : Calls Try.prog 102 #[.string s] w (RRet w (dval s.data.toList)) := by
  have hlen : s.data.toList.length = s.size := by rw [Array.length_toList]; rfl
  have HL := Lib.hid hlen
  have HS : Hid (s.size ≤ 1000000) := hs
  have HALL := Lib.hid hall
  have hnt : (s.size : Int).toNat = s.data.toList.length := by omega
  have HNT := Lib.hid hnt
  clear hs hall hlen hnt
  go_enter Try.func102, Try.ntmps102
  go_wp2_with fail
  obtain ⟨i0, hi, hz0, hz1, hz2⟩ := info_parts Try.info3
  go_loopw [3, 4] (fun v3 ve wr => ∃ e : Int, ve = .int .i64 e ∧ e ≤ s.size ∧ -4 ≤ e ∧ Hid (ReadI s.data.toList w wr v3 e)) (fun _ ve _ => (intOf ve).toNat)
  case atStart => exact ⟨s.size, rfl, Int.le_refl _, by omega, [], World.ownsRow_nil _ _ _ _, Digs.nil _, by rw [HNT.out, List.take_of_length_le (Nat.le_refl _)]; simp [val], by rw [HL.out]; simp, Below.refl _ _⟩
  case round =>
    obtain ⟨e, rfl, he1, he2, hinv⟩ := hrel
    have Inv := Lib.hid hinv; clear hinv
    by_cases h0 : 0 < e
    · obtain ⟨E, rfl⟩ := Int.eq_ofNat_of_zero_le (show 0 ≤ e by omega)
      obtain ⟨l, hown, hd, hv, hl, hb⟩ := Inv.out.out
      have hES : E ≤ s.size := by omega
      have hE0 : 0 < E := by omega
      have hl2 : l.length ≤ 1000000 := by have := HL.out; have := HS.out; omega
      rw [show ((E : Int)).toNat = E from rfl] at hv
      have NX := Lib.hid (ReadI.next (by rw [HL.out]; exact hES) hE0 hv HALL.out)
      have HOWN := Lib.hid hown; have HD := Lib.hid hd; have HLL := Lib.hid hl; have HB := Lib.hid hb; have HES := Lib.hid hES
      have hw4 : wrap64 ((E : Int) - 4) = (E : Int) - 4 := by unfold wrap64; have := HS.out; omega
      clear hown hd hv hl hb he1 he2 h0 Inv hES
      go_wp2_with fail
      · have h4' : 4 ≤ E := by omega
        have e4 : (E : Int) - 4 = ((E - 4 : Nat) : Int) := by omega
        have H4 := Lib.hid h4'; clear h4'
        rw [e4]
        go_loopw [5, 6] (fun vd vi wk => ∃ (i : Nat), E - 4 ≤ i ∧ i ≤ E ∧ vd = .int .i64 ((dval ((s.data.toList.take i).drop (E - 4)) : Nat) : Int) ∧ vi = .int .i64 (i : Nat) ∧ wk = wr) (fun _ vi _ => E - (intOf vi).toNat)
        case atStart => exact ⟨E - 4, Nat.le_refl _, by omega, by rw [List.drop_of_length_le (by rw [List.length_take]; omega)]; rfl, rfl, rfl⟩
        case round =>
          obtain ⟨i, h1, h2, rfl, rfl, rfl⟩ := hrel
          by_cases hlt : i < E
          · have hi2 : i < s.size := by have := HES.out; omega
            have hgi : s.data.toList[i]? = some s[i] := by rw [List.getElem?_eq_getElem (by rw [HL.out]; exact hi2)]; rfl
            have hd2 : isD s[i] = true := List.all_eq_true.1 HALL.out _ (List.mem_of_getElem? hgi)
            simp only [isD, Bool.and_eq_true, decide_eq_true_eq] at hd2
            obtain ⟨hc1, hc2⟩ := hd2
            have hc1' : (48 : Int) ≤ (s[i].toNat : Int) := by omega
            have hc2' : (s[i].toNat : Int) ≤ 57 := by omega
            have hst := dval_step hlt (by rw [HL.out]; exact HES.out) hgi h1
            have hbd : dval ((s.data.toList.take i).drop (E - 4)) < 1000 := by
              have hall2 : ((s.data.toList.take i).drop (E - 4)).all isD = true := by
                have hs := HALL.out
                rw [List.all_eq_true] at hs ⊢
                exact fun x hx => hs x (List.mem_of_mem_take (List.mem_of_mem_drop hx))
              have h9 := dval_lt hall2
              have h8 : ((s.data.toList.take i).drop (E - 4)).length ≤ 3 := by rw [List.length_drop, List.length_take]; omega
              have h7 := Nat.pow_le_pow_right (show 0 < 10 by omega) h8
              have h6 : (10 : Nat) ^ 3 = 1000 := by decide
              omega
            have he : ((10 * dval ((s.data.toList.take i).drop (E - 4)) + (s[i].toNat - 48) : Nat) : Int) = 10 * (dval ((s.data.toList.take i).drop (E - 4)) : Int) + ((s[i].toNat : Int) - 48) := by omega
            have HST : Hid (((dval ((s.data.toList.take (i + 1)).drop (E - 4)) : Nat) : Int) = 10 * (dval ((s.data.toList.take i).drop (E - 4)) : Int) + ((s[i].toNat : Int) - 48)) := by show _ = _; rw [hst, he]
            clear hst he hgi hc1 hc2
            generalize dval ((s.data.toList.take i).drop (E - 4)) = d at *
            have hw : wrap64 ((i : Int) + 1) = ((i + 1 : Nat) : Int) := by unfold wrap64; have := HS.out; omega
            have HW := Lib.hid hw; clear hw
            have H1 := Lib.hid h1; have H2 := Lib.hid h2; clear h1 h2
            go_wp2_with fail
            go_roundw
            case rel => exact ⟨i + 1, by have := H1.out; omega, hlt, congrArg (Value.int .i64) HST.out.symm, by first | exact congrArg (Value.int .i64) HW.out | go_num, by first | trivial | rfl⟩
            case measure => first | (rw [HW.out]; simp [intOf]; omega) | (simp [intOf]; omega)
          · have hiE : i = E := by omega
            rw [hiE]
            obtain ⟨nx1, nx2⟩ := NX.out
            have NX2 := Lib.hid nx2
            generalize dval ((s.data.toList.take E).drop (E - 4)) = d at *
            have hw5 : wrap64 ((E - 4 : Nat) : Int) = ((E - 4 : Nat) : Int) := by unfold wrap64; have := HS.out; have := HES.out; omega
            have hnE : ¬ E < E := Nat.lt_irrefl E
            clear nx2 NX h1 h2 hlt hiE
            go_wp2_with (at_builtin; refine wpList_append_own _ rfl (.tmp 29) (.tmp 31) 58 rfl w.heap.size 3 i0 (.int .i64 0) 1 8 Try.underlying58 hi hz0 hz1 hz2 rfl (by decide) _ l.length _ rfl (HOWN.out.alloc _) ⟨wr.heap.size, 0, none⟩ 1 1 (nl .i64 [d]) rfl rfl (one_celli wr d 3) (by intro u hu; simp [nl] at hu; subst hu; rfl) (by unfold maxLen; omega) (by omega) (by simp; have := HB.out.size; omega) ?_; intro v' w1 hown1 hgrow1 _)
            go_roundw
            case rel =>
              refine ⟨((E - 4 : Nat) : Int), by first | rfl | rw [hw5], by have := HES.out; omega, by omega, ?_⟩
              show ReadI _ _ _ _ _
              refine ⟨l ++ [d], ?_, HD.out.snoc nx1, ?_, ?_, (HB.out.alloc HB.out.size _).grown hgrow1 (by simp; have := HB.out.size; omega) (fun k hk => (HOWN.out.lt k hk).1)⟩
              · rw [List.length_append, nl_append]; exact hown1
              · rw [List.length_append, List.length_singleton]; have := NX2.out; first | exact this | (rw [e4] at this; exact this)
              · rw [List.length_append, List.length_singleton]; have := HLL.out; omega
            case measure => first | (rw [hw5]; simp [intOf]; omega) | (simp [intOf]; omega) | (rw [hw4]; simp [intOf]; omega)
      · have h4' : E ≤ 4 := by omega
        have H4 := Lib.hid h4'; clear h4'
        go_loopw [5, 6] (fun vd vi wk => ∃ (i : Nat), E - 4 ≤ i ∧ i ≤ E ∧ vd = .int .i64 ((dval ((s.data.toList.take i).drop (E - 4)) : Nat) : Int) ∧ vi = .int .i64 (i : Nat) ∧ wk = wr) (fun _ vi _ => E - (intOf vi).toNat)
        case atStart => exact ⟨E - 4, Nat.le_refl _, by omega, by rw [List.drop_of_length_le (by rw [List.length_take]; omega)]; rfl, by rw [show E - 4 = 0 from by omega]; rfl, rfl⟩
        case round =>
          obtain ⟨i, h1, h2, rfl, rfl, rfl⟩ := hrel
          by_cases hlt : i < E
          · have hi2 : i < s.size := by have := HES.out; omega
            have hgi : s.data.toList[i]? = some s[i] := by rw [List.getElem?_eq_getElem (by rw [HL.out]; exact hi2)]; rfl
            have hd2 : isD s[i] = true := List.all_eq_true.1 HALL.out _ (List.mem_of_getElem? hgi)
            simp only [isD, Bool.and_eq_true, decide_eq_true_eq] at hd2
            obtain ⟨hc1, hc2⟩ := hd2
            have hc1' : (48 : Int) ≤ (s[i].toNat : Int) := by omega
            have hc2' : (s[i].toNat : Int) ≤ 57 := by omega
            have hst := dval_step hlt (by rw [HL.out]; exact HES.out) hgi h1
            have hbd : dval ((s.data.toList.take i).drop (E - 4)) < 1000 := by
              have hall2 : ((s.data.toList.take i).drop (E - 4)).all isD = true := by
                have hs := HALL.out
                rw [List.all_eq_true] at hs ⊢
                exact fun x hx => hs x (List.mem_of_mem_take (List.mem_of_mem_drop hx))
              have h9 := dval_lt hall2
              have h8 : ((s.data.toList.take i).drop (E - 4)).length ≤ 3 := by rw [List.length_drop, List.length_take]; omega
              have h7 := Nat.pow_le_pow_right (show 0 < 10 by omega) h8
              have h6 : (10 : Nat) ^ 3 = 1000 := by decide
              omega
            have he : ((10 * dval ((s.data.toList.take i).drop (E - 4)) + (s[i].toNat - 48) : Nat) : Int) = 10 * (dval ((s.data.toList.take i).drop (E - 4)) : Int) + ((s[i].toNat : Int) - 48) := by omega
            have HST : Hid (((dval ((s.data.toList.take (i + 1)).drop (E - 4)) : Nat) : Int) = 10 * (dval ((s.data.toList.take i).drop (E - 4)) : Int) + ((s[i].toNat : Int) - 48)) := by show _ = _; rw [hst, he]
            clear hst he hgi hc1 hc2
            generalize dval ((s.data.toList.take i).drop (E - 4)) = d at *
            have hw : wrap64 ((i : Int) + 1) = ((i + 1 : Nat) : Int) := by unfold wrap64; have := HS.out; omega
            have HW := Lib.hid hw; clear hw
            have H1 := Lib.hid h1; have H2 := Lib.hid h2; clear h1 h2
            go_wp2_with fail
            go_roundw
            case rel => exact ⟨i + 1, by have := H1.out; omega, hlt, congrArg (Value.int .i64) HST.out.symm, by first | exact congrArg (Value.int .i64) HW.out | go_num, by first | trivial | rfl⟩
            case measure => first | (rw [HW.out]; simp [intOf]; omega) | (simp [intOf]; omega)
          · have hiE : i = E := by omega
            rw [hiE]
            obtain ⟨nx1, nx2⟩ := NX.out
            have NX2 := Lib.hid nx2
            generalize dval ((s.data.toList.take E).drop (E - 4)) = d at *
            have hw5 : wrap64 ((E - 4 : Nat) : Int) = ((E - 4 : Nat) : Int) := by unfold wrap64; have := HS.out; have := HES.out; omega
            have hnE : ¬ E < E := Nat.lt_irrefl E
            clear nx2 NX h1 h2 hlt hiE
            go_wp2_with (at_builtin; refine wpList_append_own _ rfl (.tmp 29) (.tmp 31) 58 rfl w.heap.size 3 i0 (.int .i64 0) 1 8 Try.underlying58 hi hz0 hz1 hz2 rfl (by decide) _ l.length _ rfl (HOWN.out.alloc _) ⟨wr.heap.size, 0, none⟩ 1 1 (nl .i64 [d]) rfl rfl (one_celli wr d 3) (by intro u hu; simp [nl] at hu; subst hu; rfl) (by unfold maxLen; omega) (by omega) (by simp; have := HB.out.size; omega) ?_; intro v' w1 hown1 hgrow1 _)
            go_roundw
            case rel =>
              refine ⟨(E : Int) - 4, by first | rfl | rw [hw5] | rw [hw4], by have := HES.out; omega, by omega, ?_⟩
              show ReadI _ _ _ _ _
              refine ⟨l ++ [d], ?_, HD.out.snoc nx1, ?_, ?_, (HB.out.alloc HB.out.size _).grown hgrow1 (by simp; have := HB.out.size; omega) (fun k hk => (HOWN.out.lt k hk).1)⟩
              · rw [List.length_append, nl_append]; exact hown1
              · rw [List.length_append, List.length_singleton]; have := NX2.out; first | exact this | (rw [e4] at this; exact this)
              · rw [List.length_append, List.length_singleton]; have := HLL.out; omega
            case measure => first | (rw [hw5]; simp [intOf]; omega) | (simp [intOf]; omega) | (rw [hw4]; simp [intOf]; omega)
    · obtain ⟨l, hown, hd, hv, hl, hb⟩ := Inv.out.out
      have h00 : e.toNat = 0 := by omega
      rw [h00, List.take_zero, dval_nil, Nat.mul_zero, Nat.add_zero] at hv
      have hr := Rep.own hown
      have hl2 : l.length ≤ 1000000000000 := by have := HL.out; have := HS.out; omega
      obtain ⟨oa, cap, rfl, -, -⟩ := id hr
      have HT := Lib.hid (rtrim_any hl2 hr)
      have HV := Lib.hid hv; have HD := Lib.hid hd; have HB := Lib.hid hb
      clear hown hd hv hl hb Inv hr hl2 he1 he2 h00
      have t0 : decide (0 < e) = false := decide_eq_false h0
      clear h0
      go_wp2_with fail
      refine HT.out.mono ?_; rintro e' w1 ⟨v', rfl, hv', rfl⟩
      have HV' := Lib.hid hv'; clear hv'
      go_wp2_with fail
      go_ret
      exact ⟨_, rfl, ⟨_, HV'.out, canon_trim HD.out, by rw [val_trim, ← HV.out]⟩, HB.out⟩
end Go.Proofs.Ytlkdahgfnfdakaa
