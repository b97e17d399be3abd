/- RatCommon: whatever list of at most 1048576 values and letters it is given, it returns true, and the list reads as it did. -/
import Derived.Test.YtlkdahgfnfdakaaLawC
import Derived.SliceStrings
import Derived.Carry
import Derived.JoinedCond
namespace Go.Proofs.Ytlkdahgfnfdakaa
open Go Go.RowKit Go.Shelf WN LM

theorem Own.nil {w : World} {B : Nat} (h : B ≤ w.heap.size) : Own w B (.slice none 0 0) [] := ⟨World.ownsRow_nil _ _ _ _, h⟩
theorem Own.strs {w : World} {B : Nat} {v : Value} {L : List ByteArray} (h : Own w B v L) : Strs w v L := by
  rcases Nat.eq_zero_or_pos L.length with h0 | h0
  · obtain ⟨o, cap, rfl⟩ := h.shape
    exact ⟨o, cap, rfl, fun i hi => by omega⟩
  · obtain ⟨g, cap, rfl, hc⟩ := h.get h0
    exact ⟨some ⟨g, 0, none⟩, cap, rfl, fun i hi => ⟨g, 0, rfl, by rw [Nat.zero_add]; exact hc i hi⟩⟩
set_option maxRecDepth 100000 in
theorem own_app2 {ops : Array Oper} {rest : List Oper} {o : Oper} {a : Act} {w : World} {Q : Exit → Act → World → Prop} (hgd : o.guard = none) (s x : Operand)
    (ho : o.op = .call { callee := .builtin .append, args := #[s, x], argTypes := #[38, 38] }) {B g : Nat} {v : Value} {L : List ByteArray} {t : ByteArray} (hs : a.eval s = v) (hown : Own w B v L)
    (hx : a.eval x = .slice (some ⟨g, 0, none⟩) 1 1) (hc : w.cell? ⟨g, 0, none⟩ = some (.string t)) (hL : L.length ≤ 100000000)
    (h : ∀ v' w', Own w' B v' (L ++ [t]) → (∀ W C, C ≤ B → Below C W w → Below C W w') → wpList Try.prog ops Q rest (a.put o.dst v') w') : wpList Try.prog ops Q (o :: rest) a w := by
  obtain ⟨i0, hi, hz0, hz1, hz2⟩ := info_parts Try.info9
  refine wpList_append_own w hgd s x 38 ho B 9 i0 (.string ⟨#[]⟩) 1 16 Try.underlying38 hi hz0 hz1 hz2 rfl (by omega) v L.length (L.map Value.string) hs hown.1 ⟨g, 0, none⟩ 1 1 [.string t] hx rfl ?_ (by intro u hu; simp at hu; subst hu; rfl) (by unfold maxLen; omega) (by omega) hown.2 ?_
  · intro j u hu
    match j, hu with
    | 0, hu => simp at hu; subst hu; exact hc
  · intro v' w' h1 h2 _
    refine h v' w' ⟨?_, Nat.le_trans hown.2 ((Below.refl B w).grown h2 hown.2 (fun k hk => (World.ownsRow.lt hown.1 k hk).1)).size⟩ fun W C hC hb => hb.grown h2 (Nat.le_trans hC hown.2) (fun k hk => Nat.le_trans hC (World.ownsRow.lt hown.1 k hk).1)
    rw [List.length_append, List.map_append]
    exact h1
set_option maxHeartbeats 4000000 in
set_option maxRecDepth 100000 in
theorem long_any {w : World} {v : Value} {L : List ByteArray} (hv : Strs w v L) (hn : L.length ≤ 1000000000000) : Calls Try.prog 41 #[v] w fun e w' => ∃ b : Bool, e = .returned (.bool b) ∧ w' = w := by
  obtain ⟨oa, cap, rfl, hcell⟩ := hv
  have HC := Lib.hid hcell; clear hcell
  obtain ⟨n, hl⟩ : ∃ n, L.length = n := ⟨_, rfl⟩
  rw [hl] at hn
  rw [hl]
  have HL := Lib.hid hl; have HN := Lib.hid hn; clear hl hn
  go_enter Try.func41, Try.ntmps41
  go_wp2_with fail
  go_loopw [3, 4] (fun v3 v4 wr => ∃ (z : Int) (i : Nat), i ≤ n ∧ v3 = .int .i64 z ∧ v4 = .int .i64 (i : Nat) ∧ wr = w) (fun _ vi _ => n - (intOf vi).toNat)
  case atStart => exact ⟨0, 0, Nat.zero_le _, rfl, rfl, rfl⟩
  case round =>
    obtain ⟨z, i, hi, rfl, rfl, rfl⟩ := hrel
    have hw : wrap64 ((i : Int) + 1) = ((i + 1 : Nat) : Int) := by unfold wrap64; have := HN.out; omega
    have HW := Lib.hid hw; clear hw
    by_cases hlt : i < n
    · obtain ⟨b, off, rfl, hc⟩ := HC.out i (by have := HL.out; omega)
      go_wp2_with fail
      go_roundw
      case rel => exact ⟨_, i + 1, hlt, rfl, congrArg (Value.int .i64) HW.out, by first | trivial | rfl⟩
      case measure => rw [HW.out]; simp [intOf]; omega
    · go_wp2_with fail
      go_ret
      exact ⟨_, rfl, rfl⟩

/-- what the rounds have made: the quotients of the first i -/
def Quos (C : Q3) (qs : List Q3) (P : List ByteArray) (i : Nat) : Prop := P.length = i ∧ ∀ j (hj : j < P.length) (hq : j < qs.length), IsV P[j] ((quoN C qs[j] : Nat) : Rat)
theorem Quos.snoc {C : Q3} {qs : List Q3} {P : List ByteArray} {i : Nat} {t : ByteArray} (h : Quos C qs P i) (hi : i < qs.length) (ht : IsV t ((quoN C qs[i] : Nat) : Rat)) : Quos C qs (P ++ [t]) (i + 1) := by
  obtain ⟨h1, h2⟩ := h
  refine ⟨by rw [List.length_append, List.length_singleton, h1], fun j hj hq => ?_⟩
  by_cases hlt : j < P.length
  · rw [List.getElem_append_left hlt]; exact h2 j hlt hq
  · have e : j = i := by rw [List.length_append, List.length_singleton] at hj; omega
    subst e
    rw [List.getElem_append_right (by omega)]
    simpa using ht
theorem keep1 {w w' : World} {a : Addr} {x : Value} (h : w.cell? a = some x) (hb : Below w.heap.size w w') : w'.cell? a = some x := (hb.cell (World.block_lt_of_cell? w a h)).trans h

set_option maxHeartbeats 8000000 in
set_option maxRecDepth 100000 in
theorem common_law (w : World) (v : Value) (L : List ByteArray) (hv : Strs w v L) (hn : L.length ≤ 2000000) (hs : ∀ s ∈ L, s.size ≤ 140737488355328) : Calls Try.prog 14 #[v] w (TrueB w) := by
  have AL : Hid (∀ w, Calls Try.prog 20 #[] w fun e w' => e = .returned (.bool true) ∧ Below w.heap.size w w') := alive_any
  have LG := Lib.hid (long_any hv (by omega))
  have CO : Hid (∀ w', Below w.heap.size w w' → Calls Try.prog 46 #[v] w' (OutS w' (comT L))) := fun w' hb => common_any (hv.go hb) (by omega) hs
  have HV := Lib.hid hv
  have HS := Lib.hid hs; have HLN := Lib.hid hn
  obtain ⟨oa, cap, rfl, -⟩ := hv
  clear hs hn
  by_cases he : (comT L).2 = 0
  · obtain ⟨qs, C, hl, h0, hr, hq, hC, hc⟩ := com_good he
    have CO2 : Hid (∀ w v P, Strs w v P → Quos C qs P qs.length → Calls Try.prog 46 #[v] w (OutS w (⟨#[49]⟩, 0))) := fun w v P hP hQ => by
      have hqs : ∀ s ∈ P, s.size ≤ 140737488355328 := fun s hm => by
        obtain ⟨j, hj, rfl⟩ := List.getElem_of_mem hm
        exact Nat.le_trans (isV_size (hQ.2 j hj (by rw [← hQ.1]; exact hj))) (by omega)
      have := common_any hP (by rw [hQ.1, hl]; have := HLN.out; omega) hqs
      rwa [com_parts hC hq hQ.1 (by rw [hl]; exact h0) (fun i hi hj => hQ.2 i hi hj)] at this
    have hcs : (comT L).1.size ≤ 140737488355328 := Nat.le_trans (isV_size ⟨C, hc, rfl⟩) (by omega)
    have IT : Hid (∀ i (hi : i < L.length), ∃ (t q : ByteArray) (gc : Int), (∃ b off, oa = some ⟨b, off, none⟩ ∧ w.cell? ⟨b, off + i, none⟩ = some (.string t)) ∧ (∀ w, Calls Try.prog 50 #[.string t, .string (comT L).1] w (OutB w (true, 0))) ∧ (∀ w, Calls Try.prog 29 #[.string t, .string (comT L).1] w (OutS w (q, gc))) ∧ (gc = 0 → ∀ P, Quos C qs P i → Quos C qs (P ++ [q]) (i + 1))) := fun i hi => by
      obtain ⟨oa', cap', e, hcell⟩ := HV.out
      injection e with e1 _ _
      subst e1
      have hiq : i < qs.length := by rw [hl]; exact hi
      have hm := List.getElem_mem hiq
      obtain ⟨k1, k2⟩ := com_item hC hm (hq _ hm) (hr i hi hiq) hc
      have st := HS.out _ (List.getElem_mem hi)
      refine ⟨L[i], (divT L[i] (comT L).1).1, (divT L[i] (comT L).1).2, hcell i hi, fun w => ?_, fun w => div_any w _ _ st hcs, fun hg P hP => hP.snoc hiq (k2 hg)⟩
      have := multiple_any w L[i] (comT L).1 st hcs
      have e2 : twoG (false, (1 : Int)) multF L[i] (comT L).1 = (true, 0) := k1
      rwa [e2] at this
    have hlq : qs.length = L.length := hl
    clear hr hq hC hc hcs HS hl
    generalize comT L = r_ at *; obtain ⟨c, e⟩ := r_
    obtain rfl : e = 0 := he
    have HLQ := Lib.hid hlq; clear hlq
    obtain ⟨n, hl⟩ : ∃ n, L.length = n := ⟨_, rfl⟩
    rw [hl] at h0
    rw [hl]
    have HL := Lib.hid hl; clear hl
    have h0' : decide (0 < (n : Int)) = true := decide_eq_true (by omega)
    have H0 := Lib.hid h0'; clear h0 h0'
    replace CO : Hid (∀ w', Below w.heap.size w w' → Calls Try.prog 46 #[.slice oa n cap] w' (OutS w' (c, 0))) := by
      have := CO.out; rw [HL.out] at this; exact this
    replace LG : Hid (Calls Try.prog 41 #[.slice oa n cap] w fun e w' => ∃ b : Bool, e = .returned (.bool b) ∧ w' = w) := by
      have := LG.out; rw [HL.out] at this; exact this
    replace IT : Hid (∀ i (hi : i < L.length), ∃ (t q : ByteArray) (gc : Int), (∃ b off, oa = some ⟨b, off, none⟩ ∧ w.cell? ⟨b, off + i, none⟩ = some (.string t)) ∧ (∀ w, Calls Try.prog 50 #[.string t, .string c] w (OutB w (true, 0))) ∧ (∀ w, Calls Try.prog 29 #[.string t, .string c] w (OutS w (q, gc))) ∧ (gc = 0 → ∀ P, Quos C qs P i → Quos C qs (P ++ [q]) (i + 1))) := IT
    clear HV
    go_enter Try.func14, Try.ntmps14
    go_wp2_with fail
    refine LG.out.mono ?_; rintro e w1 ⟨b, rfl, rfl⟩
    cases b
    · go_wp2_with fail
      refine (CO.out _ (Below.refl _ _)).mono ?_; rintro e w2 ⟨rfl, hb2⟩
      have B2 := Lib.hid hb2; clear hb2 LG CO
      go_wp2_with fail
      go_loopw [5, 6] (fun v5 v6 wr => ∃ (i : Nat) (P : List ByteArray), i ≤ n ∧ v6 = .int .i64 (i : Nat) ∧ Hid (Own wr w1.heap.size v5 P) ∧ Hid (Quos C qs P i) ∧ Hid (Below w1.heap.size w1 wr)) (fun _ vi _ => n - (intOf vi).toNat)
      case atStart => exact ⟨0, [], Nat.zero_le _, rfl, Own.nil B2.out.size, ⟨rfl, fun j hj => by simp at hj⟩, B2.out⟩
      case round =>
        obtain ⟨i, P, hi, rfl, HO, HQ, hbel⟩ := hrel
        have hw : wrap64 ((i : Int) + 1) = ((i + 1 : Nat) : Int) := by unfold wrap64; have := HLN.out; have := HL.out; omega
        have HW := Lib.hid hw; clear hw
        obtain ⟨o5, c5, rfl⟩ := HO.out.shape
        by_cases hlt : i < n
        · obtain ⟨t, q, gc, ⟨b, off, rfl, hc⟩, M1, D1, N1⟩ := IT.out i (by have := HL.out; omega)
          have M2 := Lib.hid M1; have D2 := Lib.hid D1; have N2 := Lib.hid N1
          have HC0 := Lib.hid hc
          clear M1 D1 N1 hc
          have c0 := keep1 HC0.out (hbel.out)
          go_wp2_with fail
          refine (M2.out _).mono ?_; rintro e w3 ⟨rfl, hb3⟩
          have B3 := Lib.hid (hbel.out.trans (hb3.mono hbel.out.size))
          have HO3 := Lib.hid (HO.out.go hb3)
          clear c0 hb3
          have c0 := keep1 HC0.out B3.out
          go_wp2_with fail
          refine (D2.out _).mono ?_; rintro e w4 ⟨rfl, hb4⟩
          have B4 := Lib.hid (B3.out.trans (hb4.mono B3.out.size))
          have HO4 := Lib.hid (HO3.out.go hb4)
          clear c0 hb4 M2 D2 B3 HO3
          by_cases hg : gc = 0
          · subst hg
            have HQ2 := Lib.hid (N2.out rfl P HQ.out)
            clear N2
            go_wp2_with (at_builtin; refine own_app2 rfl (.tmp 61) (.tmp 63) rfl rfl (HO4.out.go (below_alloc w4 (.cells #[.string q] 9))) rfl (cell_of_one (heap_alloc_new w4 _)) (by have := HQ.out.1; have := HLN.out; have := HL.out; omega) ?_; intro v' w' hO hB; have HO5 := Lib.hid hO; have HB5 := Lib.hid (hB w1 w1.heap.size (Nat.le_refl _) (B4.out.trans ((below_alloc w4 (.cells #[.string q] 9)).mono B4.out.size))); clear hO hB)
            go_roundw
            case rel => exact ⟨i + 1, P ++ [q], hlt, congrArg (Value.int .i64) HW.out, HO5.out, HQ2.out, HB5.out⟩
            case measure => rw [HW.out]; simp [intOf]; omega
          · have tg : (gc != 0) = true := by rw [bne_iff_ne]; exact hg
            clear hg N2
            go_wp2_with fail
            refine (AL.out _).mono ?_; rintro e w5 ⟨rfl, hb5⟩
            have B5 := Lib.hid (B4.out.trans (hb5.mono B4.out.size)); clear hb5
            go_wp2_with fail
            go_ret
            exact ⟨rfl, B5.out⟩
        · obtain rfl : i = n := by omega
          have CP : Hid (∀ w, Strs w (.slice o5 P.length c5) P → Calls Try.prog 46 #[.slice o5 P.length c5] w (OutS w (⟨#[49]⟩, 0))) := fun w hP => CO2.out w _ P hP (by have h := HQ.out; have h1 := HLQ.out; have h2 := HL.out; rw [h1, h2]; exact h)
          have h0 : 0 < i := by have := of_decide_eq_true H0.out; omega
          go_wp2_with fail
          refine (CP.out _ HO.out.strs).mono ?_; rintro e w3 ⟨rfl, hb3⟩
          have B3 := Lib.hid (hbel.out.trans (hb3.mono hbel.out.size)); clear hb3
          go_wp2_with fail
          refine (AL.out _).mono ?_; rintro e w4 ⟨rfl, hb4⟩
          have B4 := Lib.hid (B3.out.trans (hb4.mono B3.out.size)); clear hb4
          go_wp2_with fail
          go_ret
          exact ⟨rfl, B4.out⟩
    · go_wp2_with fail
      refine (AL.out _).mono ?_; rintro e w2 ⟨rfl, hb2⟩
      have B2 := Lib.hid hb2; clear hb2
      go_wp2_with fail
      go_ret
      exact ⟨rfl, B2.out⟩
  · have hc0 := com_bad he
    have hne : ((comT L).2 != 0) = true := by rw [bne_iff_ne]; exact he
    clear he HS HV HLN
    generalize comT L = r_ at *; obtain ⟨c, e⟩ := r_
    obtain rfl : c = ⟨#[]⟩ := hc0
    replace hne : (e != 0) = true := hne
    generalize L.length = n at *
    go_enter Try.func14, Try.ntmps14
    go_wp2_with fail
    refine LG.out.mono ?_; rintro e' w1 ⟨b, rfl, rfl⟩
    cases b
    · go_wp2_with fail
      refine (CO.out _ (Below.refl _ _)).mono ?_; rintro e' w2 ⟨rfl, hb2⟩
      have B2 := Lib.hid hb2; clear hb2
      go_wp2_with fail
      refine (AL.out _).mono ?_; rintro e' w3 ⟨rfl, hb3⟩
      have B3 := Lib.hid (bstep B2.out hb3); clear hb3
      go_wp2_with fail
      go_ret
      exact ⟨rfl, B3.out⟩
    · go_wp2_with fail
      refine (AL.out _).mono ?_; rintro e' w2 ⟨rfl, hb2⟩
      have B2 := Lib.hid hb2; clear hb2
      go_wp2_with fail
      go_ret
      exact ⟨rfl, B2.out⟩

end Go.Proofs.Ytlkdahgfnfdakaa

namespace Go.Proofs.Ytlkdahgfnfdakaa
open Go.ChangeShapes Go.WideShapes Go.ChangeAt Go.RowKit
open Go.ChangeMaps (open_string shut_string)

theorem Try.laidOut : laidOutB Try.prog = true := by kernel_rfl
theorem bulk_texts {H : Type} : ∀ l : List ByteArray, l.length ≤ Rows.uptoBulkAll (l.map fun s => DataW.lit (H := H) (.string s.data.toList)) ∧ ∀ s ∈ l, s.size ≤ Rows.uptoBulkAll (l.map fun s => DataW.lit (H := H) (.string s.data.toList))
  | [] => ⟨by simp, fun s h => by cases h⟩
  | t :: l => by
    obtain ⟨h1, h2⟩ := bulk_texts (H := H) l
    simp only [List.map_cons, Rows.uptoBulkAll, Rows.uptoBulk, List.length_cons]
    have ht : t.size = t.data.toList.length := by rw [Array.length_toList]; rfl
    refine ⟨by omega, fun s hs => ?_⟩
    rcases List.mem_cons.1 hs with rfl | hs
    · omega
    · have := h2 s hs; omega

set_option maxRecDepth 100000 in
theorem common_contract (H : Type) (enc : TypeId × Value → H) (W : World) (base : Nat) (args : Array Value) (ds gs : List (DataW H)) (before : List MemPlace)
    (hval0 : ∀ (j : Nat) t v, Try.f14.params[j]? = some t → args[j]? = some v → Value.okWide Try.prog W .any base t v)
    (hW : DataW.Whole enc Try.prog Try.f14.params.toList Rows.ratCommonSpec.vars false W args.toList ds gs before) (hk : Rows.uptoSmall H (ds ++ gs) = true) :
    Calls Try.prog 14 args W fun e W' => ∃ v, e = .returned v ∧ Rows.ratCommonSpec.post enc Try.prog Try.f14 false true false false W args v W' := by
  have hval : ∀ (j : Nat) t v, Try.f14.params[j]? = some t → args[j]? = some v → Value.okWide Try.prog W .any base t v := hval0
  have hW1 := hW
  obtain ⟨p, q, hA0, hV, rfl, hfz, hnd⟩ := hW
  have hA : DataW.TrodAll enc Try.prog W 0 (fun _ => true) true Try.f14.params.toList args.toList ds p := hA0
  rw [Try.params14] at hA hval
  obtain ⟨v0, d0, rfl, rfl, h0⟩ := trodAll_one hA
  obtain ⟨rfl, rfl⟩ := trodVars_none hV
  have h0k := h0
  obtain ⟨fuel, hf⟩ := h0
  clear hA0 hval0
  simp only [List.append_nil] at hW1
  have hlt : ∀ x ∈ p, x.block < W.heap.size := fun x hx => by simpa using hW1.lt x hx
  have hargs : ∀ (W' : World), Below W.heap.size W W' → DataW.Trod enc Try.prog W' 0 (fun b => decide (b < W.heap.size)) true 38 v0 d0 p :=
    fun W' hn => Below.trod Try.laidOut (by kernel_rfl) (of_decide_eq_true (by kernel_rfl)) h0k hn hlt
  obtain ⟨a0, len, cap, rfl⟩ := okWide_slice Try.underlying38 (hval 0 38 v0 rfl rfl)
  have main : ∃ L, Strs W (.slice a0 len cap) L ∧ L.length ≤ 2000000 ∧ ∀ s ∈ L, s.size ≤ 140737488355328 := by
    rcases open_strings Try.underlying38 Try.underlying9 (by kernel_rfl) hf with ⟨hcs, hx⟩ | ⟨a, len', cap', ss, hcs, _, hl, hm, hss, hx, hcell, hsz⟩
    · simp [Value.cells] at hcs
      obtain ⟨rfl, rfl, rfl⟩ := hcs
      exact ⟨[], ⟨none, 0, rfl, fun i hi => by simp at hi⟩, by simp, fun s h => by cases h⟩
    · simp [Value.cells] at hcs
      obtain ⟨rfl, rfl, rfl⟩ := hcs
      simp only [Prod.mk.injEq] at hx
      have hd : d0 = .slice (strs (ss.take len)) (strs (ss.drop len)) := hx.1
      have hss2 : ss.length = cap := by simpa using hss
      have hlen : (ss.take len).length = len := by rw [List.length_take]; omega
      have hb : Rows.uptoBulkAll (strs (H := H) (ss.take len)) ≤ 1048576 := by
        have h := of_decide_eq_true hk
        rw [hd] at h
        simp only [List.append_nil, Rows.uptoBulkAll, Rows.uptoBulk] at h
        omega
      obtain ⟨b1, b2⟩ := bulk_texts (H := H) (ss.take len)
      have e : strs (H := H) (ss.take len) = (ss.take len).map fun s => DataW.lit (H := H) (.string s.data.toList) := rfl
      rw [e] at hb
      refine ⟨ss.take len, ⟨some a, cap, by rw [hlen], fun i hi => ?_⟩, by omega, fun s hs => by have := b2 s hs; omega⟩
      rw [hlen] at hi
      have hc := hcell i (by omega)
      obtain ⟨b, off, spot⟩ := a
      have hspot : spot = none := by
        have h := World.cell?_spot (hcell 0 (by omega))
        simpa [Addr.add] using h
      subst hspot
      have ea : (⟨b, off, none⟩ : Addr).add i = ⟨b, off + i, none⟩ := by
        unfold Addr.add
        split
        · rename_i h; subst h; rfl
        · rfl
      refine ⟨b, off, rfl, ?_⟩
      rw [List.getElem_take]
      rw [ea] at hc
      simpa [List.getD, List.getElem?_eq_getElem (show i < ss.length by omega)] using hc
  obtain ⟨L, h1, h2, h3⟩ := main
  refine (common_law W _ L h1 h2 h3).mono fun e W1 ⟨he, hw⟩ => ?_
  subst he
  exact ⟨_, rfl, ⟨_, _, _, [], _, [], hW1, trodAll_mk1 (shut_bool Try.underlying4 true), trodAll_mk1 (hargs _ hw), rfl, hw.frame _, fun h => by cases h⟩⟩

set_option maxRecDepth 100000 in
theorem common_lifted (os : Os) (started : os.Started) (H : Type) (enc : TypeId × Value → H) (F : Stop.Interp) :
    ReturnsInHanded {} Try.checked os 14 .any ((Rows.OpenSpec.upto Rows.ratCommonSpec).pre6 enc Try.prog Try.f14 Rows.ratCommonUptoRow.domain false) (((Rows.OpenSpec.upto Rows.ratCommonSpec).at F).post enc Try.prog Try.f14 false true false false) := by
  refine returnsInHanded_of_cond (C := Try.checked) (s := Rows.OpenSpec.upto Rows.ratCommonSpec) (k := Rows.uptoSmall) rfl Try.own started (by kernel_rfl) Try.func14
    (OpenSpec.witness (enc := enc) (C := Try.checked) (s := Rows.OpenSpec.upto Rows.ratCommonSpec) (k := Rows.uptoSmall) rfl false ⟨#[], #[.slice none 0 0], []⟩ 8 (by kernel_rfl) (by kernel_rfl) (by kernel_rfl)
      (x := ([.nil], [], [])) (by kernel_rfl) rfl (by kernel_rfl)) ?_
  intro W base args ds gs before hval hW _ hk _
  exact common_contract H enc W base args ds gs before hval hW hk

theorem common_holds : Rows.RatCommonUptoSaid :=
  OpenClaim.holds_of_cond 14 Try.f14 rfl rfl rfl rfl rfl rfl rfl ⟨rfl, rfl, rfl, rfl, rfl⟩ rfl rfl rfl rfl rfl (by kernel_rfl) Try.func14 (by kernel_rfl)
    (of_decide_eq_true (by kernel_rfl)) (by unfold Func.isWrapper; first | (rw [if_pos (by decide +kernel)]; kernel_rfl) | (rw [if_neg (by decide +kernel)]; exact ⟨rfl, rfl⟩))
    (fun os started H enc _ F => common_lifted os started H enc F)
end Go.Proofs.Ytlkdahgfnfdakaa
