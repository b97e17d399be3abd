/- RatLists: whatever two lists of at most 1048576 values and letters together it is given, it returns true, and the lists read as they did. -/
import Derived.Test.YtlkdahgfnfdakaaLstP
import Derived.Test.YtlkdahgfnfdakaaCommon
namespace Go.Proofs.Ytlkdahgfnfdakaa
open Go Go.RowKit Go.Shelf WN LM

set_option maxHeartbeats 4000000 in
set_option maxRecDepth 100000 in
theorem long_tot {w : World} {v : Value} {L : List ByteArray} (hv : Strs w v L) (hn : L.length ≤ 2000000) (hs : ∀ s ∈ L, s.size ≤ 2000000) : Calls Try.prog 41 #[v] w fun e w' => e = .returned (.bool (decide (1200 < tot L))) ∧ w' = w := by
  have hT : tot L ≤ 4000008000000 := by
    have h1 := tot_le L 2000000 hs
    have h2 := Nat.mul_le_mul_left (4 + 2000000) hn
    omega
  have HT := Lib.hid hT
  have HS := Lib.hid hs
  obtain ⟨oa, cap, rfl, hcell⟩ := hv
  have HC := Lib.hid hcell; clear hcell hT hs
  obtain ⟨n, hl⟩ : ∃ n, L.length = n := ⟨_, rfl⟩
  rw [hl] at hn
  rw [hl]
  have HL := Lib.hid hl; have HN := Lib.hid hn; clear hl hn
  go_enter Try.func41, Try.ntmps41
  go_wp2_with fail
  go_loopw [3, 4] (fun v3 v4 wr => ∃ (z : Int) (i : Nat), i ≤ n ∧ v3 = .int .i64 z ∧ v4 = .int .i64 (i : Nat) ∧ wr = w ∧ Hid (z = ((tot (L.take i) : Nat) : Int))) (fun _ vi _ => n - (intOf vi).toNat)
  case atStart => exact ⟨0, 0, Nat.zero_le _, rfl, rfl, rfl, by show (0 : Int) = _; rw [List.take_zero]; rfl⟩
  case round =>
    obtain ⟨z, i, hi, rfl, rfl, rfl, hz⟩ := hrel
    have HZ := Lib.hid hz.out; clear hz
    have hw : wrap64 ((i : Int) + 1) = ((i + 1 : Nat) : Int) := by unfold wrap64; have := HN.out; omega
    have HW := Lib.hid hw; clear hw
    by_cases hlt : i < n
    · have hli : i < L.length := by rw [HL.out]; exact hlt
      obtain ⟨b, off, rfl, hc⟩ := HC.out i hli
      have NX : Hid (wrap64 (wrap64 (z + 4) + (L[i].size : Int)) = ((tot (L.take (i + 1)) : Nat) : Int)) := by
        show _ = _
        have h1 := tot_take L i hli
        have h2 := tot_mono L (i + 1)
        have h3 := HT.out
        rw [HZ.out]
        have e1 : wrap64 (((tot (L.take i) : Nat) : Int) + 4) = ((tot (L.take i) : Nat) : Int) + 4 := by unfold wrap64; omega
        rw [e1]
        unfold wrap64; omega
      clear HZ
      generalize L[i] = s at *
      have HLT := Lib.hid hlt
      go_wp2_with fail
      go_roundw
      case rel => exact ⟨_, i + 1, HLT.out, rfl, by first | exact congrArg (Value.int .i64) HW.out | go_num, by first | trivial | rfl, NX.out⟩
      case measure => have := HLT.out; first | (rw [HW.out]; simp [intOf]; omega) | (simp [intOf]; omega)
    · have hz : z = ((tot L : Nat) : Int) := by
        have h1 := HZ.out
        rwa [List.take_of_length_le (by have := HL.out; omega)] at h1
      have HB : Hid (decide (1200 < z) = decide (1200 < tot L)) := by
        show _ = _
        rw [hz]
        by_cases h : 1200 < tot L
        · rw [decide_eq_true h, decide_eq_true (by omega)]
        · rw [decide_eq_false h, decide_eq_false (by omega)]
      clear hz HZ
      go_wp2_with fail
      go_ret
      exact ⟨by rw [← HB.out]; rfl, rfl⟩
theorem tot_len (L : List ByteArray) : 4 * L.length ≤ tot L := by
  induction L with
  | nil => simp [tot]
  | cons s l ih => simp only [tot, List.length_cons]; omega

set_option maxHeartbeats 8000000 in
set_option maxRecDepth 100000 in
theorem lists_law (w : World) (v u : Value) (L M : List ByteArray) (hv : Strs w v L) (hu : Strs w u M) (hn : L.length ≤ 2000000) (hm : M.length ≤ 2000000) (hs : ∀ s ∈ L, s.size ≤ 2000000) (ht : ∀ s ∈ M, s.size ≤ 2000000) : Calls Try.prog 7 #[v, u] w (TrueB w) := by
  have AL : Hid (∀ w, Calls Try.prog 20 #[] w fun e w' => e = .returned (.bool true) ∧ Below w.heap.size w w') := alive_any
  have LA := Lib.hid (long_tot hv hn hs)
  have LB := Lib.hid (long_tot hu hm ht)
  by_cases ha : 1200 < tot L
  · rw [decide_eq_true ha] at LA
    clear ha hs ht hv hu hn hm
    go_enter Try.func7, Try.ntmps7
    go_wp2_with fail
    refine LA.out.mono ?_; rintro e w1 ⟨rfl, rfl⟩
    go_wp2_with fail
    refine (AL.out _).mono ?_; rintro e w2 ⟨rfl, hb2⟩
    have B2 := Lib.hid hb2; clear hb2
    go_wp2_with fail
    go_ret
    exact ⟨rfl, B2.out⟩
  · rw [decide_eq_false ha] at LA
    by_cases hb : 1200 < tot M
    · rw [decide_eq_true hb] at LB
      clear ha hb hs ht hv hu hn hm
      go_enter Try.func7, Try.ntmps7
      go_wp2_with fail
      refine LA.out.mono ?_; rintro e w1 ⟨rfl, rfl⟩
      go_wp2_with fail
      refine LB.out.mono ?_; rintro e w1 ⟨rfl, rfl⟩
      go_wp2_with fail
      refine (AL.out _).mono ?_; rintro e w2 ⟨rfl, hb2⟩
      have B2 := Lib.hid hb2; clear hb2
      go_wp2_with fail
      go_ret
      exact ⟨rfl, B2.out⟩
    · rw [decide_eq_false hb] at LB
      have n1 : L.length ≤ 1000000 := by have := tot_len L; omega
      have n2 : M.length ≤ 1000000 := by have := tot_len M; omega
      have n3 : readAll L ≠ none → L.length ≤ 240 := fun h => by
        cases hr : readAll L with
        | none => exact absurd hr h
        | some l => have := tot_read L l hr; omega
      have s1 : ∀ s ∈ L, s.size ≤ 140737488355328 := fun s h => Nat.le_trans (hs s h) (by omega)
      have s2 : ∀ s ∈ M, s.size ≤ 140737488355328 := fun s h => Nat.le_trans (ht s h) (by omega)
      have P0 : Hid (∀ W, Below w.heap.size w W → Calls Try.prog 42 #[v] W (OutS W (sumT L))) := fun W h => sum_any (hv.go h) n1 n3 s1
      have R0 : Hid (∀ W, Below w.heap.size w W → Calls Try.prog 43 #[v] W (OutS W (sumT L))) := fun W h => rSum_any (hv.go h) n1 n3 s1
      have P1 : Hid (∀ W, Below w.heap.size w W → Calls Try.prog 44 #[v, u] W (OutS W (dotT L M))) := fun W h => dot_any (hv.go h) (hu.go h) n1 n2 n3 s1 s2
      have R1 : Hid (∀ W, Below w.heap.size w W → Calls Try.prog 45 #[v, u] W (OutS W (dotT L M))) := fun W h => rDot_any (hv.go h) (hu.go h) n1 n2 n3 s1 s2
      have P2 : Hid (∀ W, Below w.heap.size w W → Calls Try.prog 46 #[v] W (OutS W (comT L))) := fun W h => common_any (hv.go h) (by omega) s1
      have R2 : Hid (∀ W, Below w.heap.size w W → Calls Try.prog 47 #[v] W (OutS W (comT L))) := fun W h => rCommon_any (hv.go h) n1 n3 s1
      clear ha hb hs ht hv hu hn hm n1 n2 n3 s1 s2
      generalize sumT L = r_ at *; obtain ⟨t0, c0⟩ := r_
      generalize dotT L M = r_ at *; obtain ⟨t1, c1⟩ := r_
      generalize comT L = r_ at *; obtain ⟨t2, c2⟩ := r_
      go_enter Try.func7, Try.ntmps7
      go_wp2_with fail
      refine LA.out.mono ?_; rintro e w1 ⟨rfl, rfl⟩
      go_wp2_with fail
      refine LB.out.mono ?_; rintro e w1 ⟨rfl, rfl⟩
      go_wp2_with fail
      refine (P0.out _ (Below.refl _ _)).mono ?_; rintro e w1 ⟨rfl, hb1⟩
      have B1 := Lib.hid hb1; clear hb1
      go_wp2_with fail
      refine (R0.out _ B1.out).mono ?_; rintro e w2 ⟨rfl, hb2⟩
      have B2 := Lib.hid (bstep B1.out hb2); clear hb2
      go_wp2_with fail
      refine (P1.out _ B2.out).mono ?_; rintro e w3 ⟨rfl, hb3⟩
      have B3 := Lib.hid (bstep B2.out hb3); clear hb3
      go_wp2_with fail
      refine (R1.out _ B3.out).mono ?_; rintro e w4 ⟨rfl, hb4⟩
      have B4 := Lib.hid (bstep B3.out hb4); clear hb4
      go_wp2_with fail
      refine (P2.out _ B4.out).mono ?_; rintro e w5 ⟨rfl, hb5⟩
      have B5 := Lib.hid (bstep B4.out hb5); clear hb5
      go_wp2_with fail
      refine (R2.out _ B5.out).mono ?_; rintro e w6 ⟨rfl, hb6⟩
      have B6 := Lib.hid (bstep B5.out hb6); clear hb6
      go_wp2_with fail
      refine (AL.out _).mono ?_; rintro e w7 ⟨rfl, hb7⟩
      have B7 := Lib.hid (bstep B6.out hb7); clear hb7
      go_wp2_with fail
      go_ret
      exact ⟨rfl, B7.out⟩
end Go.Proofs.Ytlkdahgfnfdakaa

namespace Go.Proofs.Ytlkdahgfnfdakaa
open Go.ChangeShapes Go.WideShapes Go.ChangeAt Go.RowKit
open Go.ChangeMaps (open_string shut_string)

set_option maxRecDepth 100000 in
/-- an argument that is a list of texts, of few values and letters -/
theorem texts_of {H : Type} {enc : TypeId × Value → H} {W : World} {v : Value} {d : DataW H} {p : List MemPlace} {base : Nat} (hval : Value.okWide Try.prog W .any base 38 v) (h : DataW.Trod enc Try.prog W 0 (fun _ => true) true 38 v d p) (hk : Rows.uptoBulk d ≤ 1048576) :
    ∃ L, Strs W v L ∧ L.length ≤ 2000000 ∧ ∀ s ∈ L, s.size ≤ 2000000 := by
  obtain ⟨fuel, hf⟩ := h
  obtain ⟨a0, len, cap, rfl⟩ := okWide_slice Try.underlying38 hval
  rcases open_strings Try.underlying38 Try.underlying9 (by kernel_rfl) hf with ⟨hcs, hx⟩ | ⟨a, len', cap', ss, hcs, _, hl, hm, hss, hx, hcell, hsz⟩
  · simp [Value.cells] at hcs
    obtain ⟨rfl, rfl, rfl⟩ := hcs
    exact ⟨[], ⟨none, 0, rfl, fun i hi => by simp at hi⟩, by simp, fun s h => by cases h⟩
  · simp [Value.cells] at hcs
    obtain ⟨rfl, rfl, rfl⟩ := hcs
    simp only [Prod.mk.injEq] at hx
    have hd : d = .slice (strs (ss.take len)) (strs (ss.drop len)) := hx.1
    have hss2 : ss.length = cap := by simpa using hss
    have hlen : (ss.take len).length = len := by rw [List.length_take]; omega
    have hb : Rows.uptoBulkAll (strs (H := H) (ss.take len)) ≤ 1048576 := by
      have h := hk
      rw [hd] at h
      simp only [Rows.uptoBulk] at h
      omega
    obtain ⟨b1, b2⟩ := bulk_texts (H := H) (ss.take len)
    have e : strs (H := H) (ss.take len) = (ss.take len).map fun s => DataW.lit (H := H) (.string s.data.toList) := rfl
    rw [e] at hb
    refine ⟨ss.take len, ⟨some a, cap, by rw [hlen], fun i hi => ?_⟩, by omega, fun s hs => by have := b2 s hs; omega⟩
    rw [hlen] at hi
    have hc := hcell i (by omega)
    obtain ⟨b, off, spot⟩ := a
    have hspot : spot = none := by
      have h := World.cell?_spot (hcell 0 (by omega))
      simpa [Addr.add] using h
    subst hspot
    have ea : (⟨b, off, none⟩ : Addr).add i = ⟨b, off + i, none⟩ := by
      unfold Addr.add
      split
      · rename_i h; subst h; rfl
      · rfl
    refine ⟨b, off, rfl, ?_⟩
    rw [List.getElem_take]
    rw [ea] at hc
    simpa [List.getD, List.getElem?_eq_getElem (show i < ss.length by omega)] using hc
set_option maxRecDepth 100000 in
theorem lists_contract (H : Type) (enc : TypeId × Value → H) (W : World) (base : Nat) (args : Array Value) (ds gs : List (DataW H)) (before : List MemPlace)
    (hval0 : ∀ (j : Nat) t v, Try.f7.params[j]? = some t → args[j]? = some v → Value.okWide Try.prog W .any base t v)
    (hW : DataW.Whole enc Try.prog Try.f7.params.toList Rows.ratListsSpec.vars false W args.toList ds gs before) (hk : Rows.uptoSmall H (ds ++ gs) = true) :
    Calls Try.prog 7 args W fun e W' => ∃ v, e = .returned v ∧ Rows.ratListsSpec.post enc Try.prog Try.f7 false true false false W args v W' := by
  have hval : ∀ (j : Nat) t v, Try.f7.params[j]? = some t → args[j]? = some v → Value.okWide Try.prog W .any base t v := hval0
  have hW1 := hW
  obtain ⟨p, q, hA0, hV, rfl, hfz, hnd⟩ := hW
  have hA : DataW.TrodAll enc Try.prog W 0 (fun _ => true) true Try.f7.params.toList args.toList ds p := hA0
  rw [Try.params7] at hA hval
  obtain ⟨v0, v1, d0, d1, p0, p1, rfl, rfl, rfl, h0, h1⟩ := trodAll_two hA
  obtain ⟨rfl, rfl⟩ := trodVars_none hV
  clear hA0 hval0
  simp only [List.append_nil] at hW1
  have hlt : ∀ x ∈ p0 ++ p1, x.block < W.heap.size := fun x hx => by simpa using hW1.lt x hx
  have hargs0 : ∀ (W' : World), Below W.heap.size W W' → DataW.Trod enc Try.prog W' 0 (fun b => decide (b < W.heap.size)) true 38 v0 d0 p0 :=
    fun W' hn => Below.trod Try.laidOut (by kernel_rfl) (of_decide_eq_true (by kernel_rfl)) h0 hn (fun x hx => hlt x (List.mem_append_left _ hx))
  have hargs1 : ∀ (W' : World), Below W.heap.size W W' → DataW.Trod enc Try.prog W' 0 (fun b => decide (b < W.heap.size)) true 38 v1 d1 p1 :=
    fun W' hn => Below.trod Try.laidOut (by kernel_rfl) (of_decide_eq_true (by kernel_rfl)) h1 hn (fun x hx => hlt x (List.mem_append_right _ hx))
  have hbulk : Rows.uptoBulk d0 ≤ 1048576 ∧ Rows.uptoBulk d1 ≤ 1048576 := by
    have h := of_decide_eq_true hk
    simp only [List.append_nil, Rows.uptoBulkAll] at h
    omega
  obtain ⟨L, a1, a2, a3⟩ := texts_of (hval 0 38 v0 rfl rfl) h0 hbulk.1
  obtain ⟨M, b1, b2, b3⟩ := texts_of (hval 1 38 v1 rfl rfl) h1 hbulk.2
  refine (lists_law W _ _ L M a1 b1 a2 b2 a3 b3).mono fun e W1 ⟨he, hw⟩ => ?_
  subst he
  exact ⟨_, rfl, ⟨_, _, _, [], _, [], hW1, trodAll_mk1 (shut_bool Try.underlying4 true), trodAll_mk2 (hargs0 _ hw) (hargs1 _ hw), rfl, hw.frame _, fun h => by cases h⟩⟩

set_option maxRecDepth 100000 in
theorem lists_lifted (os : Os) (started : os.Started) (H : Type) (enc : TypeId × Value → H) (F : Stop.Interp) :
    ReturnsInHanded {} Try.checked os 7 .any ((Rows.OpenSpec.upto Rows.ratListsSpec).pre6 enc Try.prog Try.f7 Rows.ratListsUptoRow.domain false) (((Rows.OpenSpec.upto Rows.ratListsSpec).at F).post enc Try.prog Try.f7 false true false false) := by
  refine returnsInHanded_of_cond (C := Try.checked) (s := Rows.OpenSpec.upto Rows.ratListsSpec) (k := Rows.uptoSmall) rfl Try.own started (by kernel_rfl) Try.func7
    (OpenSpec.witness (enc := enc) (C := Try.checked) (s := Rows.OpenSpec.upto Rows.ratListsSpec) (k := Rows.uptoSmall) rfl false ⟨#[], #[.slice none 0 0, .slice none 0 0], []⟩ 8 (by kernel_rfl) (by kernel_rfl) (by kernel_rfl)
      (x := ([.nil, .nil], [], [])) (by kernel_rfl) rfl (by kernel_rfl)) ?_
  intro W base args ds gs before hval hW _ hk _
  exact lists_contract H enc W base args ds gs before hval hW hk

theorem lists_holds : Rows.RatListsUptoSaid :=
  OpenClaim.holds_of_cond 7 Try.f7 rfl rfl rfl rfl rfl rfl rfl ⟨rfl, rfl, rfl, rfl, rfl⟩ rfl rfl rfl rfl rfl (by kernel_rfl) Try.func7 (by kernel_rfl)
    (of_decide_eq_true (by kernel_rfl)) (by unfold Func.isWrapper; first | (rw [if_pos (by decide +kernel)]; kernel_rfl) | (rw [if_neg (by decide +kernel)]; exact ⟨rfl, rfl⟩))
    (fun os started H enc _ F => lists_lifted os started H enc F)
end Go.Proofs.Ytlkdahgfnfdakaa
