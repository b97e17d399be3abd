/- LexJoined: the law's walk. -/
import Derived.Test.YtegobakoflbnfaaDoorJo
namespace Go.Proofs.YtegobakoflbnfaaDoor
open Go Go.RowKit

theorem sc_at : ∀ (n k : Nat) (l : List UInt8), l.length ≤ n → ∀ t ∈ (sc k l).1, t.2.2 < k + l.length
  | n, k, l, h => by
    have hg := gap_len l
    by_cases he : gapT l = l.length
    · rw [sc_end he]; intro t ht; cases ht
    · obtain ⟨t, ht⟩ : ∃ t, tk0 (l.drop (gapT l)) = t := ⟨_, rfl⟩
      by_cases h0 : t.2.2 = 0
      · rw [sc_bad (by omega) (by rw [ht]; exact h0)]; intro t ht; cases ht
      · rw [sc_tok (by omega) ht h0]
        cases n with
        | zero => omega
        | succ n =>
          have ih := sc_at n (k + gapT l + t.2.2) (l.drop (gapT l + t.2.2)) (by rw [List.length_drop]; omega)
          have htl := tk0_le (l.drop (gapT l))
          rw [ht, List.length_drop] at htl
          rw [List.length_drop] at ih
          intro x hx
          unfold appR at hx
          split at hx
          · rcases List.mem_append.1 hx with hx | hx
            · rw [List.mem_singleton] at hx; subst hx
              show k + gapT l < _
              omega
            · have := ih x hx; omega
          · have := ih x hx; omega

theorem sc_place : ∀ (n k : Nat) (l : List UInt8), l.length ≤ n → (sc k l).2.1 ≤ k + l.length
  | n, k, l, h => by
    have hg := gap_len l
    by_cases he : gapT l = l.length
    · rw [sc_end he]; exact Nat.zero_le _
    · obtain ⟨t, ht⟩ : ∃ t, tk0 (l.drop (gapT l)) = t := ⟨_, rfl⟩
      by_cases h0 : t.2.2 = 0
      · rw [sc_bad (by omega) (by rw [ht]; exact h0)]; show k + gapT l ≤ _; omega
      · rw [sc_tok (by omega) ht h0]
        cases n with
        | zero => omega
        | succ n =>
          have ih := sc_place n (k + gapT l + t.2.2) (l.drop (gapT l + t.2.2)) (by rw [List.length_drop]; omega)
          have htl := tk0_le (l.drop (gapT l))
          rw [ht, List.length_drop] at htl
          rw [List.length_drop] at ih
          unfold appR
          split
          · exact Nat.zero_le _
          · omega

set_option maxHeartbeats 6400000 in
set_option maxRecDepth 100000 in
theorem joined_big (w : World) (s t : ByteArray) (hm : MaxL w) (hp : Pow10 w) (h : 400 < s.size ∨ 400 < t.size) : Calls Tryd.prog 9 #[.string s, .string t] w fun e w' => e = .returned (.bool true) ∧ Below w.heap.size w w' := by
  have AL : Hid (∀ W, Below w.heap.size w W → Calls Tryd.prog 13 #[] W fun e w' => e = .returned (.bool true) ∧ Below W.heap.size W w') := fun W hb => alive_any W (hm.go hb) (hp.go hb)
  clear hm hp
  by_cases h4 : 400 < s.size
  · have t1 : decide (400 < (s.size : Int)) = true := decide_eq_true (by omega)
    clear h4 h
    go_enter Tryd.func9, Tryd.ntmps9
    go_wp2_with fail
    refine (AL.out _ (Below.refl _ _)).mono ?_; rintro e w1 ⟨rfl, hb⟩
    have HB := Lib.hid hb; clear hb
    go_wp2_with fail
    go_ret
    exact ⟨rfl, HB.out⟩
  · have t1 : decide (400 < (s.size : Int)) = false := decide_eq_false (by omega)
    have t2 : decide (400 < (t.size : Int)) = true := decide_eq_true (by omega)
    clear h4 h
    go_enter Tryd.func9, Tryd.ntmps9
    go_wp2_with fail
    refine (AL.out _ (Below.refl _ _)).mono ?_; rintro e w1 ⟨rfl, hb⟩
    have HB := Lib.hid hb; clear hb
    go_wp2_with fail
    go_ret
    exact ⟨rfl, HB.out⟩

set_option maxHeartbeats 6400000 in
set_option maxRecDepth 100000 in
theorem joined_small (w : World) (s t : ByteArray) (hm : MaxL w) (hp : Pow10 w) (hs : s.size ≤ 400) (ht : t.size ≤ 400) : Calls Tryd.prog 9 #[.string s, .string t] w fun e w' => e = .returned (.bool true) ∧ Below w.heap.size w w' := by
  have AL : Hid (∀ W, Below w.heap.size w W → Calls Tryd.prog 13 #[] W fun e w' => e = .returned (.bool true) ∧ Below W.heap.size W w') := fun W hb => alive_any W (hm.go hb) (hp.go hb)
  have hul : (s ++ ⟨#[10]⟩ ++ t).data.toList = s.data.toList ++ 10 :: t.data.toList := by simp [ByteArray.data_append]
  obtain ⟨F1, F2, F3, L1, L2, L3⟩ := joined_facts s t (s ++ ⟨#[10]⟩ ++ t) hs ht hul
  have hus : (s ++ ⟨#[10]⟩ ++ t).size = s.size + 1 + t.size := by rw [ByteArray.size_append, ByteArray.size_append]; rfl
  have SA : Hid (∀ W, Below w.heap.size w W → Calls Tryd.prog 15 #[.string s] W (RetScan W (scanT s))) := fun W hb => scan_any W s (by omega) (hm.go hb) (hp.go hb)
  have SB : Hid (∀ W, Below w.heap.size w W → Calls Tryd.prog 15 #[.string t] W (RetScan W (scanT t))) := fun W hb => scan_any W t (by omega) (hm.go hb) (hp.go hb)
  have SC : Hid (∀ W, Below w.heap.size w W → Calls Tryd.prog 15 #[.string (s ++ ⟨#[10]⟩ ++ t)] W (RetScan W (scanT (s ++ ⟨#[10]⟩ ++ t)))) := fun W hb => scan_any W _ (by omega) (hm.go hb) (hp.go hb)
  have PB : Hid (∀ x ∈ (scanT t).1, x.2.2 < 400) := fun x hx => by
    rw [scan_eq t (by omega)] at hx
    have := sc_at _ 0 _ (Nat.le_refl _) x hx
    have h3 : t.data.toList.length = t.size := Array.length_toList
    omega
  have SAME : Hid (∀ W v1 v2 L M, TokAt W v1 L → TokAt W v2 M → L.length ≤ 2000 → L = M → Calls Tryd.prog 16 #[v1, v2, .bool true] W fun e w' => e = .returned (.bool true) ∧ Below W.heap.size W w') := fun W v1 v2 L M h1 h2 h3 h4 => by
    subst h4
    have := same_any W v1 v2 L L true h1 h2 h3 h3
    rw [same_refl] at this
    exact this
  have MB : Hid ((scanT t).2.2 ≠ 0 → (scanT t).2.1 ≤ 1000) := fun _ => by
    rw [scan_eq t (by omega)]
    have := sc_place _ 0 t.data.toList (Nat.le_refl _)
    have h3 : t.data.toList.length = t.size := Array.length_toList
    omega
  clear hm hp hul hus
  obtain ⟨⟨la, ma, ea⟩, hA⟩ : ∃ x, x = scanT s := ⟨_, rfl⟩
  obtain ⟨⟨lb, mb, eb⟩, hB⟩ : ∃ x, x = scanT t := ⟨_, rfl⟩
  obtain ⟨⟨lc, mc, ec⟩, hC⟩ : ∃ x, x = scanT (s ++ ⟨#[10]⟩ ++ t) := ⟨_, rfl⟩
  rw [← hA, ← hC] at F1
  rw [← hA, ← hB, ← hC] at F2
  rw [← hA, ← hB, ← hC] at F3
  rw [← hA] at SA L1; rw [← hB] at SB L2 PB MB; rw [← hC] at SC L3
  simp only [] at F1 F2 F3 L1 L2 L3 PB MB
  have t1 : decide (400 < (s.size : Int)) = false := decide_eq_false (by omega)
  have t2 : decide (400 < (t.size : Int)) = false := decide_eq_false (by omega)
  have HS4 : Hid (s.size ≤ 400) := hs
  have HF1 := Lib.hid F1; have HF2 := Lib.hid F2; have HF3 := Lib.hid F3
  have HL1 := Lib.hid L1; have HL2 := Lib.hid L2; have HL3 := Lib.hid L3
  have c1 : ¬ (s.size + (⟨#[10]⟩ : ByteArray).size > 9223372036854775807) := by
    have : (⟨#[10]⟩ : ByteArray).size = 1 := rfl
    omega
  have c2 : ¬ ((s ++ ⟨#[10]⟩).size + t.size > 9223372036854775807) := by
    have : (⟨#[10]⟩ : ByteArray).size = 1 := rfl
    rw [ByteArray.size_append]
    omega
  have C1 := Lib.hid c1; have C2 := Lib.hid c2
  clear hA hB hC F1 F2 F3 L1 L2 L3 hs ht c1 c2
  by_cases ha : ea = 0
  · subst ha
    by_cases hb : eb = 0
    · subst hb
      obtain ⟨rfl, hlc⟩ := HF3.out rfl rfl
      have HLC := Lib.hid hlc
      clear HF1 HF2 HF3 hlc
      go_enter Tryd.func9, Tryd.ntmps9
      go_wp2_with fail
      refine (SA.out _ (Below.refl _ _)).mono ?_; rintro e w1 ⟨va, rfl, hoa, hb1⟩
      have B1 := Lib.hid hb1; have OA := Lib.hid hoa; have AK := Lib.hid (fun k hk => (World.ownsRow.lt hoa.1 k hk).2); clear hoa hb1
      go_wp2_with fail
      refine (SB.out _ B1.out).mono ?_; rintro e w2 ⟨vb, rfl, hob, hb2⟩
      have B2 := Lib.hid (bstep B1.out hb2); have OA := Lib.hid (OA.out.go hb2); have OB := Lib.hid hob; have BK := Lib.hid (fun k hk => World.ownsRow.lt hob.1 k hk); have hb12 := hb2.size; clear hob hb2
      have c1 := C1.out; have c2 := C2.out
      go_wp2_with fail
      refine (SC.out _ B2.out).mono ?_; rintro e w3 ⟨vc, rfl, hoc, hb3⟩
      have B3 := Lib.hid (bstep B2.out hb3); have OA := Lib.hid (OA.out.go hb3); have OB := Lib.hid (OB.out.go hb3); have OC := Lib.hid hoc; clear hoc hb3
      have KW : Hid (w1.heap.size ≤ w2.heap.size) := hb12
      have KA : Hid (∀ k, va.ownBlock = some k → k < w1.heap.size) := AK
      have KB : Hid (∀ k, vb.ownBlock = some k → w1.heap.size ≤ k ∧ k < w2.heap.size) := BK
      have KC : Hid (∀ k, vc.ownBlock = some k → w2.heap.size ≤ k) := fun k hk => (World.ownsRow.lt OC.out.1 k hk).1
      obtain ⟨oa, ca, rfl⟩ := OA.out.shape
      obtain ⟨ob, cb, rfl⟩ := OB.out.shape
      obtain ⟨oc, cc, rfl⟩ := OC.out.shape
      have hlen : lc.length = la.length + lb.length := by rw [HLC.out, List.length_append, List.length_map]
      have HW0 : Hid (wrap64 ((la.length : Int) + (lb.length : Int)) = (lc.length : Int)) := by
        have h1 := HL1.out; have h2 := HL2.out
        show _ = _
        rw [wadd (by omega), hlen]
      have hw0 : ((lc.length : Int) != wrap64 ((la.length : Int) + (lb.length : Int))) = false := by rw [HW0.out]; simp
      clear hlen
      have hlb := HL2.out
      obtain ⟨d, hd⟩ : ∃ d, d = s.size + 1 := ⟨_, rfl⟩
      have HD := Lib.hid hd
      have hs4 := HS4.out
      rw [← hd] at HLC
      clear hd
      go_wp2_with fail
      go_loopw [14] (fun v14 wr => ∃ i : Nat, v14 = .int .i64 (i : Int) ∧ i ≤ lb.length ∧ Hid (OwnT wr w.heap.size (.slice oa la.length ca) la) ∧ Hid (OwnT wr w1.heap.size (.slice ob lb.length cb) (mixL d i lb)) ∧ Hid (OwnT wr w2.heap.size (.slice oc lc.length cc) lc) ∧ Hid (Below w.heap.size w wr)) (fun v14 _ => lb.length - (intOf v14).toNat)
      case atStart => exact ⟨0, rfl, Nat.zero_le _, OA, OB, OC, B3⟩
      case round =>
        clear OA OB OC B3
        obtain ⟨i, rfl, hi, OAn, OBn, OCn, BNn⟩ := hrel
        by_cases hlt : i < lb.length
        · have hml := mix_len d i lb
          obtain ⟨g, cap, e, hg1, hg2, hat⟩ := OBn.out.open (by omega)
          injection e with e1 e2 e3
          subst e1
          obtain ⟨x2, f2, hset⟩ := hat i (by omega)
          rw [mix_get d i lb hlt] at x2 hset
          have hp4 := PB.out _ (List.getElem_mem hlt)
          have hst := hset (lb[i].2.2 + d)
          rw [show (lb[i].1, lb[i].2.1, lb[i].2.2 + d) = shT d lb[i] from rfl, mix_step d i lb hlt] at hst
          obtain ⟨p, hpe⟩ : ∃ p, p = lb[i].2.2 := ⟨_, rfl⟩
          rw [← hpe] at x2 hst hp4
          have W1 : Hid (wrap64 ((p : Int) + (s.size : Int)) = ((p + s.size : Nat) : Int)) := wadd (by omega)
          have W2 : Hid (wrap64 (((p + s.size : Nat) : Int) + 1) = ((p + d : Nat) : Int)) := by
            show _ = _
            rw [wnat (by omega), HD.out]; rfl
          have W3 := Lib.hid (wnat (n := i) (by omega))
          have OB2 := Lib.hid hst
          have GR : Hid (wr.grownBy (wr.setCell ⟨g, i * 3 + 2, none⟩ (.int .i64 ((p + d : Nat) : Int))) (some g)) := grown_set wr ⟨g, i * 3 + 2, none⟩ _
          have OA2 : Hid (OwnT (wr.setCell ⟨g, i * 3 + 2, none⟩ (.int .i64 ((p + d : Nat) : Int))) w.heap.size (.slice oa la.length ca) la) := OAn.out.grown GR.out (Or.inr fun h => by
            have := KA.out g h; omega)
          have KB2 := (KB.out g rfl).2
          have OC2 : Hid (OwnT (wr.setCell ⟨g, i * 3 + 2, none⟩ (.int .i64 ((p + d : Nat) : Int))) w2.heap.size (.slice oc lc.length cc) lc) := OCn.out.grown GR.out (Or.inr fun h => by
            have := KC.out g h; omega)
          have BN2 : Hid (Below w.heap.size w (wr.setCell ⟨g, i * 3 + 2, none⟩ (.int .i64 ((p + d : Nat) : Int)))) := BNn.out.setCell (p := ⟨g, i * 3 + 2, none⟩) (Nat.le_trans B1.out.size hg1) _
          have hii : (i : Int) < (lb.length : Int) := by omega
          have HLT := Lib.hid hlt
          clear hat hset hst hml hg1 hg2 hpe hp4 KB2 hlt
          go_wp2_with fail
          go_roundw
          case rel => exact ⟨i + 1, by first | exact congrArg (Value.int .i64) W3.out | go_num, HLT.out, by rw [W1.out, W2.out]; exact OA2, by rw [W1.out, W2.out]; exact OB2, by rw [W1.out, W2.out]; exact OC2, by rw [W1.out, W2.out]; exact BN2⟩
          case measure => have := HLT.out; first | (rw [W3.out]; simp [intOf]; omega) | (simp [intOf]; omega)
        · have hin : i = lb.length := by omega
          subst hin
          have hmx := mix_all d lb
          have OB2 : Hid (OwnT wr w1.heap.size (.slice ob lb.length cb) (lb.map (shT d))) := by have h9 := OBn.out; rw [hmx] at h9; exact h9
          have HL12 : Hid (la.length + (lb.map (shT d)).length ≤ 4000) := by have h1 := HL1.out; have h2 := HL2.out; show _ ≤ _; rw [List.length_map]; omega
          clear hlt hmx OBn
          go_wp2_with (at_builtin; refine tok_apps rfl (.tmp 107) (.tmp 108) rfl rfl OAn.out rfl OB2.out HL12.out ?_; intro v' w4 hown4 hgr4 hkeep)
          have O4 := Lib.hid hown4.tokAt
          have B4 := Lib.hid (hkeep w w.heap.size (Nat.le_refl _) BNn.out)
          have OC4 : Hid (TokAt w4 (.slice oc lc.length cc) lc) := (OCn.out.grown hgr4 (by
            by_cases h9 : (Value.slice oc lc.length cc).ownBlock = none
            · exact Or.inl h9
            · obtain ⟨k, hk⟩ := Option.ne_none_iff_exists'.1 h9
              refine Or.inr fun h => ?_
              have h1 := KC.out k hk
              have h2 := KA.out k (h.symm.trans hk)
              have h3 := KW.out
              omega)).tokAt
          clear hown4 hgr4 hkeep OAn OB2 OCn BNn
          have hl8 := HL3.out
          have CS := Lib.hid (SAME.out w4 _ _ _ _ OC4.out O4.out (by omega) HLC.out)
          go_wp2_with fail
          refine CS.out.mono ?_; rintro e w5 ⟨rfl, hb5⟩
          have B5 := Lib.hid (bstep B4.out hb5); clear hb5
          go_wp2_with fail
          refine (AL.out _ B5.out).mono ?_; rintro e w6 ⟨rfl, hb6⟩
          have B6 := Lib.hid (bstep B5.out hb6); clear hb6
          go_wp2_with fail
          go_ret
          exact ⟨rfl, B6.out⟩
    · obtain ⟨rfl, ho⟩ := HF2.out rfl hb
      have HO := Lib.hid ho
      clear ho
      have b0 : (ec != 0) = true := by rw [bne_iff_ne]; exact hb
      have hm1 : Hid (mb ≤ 1000) := MB.out hb
      clear HF1 HF2 HF3 hb
      have hs4 := HS4.out
      have W1 : Hid (wrap64 ((s.size : Int) + 1) = ((s.size + 1 : Nat) : Int)) := wnat (by omega)
      have W2 : Hid (wrap64 (((s.size + 1 : Nat) : Int) + (mb : Int)) = ((s.size + 1 + mb : Nat) : Int)) := wadd (by have := hm1.out; omega)
      go_enter Tryd.func9, Tryd.ntmps9
      go_wp2_with fail
      refine (SA.out _ (Below.refl _ _)).mono ?_; rintro e w1 ⟨va, rfl, hoa, hb1⟩
      have B1 := Lib.hid hb1; clear hoa hb1
      go_wp2_with fail
      refine (SB.out _ B1.out).mono ?_; rintro e w2 ⟨vb, rfl, hob, hb2⟩
      have B2 := Lib.hid (bstep B1.out hb2); clear hob hb2
      have c1 := C1.out; have c2 := C2.out
      go_wp2_with fail
      refine (SC.out _ B2.out).mono ?_; rintro e w3 ⟨vc, rfl, hoc, hb3⟩
      have B3 := Lib.hid (bstep B2.out hb3); clear hoc hb3 c1 c2
      have hww : ((mc : Int) == wrap64 (wrap64 ((s.size : Int) + 1) + (mb : Int))) = true := by rw [W1.out, W2.out, HO.out]; exact beq_self_eq_true _
      have hwv : ((mc : Int) == wrap64 ((s.size : Int) + 1 + (mb : Int))) = true := by
        have h2 := W2.out
        rw [HO.out, beq_iff_eq, ← h2]; rfl
      clear hs4
      go_wp2_with fail
      refine (AL.out _ B3.out).mono ?_; rintro e w6 ⟨rfl, hb6⟩
      have B6 := Lib.hid (bstep B3.out hb6); clear hb6
      go_wp2_with fail
      go_ret
      exact ⟨rfl, B6.out⟩
  · have h9 := HF1.out ha
    injection h9 with e1 e2
    injection e2 with e3 e4
    subst e1; subst e3; subst e4
    have a0 : (ec != 0) = true := by rw [bne_iff_ne]; exact ha
    clear HF1 HF2 HF3 ha
    go_enter Tryd.func9, Tryd.ntmps9
    go_wp2_with fail
    refine (SA.out _ (Below.refl _ _)).mono ?_; rintro e w1 ⟨va, rfl, hoa, hb1⟩
    have B1 := Lib.hid hb1; clear hoa hb1
    go_wp2_with fail
    refine (SB.out _ B1.out).mono ?_; rintro e w2 ⟨vb, rfl, hob, hb2⟩
    have B2 := Lib.hid (bstep B1.out hb2); clear hob hb2
    have c1 := C1.out; have c2 := C2.out
    go_wp2_with fail
    refine (SC.out _ B2.out).mono ?_; rintro e w3 ⟨vc, rfl, hoc, hb3⟩
    have B3 := Lib.hid (bstep B2.out hb3); clear hoc hb3 c1 c2
    go_wp2_with fail
    refine (AL.out _ B3.out).mono ?_; rintro e w6 ⟨rfl, hb6⟩
    have B6 := Lib.hid (bstep B3.out hb6); clear hb6
    go_wp2_with fail
    go_ret
    exact ⟨rfl, B6.out⟩
theorem joined_any (w : World) (s t : ByteArray) (_hs : s.size ≤ 140737488355328) (_ht : t.size ≤ 140737488355328) (hm : MaxL w) (hp : Pow10 w) : Calls Tryd.prog 9 #[.string s, .string t] w fun e w' => e = .returned (.bool true) ∧ Below w.heap.size w w' := by
  by_cases h1 : 400 < s.size
  · exact joined_big w s t hm hp (Or.inl h1)
  · by_cases h2 : 400 < t.size
    · exact joined_big w s t hm hp (Or.inr h2)
    · exact joined_small w s t hm hp (by omega) (by omega)
end Go.Proofs.YtegobakoflbnfaaDoor
