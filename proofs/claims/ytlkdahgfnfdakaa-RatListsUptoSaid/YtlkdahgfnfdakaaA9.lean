import Derived.Test.YtlkdahgfnfdakaaA8
namespace Go.Proofs.Ytlkdahgfnfdakaa
open Go.RowKit Go.Shelf WN LM

/-- the number that a text without a sign is, if it is one; neg: a sign was ahead -/
def readR (neg : Bool) (r : List UInt8) : Option (Bool × Nat × Nat) :=
  if goodD (r.takeWhile (· != 47)) && !(neg && decide (dval (r.takeWhile (· != 47)) = 0)) then
    match r.dropWhile (· != 47) with
    | [] => some (neg, dval (r.takeWhile (· != 47)), 1)
    | _ :: t => if goodD t && !decide (dval t = 0) && !decide (dval t = 1) && decide (Nat.gcd (dval (r.takeWhile (· != 47))) (dval t) = 1) then some (neg, dval (r.takeWhile (· != 47)), dval t) else none
  else none
def readQ (l : List UInt8) : Option (Bool × Nat × Nat) := if l.head? = some 45 then readR true l.tail else readR false l

/-- what read returns -/
def ReadOut (w : World) (o : Option (Bool × Nat × Nat)) (e : Ending) (w' : World) : Prop :=
  ∃ v, Below w.heap.size w w' ∧ match o with
    | none => v = .agg #[.bool false, .slice none 0 0, .slice none 0 0] ∧ e = .returned (.tuple #[v, .bool false])
    | some (s, n, d) => e = .returned (.tuple #[v, .bool true]) ∧ Frac w' v s n d
theorem ReadOut.ok {w w' : World} {s : Bool} {n d : Nat} {x : Value} (h : RetF w s n d (.returned x) w') : ReadOut w (some (s, n, d)) (.returned (.tuple #[x, .bool true])) w' := by
  obtain ⟨v, he, hf, hb⟩ := h
  cases he
  exact ⟨x, hb, rfl, hf⟩
theorem ReadOut.no {w w' : World} (h : Below w.heap.size w w') : ReadOut w none (.returned (.tuple #[.agg #[.bool false, .slice none 0 0, .slice none 0 0], .bool false])) w' := ⟨_, h, rfl, rfl⟩

theorem split_at {l : List UInt8} {i : Nat} (hi : i ≤ l.length) (h : ∀ c ∈ l.take i, c ≠ 47) (hx : i = l.length ∨ l[i]? = some 47) : l.takeWhile (· != 47) = l.take i ∧ l.dropWhile (· != 47) = l.drop i := by
  induction l generalizing i with
  | nil => simp
  | cons a l ih =>
    cases i with
    | zero =>
      rcases hx with hx | hx
      · simp at hx
      · simp only [List.getElem?_cons_zero, Option.some.injEq] at hx
        subst hx
        simp
    | succ i =>
      have ha : a ≠ 47 := h a (by simp)
      have := ih (i := i) (by simpa using hi) (fun c hc => h c (by simp [hc])) (by simpa using hx)
      simp [ha, this]

theorem take_step {l : List UInt8} {i : Nat} {c : UInt8} (h : ∀ c ∈ l.take i, c ≠ 47) (hc : l[i]? = some c) (hne : c ≠ 47) : ∀ c ∈ l.take (i + 1), c ≠ 47 := by
  intro x hx
  rw [List.take_add_one, hc] at hx
  rcases List.mem_append.1 hx with h1 | h1
  · exact h x h1
  · simp at h1; subst h1; exact hne

theorem toList_extract (s : ByteArray) (i j : Nat) : (s.extract i j).data.toList = (s.data.toList.take j).drop i := by
  simp [ByteArray.data_extract, List.drop_take]

set_option maxRecDepth 100000 in
set_option maxHeartbeats 8000000 in
theorem read_true (s : ByteArray) (w : World) (hs : s.size ≤ 140737488355328) (h1 : 1 ≤ s.size) (hm : ((s[0].toNat : Int) == 45) = true) : Calls Try.prog 61 #[.string s] w (ReadOut w (readR true (s.data.toList.drop 1))) := by
  have e0 : decide ((0 : Int) < (s.size : Int)) = true := by simp; omega
  obtain ⟨r, hr⟩ : ∃ r, r = s.extract 1 s.size := ⟨_, rfl⟩
  have hrs : r.size ≤ s.size := by rw [hr]; simp
  have hrd : s.data.toList.drop 1 = r.data.toList := by
    rw [hr, toList_extract, List.take_of_length_le (by simp)]
  rw [hrd]
  clear hrd
  have HR := Lib.hid hr; clear hr
  have bR := Box3.new w (.bool false) (.slice none 0 0) (.slice none 0 0)
  have B1 := below_alloc w (.cells #[.bool false, .slice none 0 0, .slice none 0 0] 55)
  go_enter Try.func61, Try.ntmps61
  go_wp2_with fail
  rw [← HR.out]
  have HM := Lib.hid hm; clear hm
  clear HR
  have hrl : r.data.toList.length = r.size := by simp
  have HRL := Lib.hid hrl; clear hrl
  have BR := Lib.hid bR; have HB1 := Lib.hid B1
  clear bR B1
  generalize w.alloc (.cells #[.bool false, .slice none 0 0, .slice none 0 0] 55) = w1 at *
  go_loop [5] (fun v5 => ∃ i : Nat, i ≤ r.size ∧ v5 = .int .i64 i ∧ Hid (∀ c ∈ r.data.toList.take i, c ≠ 47)) (fun v5 => r.size - (intOf v5).toNat)
  case atStart => exact ⟨0, Nat.zero_le _, rfl, by intro c hc; simp at hc⟩
  case round =>
    obtain ⟨i, hi, rfl, hno⟩ := hrel
    by_cases hlt : i < r.size
    · have hgi : r.data.toList[i]? = some r[i] := by rw [List.getElem?_eq_getElem (by rw [HRL.out]; exact hlt)]; rfl
      by_cases hc : r[i] = 47
      · have hce : ((r[i].toNat : Int) != 47) = false := by rw [hc]; rfl
        have HC : Hid (r.data.toList[i]? = some 47) := by show _ = _; rw [hgi, hc]
        have hsp := split_at (by rw [HRL.out]; exact hi) hno.out (.inr HC.out)
        have hdr : r.data.toList.drop i = 47 :: r.data.toList.drop (i + 1) := by
          have h' := HC.out
          rw [List.getElem?_eq_getElem (by rw [HRL.out]; exact hlt)] at h'
          rw [List.drop_eq_getElem_cons (by rw [HRL.out]; exact hlt), Option.some.inj h']
        rw [hdr] at hsp
        have HSP := Lib.hid hsp
        clear hc hgi hno hsp hdr
        have hie : ((i : Int) == (r.size : Int)) = false := by rw [beq_eq_false_iff_ne]; omega
        go_wp2_with fail
        refine (fromDigits_num _ _ (by simp; omega)).mono ?_; rintro e w2 ⟨v2, rfl, hb2, hg, hng⟩
        rw [toList_extract, List.drop_zero] at hg hng ⊢
        have BR2 := Lib.hid (BR.out.go hb2); have HB2 := Lib.hid (bstep HB1.out hb2)
        clear hb2
        cases hgd : goodD (r.data.toList.take i)
        · have HQ : Hid (readR true r.data.toList = none) := by
            show _ = _
            unfold readR; rw [HSP.out.1, hgd]; rfl
          have HRO : Hid (∀ e w', ReadOut w none e w' → ReadOut w (readR true r.data.toList) e w') := fun _ _ h => by rw [HQ.out]; exact h
          obtain rfl := hng hgd
          clear hg hng hgd
          obtain ⟨r0, r1, r2, f0, f1, f2⟩ := Box3.facts BR2.out
          go_wp2_with fail
          obtain ⟨e0, e1, e2, hret⟩ := box_ret (t := false) (n := 0) (d := 0) BR2.out (Num.nil _) (Num.nil _) HB2.out (by omega)
          refine bodyPost_ret (v := .tuple #[.agg #[.bool false, .slice none 0 0, .slice none 0 0], .bool false]) ?_ rfl (HRO.out _ _ (ReadOut.no (by obtain ⟨_, _, _, h⟩ := hret; exact h)))
          simp [results, Try.f61, go_sem, e0, e1, e2]
        · have hv2 := hg hgd
          obtain ⟨-, hg300, -⟩ := goodD_eq hgd
          have l2 := len_dig hg300
          obtain ⟨o2, k2, c2', rfl⟩ := hv2.shape
          have HV2 := Lib.hid hv2
          have HGD := Lib.hid hgd
          clear hg hng hgd hv2 hg300
          obtain ⟨r0, r1, r2, f0, f1, f2⟩ := Box3.facts BR2.out
          go_wp2_with fail
          refine (isZero_num HV2.out (by omega)).mono ?_; rintro e w3 ⟨rfl, rfl⟩
          by_cases hz : dval (r.data.toList.take i) = 0
          · have hzd : decide (dval (r.data.toList.take i) = 0) = true := by simp [hz]
            have HQ : Hid (readR true r.data.toList = none) := by
              show _ = _
              unfold readR; rw [HSP.out.1, HGD.out, hzd]; rfl
            have HRO : Hid (∀ e w', ReadOut w none e w' → ReadOut w (readR true r.data.toList) e w') := fun _ _ h => by rw [HQ.out]; exact h
            rw [hzd]
            clear hz hzd
            go_wp2_with fail
            obtain ⟨e0, e1, e2, hret⟩ := box_ret (t := false) (n := 0) (d := 0) BR2.out (Num.nil _) (Num.nil _) HB2.out (by omega)
            refine bodyPost_ret (v := .tuple #[.agg #[.bool false, .slice none 0 0, .slice none 0 0], .bool false]) ?_ rfl (HRO.out _ _ (ReadOut.no (by obtain ⟨_, _, _, h⟩ := hret; exact h)))
            simp [results, Try.f61, go_sem, e0, e1, e2]
          · have hzd : decide (dval (r.data.toList.take i) = 0) = false := by simp [hz]
            have HSG : Hid ((true && decide (dval (r.data.toList.take i) ≠ 0)) = true) := by show _ = _; simp [hz]
            have HZD := Lib.hid hzd
            rw [hzd]
            clear hz hzd
            have hi1 : ((i : Int) + 1).toNat = i + 1 := by omega
            go_wp2_with fail
            refine (fromDigits_num _ _ (by simp; omega)).mono ?_; rintro e w3 ⟨v3, rfl, hb3, hg, hng⟩
            rw [toList_extract, show (r.data.toList.take r.size).drop (i + 1) = r.data.toList.drop (i + 1) from by rw [List.take_of_length_le (by rw [HRL.out]; exact Nat.le_refl _)]] at hg hng ⊢
            have BR3 := Lib.hid (BR2.out.go hb3); have HB3 := Lib.hid (bstep HB2.out hb3); have HV3 := Lib.hid (HV2.out.go hb3)
            clear hb3 r0 r1 r2 f0 f1 f2
            obtain ⟨r0, r1, r2, f0, f1, f2⟩ := Box3.facts BR3.out
            have HQ0 : Hid (readR true r.data.toList = if goodD (r.data.toList.drop (i + 1)) && !decide (dval (r.data.toList.drop (i + 1)) = 0) && !decide (dval (r.data.toList.drop (i + 1)) = 1) && decide (Nat.gcd (dval (r.data.toList.take i)) (dval (r.data.toList.drop (i + 1))) = 1) then some (true, dval (r.data.toList.take i), dval (r.data.toList.drop (i + 1))) else none) := by
              show _ = _
              unfold readR; rw [HSP.out.1, HSP.out.2, HGD.out]
              rw [if_pos (by first | rw [HZD.out]; rfl | rfl)]
            have HNO : Hid ((goodD (r.data.toList.drop (i + 1)) && !decide (dval (r.data.toList.drop (i + 1)) = 0) && !decide (dval (r.data.toList.drop (i + 1)) = 1) && decide (Nat.gcd (dval (r.data.toList.take i)) (dval (r.data.toList.drop (i + 1))) = 1)) = false → ∀ e w', ReadOut w none e w' → ReadOut w (readR true r.data.toList) e w') := fun hf e w' h => by
              rw [HQ0.out, hf]; exact h
            have HYES : Hid ((goodD (r.data.toList.drop (i + 1)) && !decide (dval (r.data.toList.drop (i + 1)) = 0) && !decide (dval (r.data.toList.drop (i + 1)) = 1) && decide (Nat.gcd (dval (r.data.toList.take i)) (dval (r.data.toList.drop (i + 1))) = 1)) = true → ∀ e w', ReadOut w (some (true, dval (r.data.toList.take i), dval (r.data.toList.drop (i + 1)))) e w' → ReadOut w (readR true r.data.toList) e w') := fun hf e w' h => by
              rw [HQ0.out, hf]; exact h
            clear HQ0 HSG HZD HSP HGD
            generalize dval (r.data.toList.take i) = n at *
            generalize hdd : dval (r.data.toList.drop (i + 1)) = d at *
            cases hgd : goodD (r.data.toList.drop (i + 1))
            · have HRO := Lib.hid (HNO.out (by rw [hgd]; rfl))
              obtain rfl := hng hgd
              clear hg hng hgd HNO HYES hdd
              go_wp2_with fail
              obtain ⟨e0, e1, e2, hret⟩ := box_ret (t := false) (n := 0) (d := 0) BR3.out (Num.nil _) (Num.nil _) HB3.out (by omega)
              refine bodyPost_ret (v := .tuple #[.agg #[.bool false, .slice none 0 0, .slice none 0 0], .bool false]) ?_ rfl (HRO.out _ _ (ReadOut.no (by obtain ⟨_, _, _, h⟩ := hret; exact h)))
              simp [results, Try.f61, go_sem, e0, e1, e2]
            · have hv3 := hg hgd
              obtain ⟨-, hg300, -⟩ := goodD_eq hgd
              rw [hdd] at hg300
              have l3 := len_dig hg300
              obtain ⟨o3, k3, c3', rfl⟩ := hv3.shape
              have HV := Lib.hid hv3
              have HGD := Lib.hid hgd
              clear hg hng hgd hv3 hg300 hdd
              go_wp2_with fail
              refine (isZero_num HV.out (by omega)).mono ?_; rintro e w4 ⟨rfl, rfl⟩
              by_cases h0 : d = 0
              · have h0d : decide (d = 0) = true := by simp [h0]
                have HRO := Lib.hid (HNO.out (by rw [HGD.out, h0d]; rfl))
                rw [h0d]
                clear h0 h0d HNO HYES
                go_wp2_with fail
                obtain ⟨e0, e1, e2, hret⟩ := box_ret (t := false) (n := 0) (d := 0) BR3.out (Num.nil _) (Num.nil _) HB3.out (by omega)
                refine bodyPost_ret (v := .tuple #[.agg #[.bool false, .slice none 0 0, .slice none 0 0], .bool false]) ?_ rfl (HRO.out _ _ (ReadOut.no (by obtain ⟨_, _, _, h⟩ := hret; exact h)))
                simp [results, Try.f61, go_sem, e0, e1, e2]
              · have h0d : decide (d = 0) = false := by simp [h0]
                have H0D := Lib.hid h0d
                rw [h0d]
                have H0 := Lib.hid h0
                clear h0 h0d
                go_wp2_with fail
                refine (isOne_num HV.out (by omega)).mono ?_; rintro e w4 ⟨rfl, rfl⟩
                by_cases h1 : d = 1
                · have h1d : decide (d = 1) = true := by simp [h1]
                  have HRO := Lib.hid (HNO.out (by rw [HGD.out, H0D.out, h1d]; rfl))
                  rw [h1d]
                  clear h1 h1d HNO HYES
                  go_wp2_with fail
                  obtain ⟨e0, e1, e2, hret⟩ := box_ret (t := false) (n := 0) (d := 0) BR3.out (Num.nil _) (Num.nil _) HB3.out (by omega)
                  refine bodyPost_ret (v := .tuple #[.agg #[.bool false, .slice none 0 0, .slice none 0 0], .bool false]) ?_ rfl (HRO.out _ _ (ReadOut.no (by obtain ⟨_, _, _, h⟩ := hret; exact h)))
                  simp [results, Try.f61, go_sem, e0, e1, e2]
                · have h1d : decide (d = 1) = false := by simp [h1]
                  have H1D := Lib.hid h1d
                  rw [h1d]
                  clear h1 h1d
                  go_wp2_with fail
                  refine (divisor_num HV3.out HV.out (by omega) (by omega)).mono ?_; rintro e w4 ⟨v4, rfl, hv4, hb4⟩
                  have lgd : Len (Nat.gcd n d) ≤ 34 := Nat.le_trans (len_mono (Nat.gcd_le_right _ (Nat.pos_of_ne_zero H0.out))) l3
                  have HV4 := Lib.hid hv4
                  have BR4 := Lib.hid (BR3.out.go hb4); have HB4 := Lib.hid (bstep HB3.out hb4); have HN4 := Lib.hid (HV3.out.go hb4); have HD4 := Lib.hid (HV.out.go hb4)
                  clear hv4 hb4 r0 r1 r2 f0 f1 f2
                  obtain ⟨r0, r1, r2, f0, f1, f2⟩ := Box3.facts BR4.out
                  go_wp2_with fail
                  refine (isOne_num HV4.out (by omega)).mono ?_; rintro e w5 ⟨rfl, rfl⟩
                  by_cases hgc : Nat.gcd n d = 1
                  · have hgd : decide (Nat.gcd n d = 1) = true := by simp [hgc]
                    have HRO := Lib.hid (HYES.out (by rw [HGD.out, H0D.out, H1D.out, hgd]; rfl))
                    rw [hgd]
                    clear hgc hgd HNO HYES
                    go_wp2_with fail
                    obtain ⟨e0, e1, e2, hret⟩ := box_ret (t := true) BR4.out HN4.out HD4.out HB4.out (by omega)
                    refine bodyPost_ret (v := .tuple #[.agg #[.bool true, .slice o2 k2 c2', .slice o3 k3 c3'], .bool true]) ?_ rfl (HRO.out _ _ (ReadOut.ok hret))
                    simp [results, Try.f61, go_sem, e0, e1, e2]
                  · have hgd : decide (Nat.gcd n d = 1) = false := by simp [hgc]
                    have HRO := Lib.hid (HNO.out (by rw [HGD.out, H0D.out, H1D.out, hgd]; rfl))
                    rw [hgd]
                    clear hgc hgd HNO HYES
                    go_wp2_with fail
                    obtain ⟨e0, e1, e2, hret⟩ := box_ret (t := false) (n := 0) (d := 0) BR4.out (Num.nil _) (Num.nil _) HB4.out (by omega)
                    refine bodyPost_ret (v := .tuple #[.agg #[.bool false, .slice none 0 0, .slice none 0 0], .bool false]) ?_ rfl (HRO.out _ _ (ReadOut.no (by obtain ⟨_, _, _, h⟩ := hret; exact h)))
                    simp [results, Try.f61, go_sem, e0, e1, e2]
      · have hcn : r[i].toNat ≠ 47 := fun h => hc (UInt8.toNat_inj.1 h)
        have hce : ((r[i].toNat : Int) != 47) = true := by rw [bne_iff_ne]; omega
        have HN := Lib.hid (take_step hno.out hgi hc)
        clear hc hgi hno hcn
        go_wp2_with fail
        go_round
        case rel => exact ⟨i + 1, hlt, by go_num, HN.out⟩
        case measure => simp [intOf]; omega
    · obtain rfl : i = r.size := by omega
      have hsp := split_at (by rw [HRL.out]; exact hi) hno.out (.inl HRL.out.symm)
      rw [List.drop_of_length_le (by rw [HRL.out]; exact Nat.le_refl _), List.take_of_length_le (by rw [HRL.out]; exact Nat.le_refl _)] at hsp
      have HSP := Lib.hid hsp
      clear hno hsp hlt
      have hie : ((r.size : Int) == (r.size : Int)) = true := by simp
      go_wp2_with fail
      refine (fromDigits_num _ _ (by omega)).mono ?_; rintro e w2 ⟨v2, rfl, hb2, hg, hng⟩
      have BR2 := Lib.hid (BR.out.go hb2); have HB2 := Lib.hid (bstep HB1.out hb2)
      clear hb2
      cases hgd : goodD r.data.toList
      · have HQ : Hid (readR true r.data.toList = none) := by
          show _ = _
          unfold readR; rw [HSP.out.1, hgd]; rfl
        have HRO : Hid (∀ e w', ReadOut w none e w' → ReadOut w (readR true r.data.toList) e w') := fun _ _ h => by rw [HQ.out]; exact h
        obtain rfl := hng hgd
        clear hg hng hgd
        obtain ⟨r0, r1, r2, f0, f1, f2⟩ := Box3.facts BR2.out
        go_wp2_with fail
        obtain ⟨e0, e1, e2, hret⟩ := box_ret (t := false) (n := 0) (d := 0) BR2.out (Num.nil _) (Num.nil _) HB2.out (by omega)
        refine bodyPost_ret (v := .tuple #[.agg #[.bool false, .slice none 0 0, .slice none 0 0], .bool false]) ?_ rfl (HRO.out _ _ (ReadOut.no (by obtain ⟨_, _, _, h⟩ := hret; exact h)))
        simp [results, Try.f61, go_sem, e0, e1, e2]
      · have hv2 := hg hgd
        obtain ⟨-, hg300, -⟩ := goodD_eq hgd
        have l2 := len_dig hg300
        obtain ⟨o2, k2, c2', rfl⟩ := hv2.shape
        have HV2 := Lib.hid hv2
        have HGD := Lib.hid hgd
        clear hg hng hgd hv2 hg300
        obtain ⟨r0, r1, r2, f0, f1, f2⟩ := Box3.facts BR2.out
        go_wp2_with fail
        refine (isZero_num HV2.out (by omega)).mono ?_; rintro e w3 ⟨rfl, rfl⟩
        by_cases hz : dval r.data.toList = 0
        · have hzd : decide (dval r.data.toList = 0) = true := by simp [hz]
          have HQ : Hid (readR true r.data.toList = none) := by
            show _ = _
            unfold readR; rw [HSP.out.1, HGD.out, hzd]; rfl
          have HRO : Hid (∀ e w', ReadOut w none e w' → ReadOut w (readR true r.data.toList) e w') := fun _ _ h => by rw [HQ.out]; exact h
          rw [hzd]
          clear hz hzd
          go_wp2_with fail
          obtain ⟨e0, e1, e2, hret⟩ := box_ret (t := false) (n := 0) (d := 0) BR2.out (Num.nil _) (Num.nil _) HB2.out (by omega)
          refine bodyPost_ret (v := .tuple #[.agg #[.bool false, .slice none 0 0, .slice none 0 0], .bool false]) ?_ rfl (HRO.out _ _ (ReadOut.no (by obtain ⟨_, _, _, h⟩ := hret; exact h)))
          simp [results, Try.f61, go_sem, e0, e1, e2]
        · have hzd : decide (dval r.data.toList = 0) = false := by simp [hz]
          have HSG : Hid ((true && decide (dval r.data.toList ≠ 0)) = true) := by show _ = _; simp [hz]
          have HZD := Lib.hid hzd
          rw [hzd]
          clear hz hzd
          have HRO : Hid (∀ e w', ReadOut w (some (true, dval r.data.toList, 1)) e w' → ReadOut w (readR true r.data.toList) e w') := fun e w' h => by
            unfold readR; rw [HSP.out.1, HSP.out.2, HGD.out]
            rw [if_pos (by first | rw [HZD.out]; rfl | rfl)]; exact h
          have IN := Lib.hid (fun w' h => integer_num (w := w') (va := .slice o2 k2 c2') (a := dval r.data.toList) true h (by omega))
          rw [HSG.out] at IN
          clear HSG HZD HSP HGD
          generalize dval r.data.toList = n at *
          go_wp2_with fail
          refine (IN.out _ HV2.out).mono ?_; rintro e w3 ⟨v3, rfl, hv3, hb3⟩
          obtain ⟨p5, q5, z5, p6, q6, z6, rfl, hx5, hx6⟩ := hv3.box
          have Hx5 := Lib.hid hx5; have Hx6 := Lib.hid hx6
          have BR3 := Lib.hid (BR2.out.go hb3); have HB3 := Lib.hid (bstep HB2.out hb3)
          clear hv3 hx5 hx6 hb3 r0 r1 r2 f0 f1 f2
          obtain ⟨r0, r1, r2, f0, f1, f2⟩ := Box3.facts BR3.out
          go_wp2_with fail
          obtain ⟨e0, e1, e2, hret⟩ := box_ret (t := true) BR3.out Hx5.out Hx6.out HB3.out (by omega)
          refine bodyPost_ret (v := .tuple #[.agg #[.bool true, .slice p5 q5 z5, .slice p6 q6 z6], .bool true]) ?_ rfl (HRO.out _ _ (ReadOut.ok hret))
          simp [results, Try.f61, go_sem, e0, e1, e2]

set_option maxRecDepth 100000 in
set_option maxHeartbeats 8000000 in
theorem read_false (s : ByteArray) (w : World) (hs : s.size ≤ 140737488355328) (h0 : 0 < s.size) (hm : ((s[0].toNat : Int) == 45) = false) : Calls Try.prog 61 #[.string s] w (ReadOut w (readR false s.data.toList)) := by
  obtain ⟨r, hr⟩ : ∃ r, r = s := ⟨_, rfl⟩
  subst hr
  have bR := Box3.new w (.bool false) (.slice none 0 0) (.slice none 0 0)
  have B1 := below_alloc w (.cells #[.bool false, .slice none 0 0, .slice none 0 0] 55)
  go_enter Try.func61, Try.ntmps61
  go_wp2_with fail
  have HM := Lib.hid hm; clear hm

  have hrl : r.data.toList.length = r.size := by simp
  have HRL := Lib.hid hrl; clear hrl
  have BR := Lib.hid bR; have HB1 := Lib.hid B1
  clear bR B1
  generalize w.alloc (.cells #[.bool false, .slice none 0 0, .slice none 0 0] 55) = w1 at *
  go_loop [5] (fun v5 => ∃ i : Nat, i ≤ r.size ∧ v5 = .int .i64 i ∧ Hid (∀ c ∈ r.data.toList.take i, c ≠ 47)) (fun v5 => r.size - (intOf v5).toNat)
  case atStart => exact ⟨0, Nat.zero_le _, rfl, by intro c hc; simp at hc⟩
  case round =>
    obtain ⟨i, hi, rfl, hno⟩ := hrel
    by_cases hlt : i < r.size
    · have hgi : r.data.toList[i]? = some r[i] := by rw [List.getElem?_eq_getElem (by rw [HRL.out]; exact hlt)]; rfl
      by_cases hc : r[i] = 47
      · have hce : ((r[i].toNat : Int) != 47) = false := by rw [hc]; rfl
        have HC : Hid (r.data.toList[i]? = some 47) := by show _ = _; rw [hgi, hc]
        have hsp := split_at (by rw [HRL.out]; exact hi) hno.out (.inr HC.out)
        have hdr : r.data.toList.drop i = 47 :: r.data.toList.drop (i + 1) := by
          have h' := HC.out
          rw [List.getElem?_eq_getElem (by rw [HRL.out]; exact hlt)] at h'
          rw [List.drop_eq_getElem_cons (by rw [HRL.out]; exact hlt), Option.some.inj h']
        rw [hdr] at hsp
        have HSP := Lib.hid hsp
        clear hc hgi hno hsp hdr
        have hie : ((i : Int) == (r.size : Int)) = false := by rw [beq_eq_false_iff_ne]; omega
        go_wp2_with fail
        refine (fromDigits_num _ _ (by simp; omega)).mono ?_; rintro e w2 ⟨v2, rfl, hb2, hg, hng⟩
        rw [toList_extract, List.drop_zero] at hg hng ⊢
        have BR2 := Lib.hid (BR.out.go hb2); have HB2 := Lib.hid (bstep HB1.out hb2)
        clear hb2
        cases hgd : goodD (r.data.toList.take i)
        · have HQ : Hid (readR false r.data.toList = none) := by
            show _ = _
            unfold readR; rw [HSP.out.1, hgd]; rfl
          have HRO : Hid (∀ e w', ReadOut w none e w' → ReadOut w (readR false r.data.toList) e w') := fun _ _ h => by rw [HQ.out]; exact h
          obtain rfl := hng hgd
          clear hg hng hgd
          obtain ⟨r0, r1, r2, f0, f1, f2⟩ := Box3.facts BR2.out
          go_wp2_with fail
          obtain ⟨e0, e1, e2, hret⟩ := box_ret (t := false) (n := 0) (d := 0) BR2.out (Num.nil _) (Num.nil _) HB2.out (by omega)
          refine bodyPost_ret (v := .tuple #[.agg #[.bool false, .slice none 0 0, .slice none 0 0], .bool false]) ?_ rfl (HRO.out _ _ (ReadOut.no (by obtain ⟨_, _, _, h⟩ := hret; exact h)))
          simp [results, Try.f61, go_sem, e0, e1, e2]
        · have hv2 := hg hgd
          obtain ⟨-, hg300, -⟩ := goodD_eq hgd
          have l2 := len_dig hg300
          obtain ⟨o2, k2, c2', rfl⟩ := hv2.shape
          have HV2 := Lib.hid hv2
          have HGD := Lib.hid hgd
          clear hg hng hgd hv2 hg300
          obtain ⟨r0, r1, r2, f0, f1, f2⟩ := Box3.facts BR2.out
          · have HSG : Hid ((false && decide (dval (r.data.toList.take i) ≠ 0)) = false) := rfl
            have HZD : Hid ((false && decide (dval (r.data.toList.take i) = 0)) = false) := rfl
            have hi1 : ((i : Int) + 1).toNat = i + 1 := by omega
            go_wp2_with fail
            refine (fromDigits_num _ _ (by simp; omega)).mono ?_; rintro e w3 ⟨v3, rfl, hb3, hg, hng⟩
            rw [toList_extract, show (r.data.toList.take r.size).drop (i + 1) = r.data.toList.drop (i + 1) from by rw [List.take_of_length_le (by rw [HRL.out]; exact Nat.le_refl _)]] at hg hng ⊢
            have BR3 := Lib.hid (BR2.out.go hb3); have HB3 := Lib.hid (bstep HB2.out hb3); have HV3 := Lib.hid (HV2.out.go hb3)
            clear hb3 r0 r1 r2 f0 f1 f2
            obtain ⟨r0, r1, r2, f0, f1, f2⟩ := Box3.facts BR3.out
            have HQ0 : Hid (readR false r.data.toList = if goodD (r.data.toList.drop (i + 1)) && !decide (dval (r.data.toList.drop (i + 1)) = 0) && !decide (dval (r.data.toList.drop (i + 1)) = 1) && decide (Nat.gcd (dval (r.data.toList.take i)) (dval (r.data.toList.drop (i + 1))) = 1) then some (false, dval (r.data.toList.take i), dval (r.data.toList.drop (i + 1))) else none) := by
              show _ = _
              unfold readR; rw [HSP.out.1, HSP.out.2, HGD.out]
              rw [if_pos (by first | rw [HZD.out]; rfl | rfl)]
            have HNO : Hid ((goodD (r.data.toList.drop (i + 1)) && !decide (dval (r.data.toList.drop (i + 1)) = 0) && !decide (dval (r.data.toList.drop (i + 1)) = 1) && decide (Nat.gcd (dval (r.data.toList.take i)) (dval (r.data.toList.drop (i + 1))) = 1)) = false → ∀ e w', ReadOut w none e w' → ReadOut w (readR false r.data.toList) e w') := fun hf e w' h => by
              rw [HQ0.out, hf]; exact h
            have HYES : Hid ((goodD (r.data.toList.drop (i + 1)) && !decide (dval (r.data.toList.drop (i + 1)) = 0) && !decide (dval (r.data.toList.drop (i + 1)) = 1) && decide (Nat.gcd (dval (r.data.toList.take i)) (dval (r.data.toList.drop (i + 1))) = 1)) = true → ∀ e w', ReadOut w (some (false, dval (r.data.toList.take i), dval (r.data.toList.drop (i + 1)))) e w' → ReadOut w (readR false r.data.toList) e w') := fun hf e w' h => by
              rw [HQ0.out, hf]; exact h
            clear HQ0 HSG HZD HSP HGD
            generalize dval (r.data.toList.take i) = n at *
            generalize hdd : dval (r.data.toList.drop (i + 1)) = d at *
            cases hgd : goodD (r.data.toList.drop (i + 1))
            · have HRO := Lib.hid (HNO.out (by rw [hgd]; rfl))
              obtain rfl := hng hgd
              clear hg hng hgd HNO HYES hdd
              go_wp2_with fail
              obtain ⟨e0, e1, e2, hret⟩ := box_ret (t := false) (n := 0) (d := 0) BR3.out (Num.nil _) (Num.nil _) HB3.out (by omega)
              refine bodyPost_ret (v := .tuple #[.agg #[.bool false, .slice none 0 0, .slice none 0 0], .bool false]) ?_ rfl (HRO.out _ _ (ReadOut.no (by obtain ⟨_, _, _, h⟩ := hret; exact h)))
              simp [results, Try.f61, go_sem, e0, e1, e2]
            · have hv3 := hg hgd
              obtain ⟨-, hg300, -⟩ := goodD_eq hgd
              rw [hdd] at hg300
              have l3 := len_dig hg300
              obtain ⟨o3, k3, c3', rfl⟩ := hv3.shape
              have HV := Lib.hid hv3
              have HGD := Lib.hid hgd
              clear hg hng hgd hv3 hg300 hdd
              go_wp2_with fail
              refine (isZero_num HV.out (by omega)).mono ?_; rintro e w4 ⟨rfl, rfl⟩
              by_cases h0 : d = 0
              · have h0d : decide (d = 0) = true := by simp [h0]
                have HRO := Lib.hid (HNO.out (by rw [HGD.out, h0d]; rfl))
                rw [h0d]
                clear h0 h0d HNO HYES
                go_wp2_with fail
                obtain ⟨e0, e1, e2, hret⟩ := box_ret (t := false) (n := 0) (d := 0) BR3.out (Num.nil _) (Num.nil _) HB3.out (by omega)
                refine bodyPost_ret (v := .tuple #[.agg #[.bool false, .slice none 0 0, .slice none 0 0], .bool false]) ?_ rfl (HRO.out _ _ (ReadOut.no (by obtain ⟨_, _, _, h⟩ := hret; exact h)))
                simp [results, Try.f61, go_sem, e0, e1, e2]
              · have h0d : decide (d = 0) = false := by simp [h0]
                have H0D := Lib.hid h0d
                rw [h0d]
                have H0 := Lib.hid h0
                clear h0 h0d
                go_wp2_with fail
                refine (isOne_num HV.out (by omega)).mono ?_; rintro e w4 ⟨rfl, rfl⟩
                by_cases h1 : d = 1
                · have h1d : decide (d = 1) = true := by simp [h1]
                  have HRO := Lib.hid (HNO.out (by rw [HGD.out, H0D.out, h1d]; rfl))
                  rw [h1d]
                  clear h1 h1d HNO HYES
                  go_wp2_with fail
                  obtain ⟨e0, e1, e2, hret⟩ := box_ret (t := false) (n := 0) (d := 0) BR3.out (Num.nil _) (Num.nil _) HB3.out (by omega)
                  refine bodyPost_ret (v := .tuple #[.agg #[.bool false, .slice none 0 0, .slice none 0 0], .bool false]) ?_ rfl (HRO.out _ _ (ReadOut.no (by obtain ⟨_, _, _, h⟩ := hret; exact h)))
                  simp [results, Try.f61, go_sem, e0, e1, e2]
                · have h1d : decide (d = 1) = false := by simp [h1]
                  have H1D := Lib.hid h1d
                  rw [h1d]
                  clear h1 h1d
                  go_wp2_with fail
                  refine (divisor_num HV3.out HV.out (by omega) (by omega)).mono ?_; rintro e w4 ⟨v4, rfl, hv4, hb4⟩
                  have lgd : Len (Nat.gcd n d) ≤ 34 := Nat.le_trans (len_mono (Nat.gcd_le_right _ (Nat.pos_of_ne_zero H0.out))) l3
                  have HV4 := Lib.hid hv4
                  have BR4 := Lib.hid (BR3.out.go hb4); have HB4 := Lib.hid (bstep HB3.out hb4); have HN4 := Lib.hid (HV3.out.go hb4); have HD4 := Lib.hid (HV.out.go hb4)
                  clear hv4 hb4 r0 r1 r2 f0 f1 f2
                  obtain ⟨r0, r1, r2, f0, f1, f2⟩ := Box3.facts BR4.out
                  go_wp2_with fail
                  refine (isOne_num HV4.out (by omega)).mono ?_; rintro e w5 ⟨rfl, rfl⟩
                  by_cases hgc : Nat.gcd n d = 1
                  · have hgd : decide (Nat.gcd n d = 1) = true := by simp [hgc]
                    have HRO := Lib.hid (HYES.out (by rw [HGD.out, H0D.out, H1D.out, hgd]; rfl))
                    rw [hgd]
                    clear hgc hgd HNO HYES
                    go_wp2_with fail
                    obtain ⟨e0, e1, e2, hret⟩ := box_ret (t := false) BR4.out HN4.out HD4.out HB4.out (by omega)
                    refine bodyPost_ret (v := .tuple #[.agg #[.bool false, .slice o2 k2 c2', .slice o3 k3 c3'], .bool true]) ?_ rfl (HRO.out _ _ (ReadOut.ok hret))
                    simp [results, Try.f61, go_sem, e0, e1, e2]
                  · have hgd : decide (Nat.gcd n d = 1) = false := by simp [hgc]
                    have HRO := Lib.hid (HNO.out (by rw [HGD.out, H0D.out, H1D.out, hgd]; rfl))
                    rw [hgd]
                    clear hgc hgd HNO HYES
                    go_wp2_with fail
                    obtain ⟨e0, e1, e2, hret⟩ := box_ret (t := false) (n := 0) (d := 0) BR4.out (Num.nil _) (Num.nil _) HB4.out (by omega)
                    refine bodyPost_ret (v := .tuple #[.agg #[.bool false, .slice none 0 0, .slice none 0 0], .bool false]) ?_ rfl (HRO.out _ _ (ReadOut.no (by obtain ⟨_, _, _, h⟩ := hret; exact h)))
                    simp [results, Try.f61, go_sem, e0, e1, e2]
      · have hcn : r[i].toNat ≠ 47 := fun h => hc (UInt8.toNat_inj.1 h)
        have hce : ((r[i].toNat : Int) != 47) = true := by rw [bne_iff_ne]; omega
        have HN := Lib.hid (take_step hno.out hgi hc)
        clear hc hgi hno hcn
        go_wp2_with fail
        go_round
        case rel => exact ⟨i + 1, hlt, by go_num, HN.out⟩
        case measure => simp [intOf]; omega
    · obtain rfl : i = r.size := by omega
      have hsp := split_at (by rw [HRL.out]; exact hi) hno.out (.inl HRL.out.symm)
      rw [List.drop_of_length_le (by rw [HRL.out]; exact Nat.le_refl _), List.take_of_length_le (by rw [HRL.out]; exact Nat.le_refl _)] at hsp
      have HSP := Lib.hid hsp
      clear hno hsp hlt
      have hie : ((r.size : Int) == (r.size : Int)) = true := by simp
      go_wp2_with fail
      refine (fromDigits_num _ _ (by omega)).mono ?_; rintro e w2 ⟨v2, rfl, hb2, hg, hng⟩
      have BR2 := Lib.hid (BR.out.go hb2); have HB2 := Lib.hid (bstep HB1.out hb2)
      clear hb2
      cases hgd : goodD r.data.toList
      · have HQ : Hid (readR false r.data.toList = none) := by
          show _ = _
          unfold readR; rw [HSP.out.1, hgd]; rfl
        have HRO : Hid (∀ e w', ReadOut w none e w' → ReadOut w (readR false r.data.toList) e w') := fun _ _ h => by rw [HQ.out]; exact h
        obtain rfl := hng hgd
        clear hg hng hgd
        obtain ⟨r0, r1, r2, f0, f1, f2⟩ := Box3.facts BR2.out
        go_wp2_with fail
        obtain ⟨e0, e1, e2, hret⟩ := box_ret (t := false) (n := 0) (d := 0) BR2.out (Num.nil _) (Num.nil _) HB2.out (by omega)
        refine bodyPost_ret (v := .tuple #[.agg #[.bool false, .slice none 0 0, .slice none 0 0], .bool false]) ?_ rfl (HRO.out _ _ (ReadOut.no (by obtain ⟨_, _, _, h⟩ := hret; exact h)))
        simp [results, Try.f61, go_sem, e0, e1, e2]
      · have hv2 := hg hgd
        obtain ⟨-, hg300, -⟩ := goodD_eq hgd
        have l2 := len_dig hg300
        obtain ⟨o2, k2, c2', rfl⟩ := hv2.shape
        have HV2 := Lib.hid hv2
        have HGD := Lib.hid hgd
        clear hg hng hgd hv2 hg300
        obtain ⟨r0, r1, r2, f0, f1, f2⟩ := Box3.facts BR2.out
        · have HSG : Hid ((false && decide (dval r.data.toList ≠ 0)) = false) := rfl
          have HZD : Hid ((false && decide (dval r.data.toList = 0)) = false) := rfl
          have HRO : Hid (∀ e w', ReadOut w (some (false, dval r.data.toList, 1)) e w' → ReadOut w (readR false r.data.toList) e w') := fun e w' h => by
            unfold readR; rw [HSP.out.1, HSP.out.2, HGD.out]
            rw [if_pos (by first | rw [HZD.out]; rfl | rfl)]; exact h
          have IN := Lib.hid (fun w' h => integer_num (w := w') (va := .slice o2 k2 c2') (a := dval r.data.toList) false h (by omega))
          rw [HSG.out] at IN
          clear HSG HZD HSP HGD
          generalize dval r.data.toList = n at *
          go_wp2_with fail
          refine (IN.out _ HV2.out).mono ?_; rintro e w3 ⟨v3, rfl, hv3, hb3⟩
          obtain ⟨p5, q5, z5, p6, q6, z6, rfl, hx5, hx6⟩ := hv3.box
          have Hx5 := Lib.hid hx5; have Hx6 := Lib.hid hx6
          have BR3 := Lib.hid (BR2.out.go hb3); have HB3 := Lib.hid (bstep HB2.out hb3)
          clear hv3 hx5 hx6 hb3 r0 r1 r2 f0 f1 f2
          obtain ⟨r0, r1, r2, f0, f1, f2⟩ := Box3.facts BR3.out
          go_wp2_with fail
          obtain ⟨e0, e1, e2, hret⟩ := box_ret (t := false) BR3.out Hx5.out Hx6.out HB3.out (by omega)
          refine bodyPost_ret (v := .tuple #[.agg #[.bool false, .slice p5 q5 z5, .slice p6 q6 z6], .bool true]) ?_ rfl (HRO.out _ _ (ReadOut.ok hret))
          simp [results, Try.f61, go_sem, e0, e1, e2]
end Go.Proofs.Ytlkdahgfnfdakaa

namespace Go.Proofs.Ytlkdahgfnfdakaa
open Go.RowKit Go.Shelf WN LM

theorem toList_nil {s : ByteArray} (h : s.size ≤ 0) : s.data.toList = [] := by
  have e : s.data.toList.length = s.size := by simp
  exact List.length_eq_zero_iff.1 (by omega)

set_option maxRecDepth 100000 in
set_option maxHeartbeats 8000000 in
theorem read_empty (r : ByteArray) (w : World) (h0 : r.size ≤ 0) : Calls Try.prog 61 #[.string r] w (ReadOut w none) := by
  have bR := Box3.new w (.bool false) (.slice none 0 0) (.slice none 0 0)
  have B1 := below_alloc w (.cells #[.bool false, .slice none 0 0, .slice none 0 0] 55)
  go_enter Try.func61, Try.ntmps61
  go_wp2_with fail
  have BR := Lib.hid bR; have HB1 := Lib.hid B1
  clear bR B1
  generalize w.alloc (.cells #[.bool false, .slice none 0 0, .slice none 0 0] 55) = w1 at *
  go_loop [5] (fun v5 => v5 = .int .i64 0) (fun _ => 0)
  case atStart => rfl
  case round =>
    subst hrel
    go_wp2_with fail
    refine (fromDigits_num _ _ (by simp)).mono ?_; rintro e w2 ⟨v2, rfl, hb2, hg, hng⟩
    have hgd : goodD ByteArray.empty.data.toList = false := rfl
    rw [hgd]
    obtain rfl := hng hgd
    have BR2 := Lib.hid (BR.out.go hb2); have HB2 := Lib.hid (bstep HB1.out hb2)
    clear hb2 hg hng hgd
    obtain ⟨r0, r1, r2, f0, f1, f2⟩ := Box3.facts BR2.out
    go_wp2_with fail
    obtain ⟨e0, e1, e2, hret⟩ := box_ret (t := false) (n := 0) (d := 0) BR2.out (Num.nil _) (Num.nil _) HB2.out (by omega)
    refine bodyPost_ret (v := .tuple #[.agg #[.bool false, .slice none 0 0, .slice none 0 0], .bool false]) ?_ rfl (ReadOut.no (by obtain ⟨_, _, _, h⟩ := hret; exact h))
    simp [results, Try.f61, go_sem, e0, e1, e2]

/-- read -/
theorem read_num (s : ByteArray) (w : World) (hs : s.size ≤ 140737488355328) : Calls Try.prog 61 #[.string s] w (ReadOut w (readQ s.data.toList)) := by
  by_cases h0 : 0 < s.size
  · have hh : s.data.toList.head? = some s[0] := by
      rw [List.head?_eq_getElem?, List.getElem?_eq_getElem (by simpa using h0)]; rfl
    unfold readQ
    rw [hh]
    by_cases hm : s[0] = 45
    · rw [if_pos (by rw [hm])]
      have := read_true s w hs h0 (by rw [hm]; rfl)
      rwa [List.drop_one] at this
    · rw [if_neg (by simpa using hm)]
      refine read_false s w hs h0 ?_
      rw [beq_eq_false_iff_ne]
      intro h
      exact hm (UInt8.toNat_inj.1 (by have : (45 : UInt8).toNat = 45 := rfl; omega))
  · have hl : s.data.toList = [] := toList_nil (by omega)
    have := read_empty s w (by omega)
    rw [hl]
    exact this
end Go.Proofs.Ytlkdahgfnfdakaa

namespace Go.Proofs.Ytlkdahgfnfdakaa
open Go.RowKit Go.Shelf WN LM

abbrev Q3 := Bool × Nat × Nat
/-- v is a slice that holds the strings l -/
def Strs (w : World) (v : Value) (l : List ByteArray) : Prop :=
  ∃ oa cap, v = .slice oa l.length cap ∧ ∀ i, (hi : i < l.length) → ∃ b off, oa = some ⟨b, off, none⟩ ∧ w.cell? ⟨b, off + i, none⟩ = some (.string l[i])
theorem Strs.go {w w' : World} {v : Value} {l : List ByteArray} (h : Strs w v l) (hb : Below w.heap.size w w') : Strs w' v l := by
  obtain ⟨oa, cap, rfl, hc⟩ := h
  refine ⟨oa, cap, rfl, fun i hi => ?_⟩
  obtain ⟨b, off, rfl, h1⟩ := hc i hi
  exact ⟨b, off, rfl, (hb.cell (p := ⟨b, off + i, none⟩) (block_lt_of_cell h1)).trans h1⟩

def noInt : Value → Prop
  | .int _ _ => False
  | _ => True
/-- the first k numbers of a row of numbers -/
def Numsat (w : World) (cur : Array Value) (l : List Q3) (k : Nat) : Prop :=
  ∀ i, i < k → (hi : i < l.length) → ∃ vn vd, cur[i * 3]? = some (.bool l[i].1) ∧ cur[i * 3 + 1]? = some vn ∧ cur[i * 3 + 2]? = some vd ∧ Num w vn l[i].2.1 ∧ Num w vd l[i].2.2
/-- block g is a row of n numbers, of which k stand there -/
def NRow (w : World) (g n : Nat) (l : List Q3) (k : Nat) : Prop :=
  ∃ cur, w.heap[g]? = some (.cells cur 55 (0, 0)) ∧ cur.size = 3 * n ∧ (∀ x ∈ cur, noInt x) ∧ Numsat w cur l k
theorem NRow.lt {w : World} {g n k : Nat} {l : List Q3} (h : NRow w g n l k) : g < w.heap.size := by
  obtain ⟨cur, h1, _⟩ := h; exact lt_of_block h1
theorem NRow.go {w w' : World} {g n k : Nat} {l : List Q3} (h : NRow w g n l k) (hb : Below w.heap.size w w') : NRow w' g n l k := by
  obtain ⟨cur, h1, h2, h3, h4⟩ := h
  refine ⟨cur, (hb.block g (lt_of_block h1)).trans h1, h2, h3, fun i hi hl => ?_⟩
  obtain ⟨vn, vd, e1, e2, e3, e4, e5⟩ := h4 i hi hl
  exact ⟨vn, vd, e1, e2, e3, e4.go hb, e5.go hb⟩
theorem Num.off {W W' : World} {v : Value} {n g : Nat} {cur : Array Value} {t : TypeId} {z : Nat × Nat} (h : Num W v n) (hg : W.heap[g]? = some (.cells cur t z)) (hn : ∀ x ∈ cur, noInt x) (hoff : ∀ b, b ≠ g → W'.heap[b]? = W.heap[b]?) : Num W' v n := by
  obtain ⟨l, ⟨oa, ca, rfl, hc, hcell⟩, hl⟩ := h
  refine ⟨l, ⟨oa, ca, rfl, hc, fun i hi => ?_⟩, hl⟩
  obtain ⟨b, off, rfl, e⟩ := hcell i hi
  refine ⟨b, off, rfl, ?_⟩
  have hne : b ≠ g := by
    rintro rfl
    unfold World.cell? at e
    rw [hg] at e
    have e' : cur[off + i]? = some (.int .u32 (l[i] : Nat)) := by simpa using e
    exact hn _ (Array.mem_of_getElem? e')
  unfold World.cell?
  rw [hoff b hne]
  exact e
theorem three_off (W : World) (g a b c : Nat) (x y z : Value) : ∀ k, k ≠ g → (((W.setCell ⟨g, a, none⟩ x).setCell ⟨g, b, none⟩ y).setCell ⟨g, c, none⟩ z).heap[k]? = W.heap[k]? := fun k hk => by
  rw [heap_setCell_other _ _ _ _ hk, heap_setCell_other _ _ _ _ hk, heap_setCell_other _ _ _ _ hk]
theorem three_at {w w' : World} {B g a b c : Nat} {x y z : Value} (h : Below B w w') (hg : B ≤ g) : Below B w (((w'.setCell ⟨g, a, none⟩ x).setCell ⟨g, b, none⟩ y).setCell ⟨g, c, none⟩ z) :=
  ((h.setCell (p := ⟨g, a, none⟩) hg _).setCell (p := ⟨g, b, none⟩) hg _).setCell (p := ⟨g, c, none⟩) hg _
theorem noInt_set {cur : Array Value} (h : ∀ x ∈ cur, noInt x) (i : Nat) {v : Value} (hv : noInt v) : ∀ x ∈ cur.setIfInBounds i v, noInt x := by
  intro x hx
  rcases Array.mem_or_eq_of_mem_setIfInBounds hx with h1 | rfl
  · exact h x h1
  · exact hv
/-- one more number is stored -/
theorem NRow.store {w : World} {g n k : Nat} {l : List Q3} (h : NRow w g n l k) (hk : k < n) {s : Bool} {o1 o2 : Option Addr} {k1 c1 k2 c2 N D : Nat} (hl : l[k]? = some (s, N, D)) (hN : Num w (.slice o1 k1 c1) N) (hD : Num w (.slice o2 k2 c2) D) :
    NRow (((w.setCell ⟨g, k * 3, none⟩ (.bool s)).setCell ⟨g, k * 3 + 1, none⟩ (.slice o1 k1 c1)).setCell ⟨g, k * 3 + 2, none⟩ (.slice o2 k2 c2)) g n l (k + 1) := by
  obtain ⟨cur, h1, h2, h3, h4⟩ := h
  have e1 := heap_setCell_same w g (k * 3) cur 55 (.bool s) h1
  have e2 := heap_setCell_same _ g (k * 3 + 1) _ 55 (.slice o1 k1 c1) e1
  have e3 := heap_setCell_same _ g (k * 3 + 2) _ 55 (.slice o2 k2 c2) e2
  have hoff := three_off w g (k * 3) (k * 3 + 1) (k * 3 + 2) (.bool s) (.slice o1 k1 c1) (.slice o2 k2 c2)
  refine ⟨_, e3, by simp [h2], noInt_set (noInt_set (noInt_set h3 (k * 3) (v := .bool s) trivial) (k * 3 + 1) (v := .slice o1 k1 c1) trivial) (k * 3 + 2) (v := .slice o2 k2 c2) trivial, fun i hi hil => ?_⟩
  rcases Nat.lt_or_ge i k with hik | hik
  · obtain ⟨vn, vd, g1, g2, g3, g4, g5⟩ := h4 i hik hil
    refine ⟨vn, vd, ?_, ?_, ?_, g4.off h1 h3 hoff, g5.off h1 h3 hoff⟩
    · rw [Array.getElem?_setIfInBounds_ne (by omega), Array.getElem?_setIfInBounds_ne (by omega), Array.getElem?_setIfInBounds_ne (by omega)]; exact g1
    · rw [Array.getElem?_setIfInBounds_ne (by omega), Array.getElem?_setIfInBounds_ne (by omega), Array.getElem?_setIfInBounds_ne (by omega)]; exact g2
    · rw [Array.getElem?_setIfInBounds_ne (by omega), Array.getElem?_setIfInBounds_ne (by omega), Array.getElem?_setIfInBounds_ne (by omega)]; exact g3
  · obtain rfl : i = k := by omega
    have e : l[i] = (s, N, D) := by
      rw [List.getElem?_eq_getElem hil] at hl; exact Option.some.inj hl
    rw [e]
    refine ⟨.slice o1 k1 c1, .slice o2 k2 c2, ?_, ?_, ?_, hN.off h1 h3 hoff, hD.off h1 h3 hoff⟩
    · rw [Array.getElem?_setIfInBounds_ne (by omega), Array.getElem?_setIfInBounds_ne (by omega), Array.getElem?_setIfInBounds_self_of_lt (by rw [h2]; omega)]
    · rw [Array.getElem?_setIfInBounds_ne (by omega), Array.getElem?_setIfInBounds_self_of_lt (by simp [h2]; omega)]
    · rw [Array.getElem?_setIfInBounds_self_of_lt (by simp [h2]; omega)]
theorem NRow.cells {w : World} {g n k : Nat} {l : List Q3} (h : NRow w g n l k) {i : Nat} (hi : i < n) :
    ∃ x y z, w.cell? ⟨g, i * 3, none⟩ = some x ∧ w.cell? ⟨g, i * 3 + 1, none⟩ = some y ∧ w.cell? ⟨g, i * 3 + 2, none⟩ = some z ∧ w.frozen? ⟨g, i * 3, none⟩ = false ∧ w.frozen? ⟨g, i * 3 + 1, none⟩ = false ∧ w.frozen? ⟨g, i * 3 + 2, none⟩ = false := by
  obtain ⟨cur, h1, h2, h3, h4⟩ := h
  refine ⟨cur[i * 3]'(by omega), cur[i * 3 + 1]'(by omega), cur[i * 3 + 2]'(by omega), ?_, ?_, ?_, frozen_of_row w g _ _ _ h1, frozen_of_row w g _ _ _ h1, frozen_of_row w g _ _ _ h1⟩
  · rw [cell_of_row w g _ _ _ _ h1]; simp
  · rw [cell_of_row w g _ _ _ _ h1]; simp
  · rw [cell_of_row w g _ _ _ _ h1]; simp
/-- a number of the row -/
theorem NRow.get {w : World} {g n k : Nat} {l : List Q3} (h : NRow w g n l k) {i : Nat} (hi : i < k) (hl : i < l.length) :
    ∃ o1 k1 c1 o2 k2 c2, w.cell? ⟨g, i * 3, none⟩ = some (.bool l[i].1) ∧ w.cell? ⟨g, i * 3 + 1, none⟩ = some (.slice o1 k1 c1) ∧ w.cell? ⟨g, i * 3 + 2, none⟩ = some (.slice o2 k2 c2) ∧ Num w (.slice o1 k1 c1) l[i].2.1 ∧ Num w (.slice o2 k2 c2) l[i].2.2 := by
  obtain ⟨cur, h1, h2, h3, h4⟩ := h
  obtain ⟨vn, vd, e1, e2, e3, e4, e5⟩ := h4 i hi hl
  obtain ⟨o1, k1, c1, rfl⟩ := e4.shape
  obtain ⟨o2, k2, c2, rfl⟩ := e5.shape
  refine ⟨o1, k1, c1, o2, k2, c2, ?_, ?_, ?_, e4, e5⟩
  · rw [cell_of_row w g _ _ _ _ h1]; exact e1
  · rw [cell_of_row w g _ _ _ _ h1]; exact e2
  · rw [cell_of_row w g _ _ _ _ h1]; exact e3
theorem NRow.new (w : World) (n : Nat) (l : List Q3) : NRow (w.alloc (.cells (madeCells #[.bool false, .slice none 0 0, .slice none 0 0] (n * 3)) 55)) w.heap.size n l 0 := by
  refine ⟨_, heap_alloc_new w _, by rw [size_madeCells]; omega, fun x hx => ?_, fun i hi => absurd hi (Nat.not_lt_zero _)⟩
  simp only [madeCells, Array.mem_map, Array.mem_range] at hx
  obtain ⟨j, _, rfl⟩ := hx
  have : j % 3 = 0 ∨ j % 3 = 1 ∨ j % 3 = 2 := by omega
  rcases this with h | h | h <;> simp [h, noInt]

theorem Try.info55 : (Try.prog.info? 55).map (fun i => (i.zero, i.size, i.bytes)) = some (some (.agg #[.bool false, .slice none 0 0, .slice none 0 0]), 3, 56) := by kernel_rfl
theorem make_numbers (w : World) (n : Nat) (hn : n ≤ 1000000000000) :
    (Instr.makeSlice 49 (.int .i64 (n : Int)) (.int .i64 (n : Int))).run Try.prog w = .ok (.slice (some ⟨w.heap.size, 0, none⟩) n n) (w.alloc (.cells (madeCells #[.bool false, .slice none 0 0, .slice none 0 0] (n * 3)) 55)) := by
  obtain ⟨i0, hi, hz0, hz1, hz2⟩ := info_parts Try.info55
  rw [run_make w 49 55 i0 _ Try.underlying49 hi hz0 .i64 .i64 n n (by omega) (by omega) (by rw [hz2]; omega) (by omega), hz1]
  rfl

/-- all texts are read -/
def readAll : List ByteArray → Option (List Q3)
  | [] => some []
  | s :: l => match readQ s.data.toList, readAll l with
    | some q, some qs => some (q :: qs)
    | _, _ => none
/-- what parse returns -/
def ParseOut (w : World) (o : Option (List Q3)) (e : Ending) (w' : World) : Prop :=
  Below w.heap.size w w' ∧ match o with
    | none => e = .returned (.tuple #[.slice none 0 0, .int .i64 1])
    | some qs => ∃ g cap, e = .returned (.tuple #[.slice (some ⟨g, 0, none⟩) qs.length cap, .int .i64 0]) ∧ NRow w' g qs.length qs qs.length
/-- the same, the capacity told -/
def ParseOut2 (w : World) (o : Option (List Q3)) (e : Ending) (w' : World) : Prop :=
  Below w.heap.size w w' ∧ match o with
    | none => e = .returned (.tuple #[.slice none 0 0, .int .i64 1])
    | some qs => ∃ g, e = .returned (.tuple #[.slice (some ⟨g, 0, none⟩) qs.length qs.length, .int .i64 0]) ∧ NRow w' g qs.length qs qs.length

theorem NRow.ext {w : World} {g n k : Nat} {l l' : List Q3} (h : NRow w g n l k) (he : ∀ i, i < k → l'[i]? = l[i]?) : NRow w g n l' k := by
  obtain ⟨cur, h1, h2, h3, h4⟩ := h
  refine ⟨cur, h1, h2, h3, fun i hi hl => ?_⟩
  have e := he i hi
  rw [List.getElem?_eq_getElem hl] at e
  have hl' : i < l.length := (List.getElem?_eq_some_iff.1 e.symm).1
  have e2 : l'[i] = l[i] := by rw [List.getElem?_eq_getElem hl'] at e; exact Option.some.inj e
  rw [e2]; exact h4 i hi hl'
theorem readAll_some : ∀ (L : List ByteArray) (qs : List Q3), qs.length = L.length → (∀ j (h : j < L.length) (h' : j < qs.length), readQ L[j].data.toList = some qs[j]) → readAll L = some qs
  | [], qs, hl, _ => by rw [List.length_eq_zero_iff.1 hl]; rfl
  | s :: L, [], hl, _ => by simp at hl
  | s :: L, q :: qs, hl, h => by
    have h0 := h 0 (by simp) (by simp)
    have h1 := readAll_some L qs (by simpa using hl) (fun j hj hj' => h (j + 1) (by simpa using hj) (by simpa using hj'))
    simp only [List.getElem_cons_zero] at h0
    rw [readAll, h0, h1]
theorem readAll_none : ∀ (L : List ByteArray) (j : Nat) (h : j < L.length), readQ L[j].data.toList = none → readAll L = none
  | s :: L, 0, h, hn => by
    simp only [List.getElem_cons_zero] at hn
    rw [readAll, hn]
  | s :: L, j + 1, h, hn => by
    have := readAll_none L j (by simpa using h) (by simpa using hn)
    rw [readAll, this]
    cases readQ s.data.toList <;> rfl

def ParseI (L : List ByteArray) (w : World) (i : Nat) (W : World) : Prop :=
  ∃ qs : List Q3, qs.length = i ∧ (∀ j (h : j < L.length) (h' : j < qs.length), readQ L[j].data.toList = some qs[j]) ∧ NRow W w.heap.size L.length qs i ∧ Below w.heap.size w W

set_option maxRecDepth 100000 in
set_option maxHeartbeats 1000000 in
theorem parse_cap {w : World} {v : Value} {L : List ByteArray} (hv : Strs w v L) (hn : L.length ≤ 1000000000000) (hs : ∀ s ∈ L, s.size ≤ 140737488355328) : Calls Try.prog 54 #[v] w (ParseOut2 w (readAll L)) := by
  obtain ⟨oa, cap, rfl, hcell⟩ := hv
  have HC := Lib.hid hcell; have HS := Lib.hid hs; clear hcell hs
  have hmk := fun w => make_numbers w L.length hn
  have hr0 := Lib.hid (NRow.new w L.length [])
  have hb0 := Lib.hid (below_alloc w (.cells (madeCells #[.bool false, .slice none 0 0, .slice none 0 0] (L.length * 3)) 55))
  go_enter Try.func54, Try.ntmps54
  go_wp2_with fail
  generalize w.alloc (.cells (madeCells #[.bool false, .slice none 0 0, .slice none 0 0] (L.length * 3)) 55) = w1 at *
  clear hmk
  go_loopw [14] (fun vi wr => ∃ i : Nat, i ≤ L.length ∧ vi = .int .i64 i ∧ Hid (ParseI L w i wr)) (fun vi _ => L.length - (intOf vi).toNat)
  case atStart => exact ⟨0, Nat.zero_le _, rfl, [], rfl, fun j h h' => absurd h' (Nat.not_lt_zero _), hr0.out, hb0.out⟩
  case round =>
    clear hr0 hb0
    obtain ⟨i, hi, rfl, hinv⟩ := hrel
    by_cases hlt : i < L.length
    · obtain ⟨b, off, rfl, hc⟩ := HC.out i hlt
      obtain ⟨qs, hq1, hq2, hq3, hq4⟩ := hinv.out
      have c0 := (hq4.cell (p := ⟨b, off + i, none⟩) (block_lt_of_cell hc)).trans hc
      have HSI := HS.out L[i] (List.getElem_mem hlt)
      have HQ2 := Lib.hid hq2; have HQ3 := Lib.hid hq3; have HQ4 := Lib.hid hq4; have HQ1 := Lib.hid hq1
      have HNO : Hid (readQ L[i].data.toList = none → readAll L = none) := readAll_none L i hlt
      have HLI : Hid (L[i]? = some L[i]) := List.getElem?_eq_getElem hlt
      have HYES : Hid (∀ q, readQ L[i].data.toList = some q → ∀ j (h : j < L.length) (h' : j < (qs ++ [q]).length), readQ L[j].data.toList = some (qs ++ [q])[j]) := fun q hq j h h' => by
        by_cases hj : j < qs.length
        · rw [List.getElem_append_left hj]; exact hq2 j h hj
        · have : j = i := by rw [List.length_append] at h'; simp at h'; omega
          subst this
          rw [List.getElem_append_right (by omega)]
          simpa using hq
      clear hinv hc hq1 hq2 hq3 hq4
      generalize L[i] = si at *
      go_wp2_with fail
      refine (read_num si _ HSI).mono ?_; rintro e w2 ⟨v2, hb2, hm⟩
      cases hq : readQ si.data.toList with
      | none =>
        rw [hq] at hm
        obtain ⟨rfl, rfl⟩ := hm
        have HR : Hid (∀ e w', ParseOut2 w none e w' → ParseOut2 w (readAll L) e w') := fun e w' h => by rw [HNO.out hq]; exact h
        have HB2 := Lib.hid (bstep HQ4.out hb2)
        clear hq hb2 c0
        go_wp2_with fail
        go_ret2
        refine HR.out _ _ ⟨HB2.out.trans ((below_alloc _ _).mono (by have := HB2.out.size; omega)), rfl⟩
      | some q =>
        rw [hq] at hm
        obtain ⟨s, N, D⟩ := q
        obtain ⟨rfl, hf⟩ := hm
        obtain ⟨o1, k1, c1', o2, k2, c2', rfl, hN, hD⟩ := hf.box
        have HB2 := Lib.hid (bstep HQ4.out hb2)
        have HY := Lib.hid (HYES.out _ hq)
        have HR2 := Lib.hid (HQ3.out.go hb2)
        have HN := Lib.hid hN; have HD := Lib.hid hD
        have bb := below_alloc w2 (.cells #[.bool s, .slice o1 k1 c1', .slice o2 k2 c2'] 55)
        have HR3 := Lib.hid (HR2.out.go bb); have HB3 := Lib.hid (HB2.out.trans (bb.mono (by have := HB2.out.size; omega)))
        have HN3 := Lib.hid (HN.out.go bb); have HD3 := Lib.hid (HD.out.go bb)
        have bx := Box3.new w2 (.bool s) (.slice o1 k1 c1') (.slice o2 k2 c2')
        have BX := Lib.hid bx
        clear hq hb2 hf hN hD c0 HNO HYES HQ3 HQ2 bb bx HR2 HN HD
        obtain ⟨x, y, z, c0, c1, c2, f0, f1, f2⟩ := HR3.out.cells hlt
        obtain ⟨d0, d1, d2⟩ := Box3.cells BX.out
        go_wp2_with fail
        go_roundw
        case rel =>
          refine ⟨i + 1, hlt, by go_num, qs ++ [(s, N, D)], by rw [List.length_append, HQ1.out]; rfl, HY.out, ?_, three_at HB3.out (Nat.le_refl _)⟩
          exact NRow.store (HR3.out.ext (fun j hj => by rw [List.getElem?_append_left (by rw [HQ1.out]; exact hj)])) hlt (by rw [List.getElem?_append_right (by rw [HQ1.out]; exact Nat.le_refl _), HQ1.out, Nat.sub_self]; rfl) HN3.out HD3.out
        case measure => simp [intOf]; omega
    · obtain rfl : i = L.length := by omega
      obtain ⟨qs, hq1, hq2, hq3, hq4⟩ := hinv.out
      have HR : Hid (∀ e w', ParseOut2 w (some qs) e w' → ParseOut2 w (readAll L) e w') := fun e w' h => by rw [readAll_some L qs hq1 hq2]; exact h
      have HQ3 := Lib.hid hq3; have HQ4 := Lib.hid hq4; have HQ1 := Lib.hid hq1
      clear hinv hq1 hq2 hq3 hq4 hlt
      go_wp2_with fail
      go_ret2
      refine HR.out _ _ ⟨HQ4.out, w.heap.size, ?_, ?_⟩
      · rw [HQ1.out]; rfl
      · rw [HQ1.out]; exact HQ3.out
theorem parse_num {w : World} {v : Value} {L : List ByteArray} (hv : Strs w v L) (hn : L.length ≤ 1000000000000) (hs : ∀ s ∈ L, s.size ≤ 140737488355328) : Calls Try.prog 54 #[v] w (ParseOut w (readAll L)) := by
  refine (parse_cap hv hn hs).mono ?_
  rintro e w' ⟨h1, h2⟩
  refine ⟨h1, ?_⟩
  cases hr : readAll L with
  | none => rw [hr] at h2; exact h2
  | some qs =>
    rw [hr] at h2
    obtain ⟨g, h3, h4⟩ := h2
    exact ⟨g, _, h3, h4⟩
end Go.Proofs.Ytlkdahgfnfdakaa

namespace Go.Proofs.Ytlkdahgfnfdakaa
open Go.RowKit Go.Shelf WN LM

def fitQ (n d : Nat) : Bool := decide (Dig n ≤ 300 ∧ Dig d ≤ 300)
/-- what is returned of a result: its text, or that it is too long -/
def outQ (s : Bool) (n d : Nat) : ByteArray × Int := if fitQ n d then (⟨(ratText s n d).toArray⟩, 0) else (⟨#[]⟩, 2)
def OutS (w : World) (x : ByteArray × Int) (e : Ending) (w' : World) : Prop := e = .returned (.tuple #[.string x.1, .int .i64 x.2]) ∧ Below w.heap.size w w'
theorem outQ_fit {s : Bool} {n d : Nat} (h : fitQ n d = true) : outQ s n d = (⟨(ratText s n d).toArray⟩, 0) := by unfold outQ; rw [if_pos h]
theorem outQ_long {s : Bool} {n d : Nat} (h : fitQ n d = false) : outQ s n d = (⟨#[]⟩, 2) := by unfold outQ; rw [if_neg (by simp [h])]

set_option maxHeartbeats 1000000 in
set_option maxRecDepth 100000 in
theorem write_num {w : World} {v : Value} {s : Bool} {n d : Nat} (h : Frac w v s n d) (ln : Len n ≤ 10000000000) (ld : Len d ≤ 10000000000) : Calls Try.prog 62 #[v] w (OutS w (outQ s n d)) := by
  obtain ⟨o1, k1, c1', o2, k2, c2', rfl, hn, hd⟩ := h.box
  clear h
  have b1 := below_alloc w (.cells #[.bool s, .slice o1 k1 c1', .slice o2 k2 c2'] 55)
  have HN := Lib.hid (hn.go b1); have HD := Lib.hid (hd.go b1)
  have BX := Lib.hid (Box3.new w (.bool s) (.slice o1 k1 c1') (.slice o2 k2 c2')); have HB := Lib.hid b1
  clear hn hd b1
  have FT := Lib.hid (fun w' v h => fits_num (w := w') (v := v) (s := s) (n := n) (d := d) h ln ld)
  obtain ⟨c0, c1, c2, f0, f1, f2⟩ := Box3.facts BX.out
  by_cases hf : fitQ n d = true
  · have hO := Lib.hid (outQ_fit (s := s) hf)
    have hf' := hf
    unfold fitQ at hf'
    have hfd := of_decide_eq_true hf'
    have l1 := len_dig hfd.1
    have l2 := len_dig hfd.2
    rw [hf'] at FT
    clear hf hf' hfd
    have TX := Lib.hid (fun w' v h => fracText_num (w := w') (v := v) (s := s) (n := n) (d := d) h (by omega) (by omega))
    go_enter Try.func62, Try.ntmps62
    go_wp2_with fail
    generalize w.alloc (.cells #[.bool s, .slice o1 k1 c1', .slice o2 k2 c2'] 55) = w1 at *
    refine (FT.out _ _ ⟨_, _, rfl, HN.out, HD.out⟩).mono ?_; rintro e w2 ⟨rfl, hb2⟩
    have HN2 := Lib.hid (HN.out.go hb2); have HD2 := Lib.hid (HD.out.go hb2); have HB2 := Lib.hid (bstep HB.out hb2)
    clear c0 c1 c2 f0 f1 f2
    obtain ⟨c0, c1, c2, f0, f1, f2⟩ := Box3.facts (BX.out.go hb2)
    clear hb2
    go_wp2_with fail
    refine (TX.out _ _ ⟨_, _, rfl, HN2.out, HD2.out⟩).mono ?_; rintro e w3 ⟨rfl, hb3⟩
    have HB3 := Lib.hid (bstep HB2.out hb3)
    clear hb3 c0 c1 c2 f0 f1 f2
    go_wp2_with fail
    go_ret2
    exact ⟨by rw [hO.out]; rfl, HB3.out⟩
  · have hff : fitQ n d = false := by simpa using hf
    have hO := Lib.hid (outQ_long (s := s) hff)
    unfold fitQ at hff
    rw [hff] at FT
    clear hf hff
    go_enter Try.func62, Try.ntmps62
    go_wp2_with fail
    generalize w.alloc (.cells #[.bool s, .slice o1 k1 c1', .slice o2 k2 c2'] 55) = w1 at *
    refine (FT.out _ _ ⟨_, _, rfl, HN.out, HD.out⟩).mono ?_; rintro e w2 ⟨rfl, hb2⟩
    have HB2 := Lib.hid (bstep HB.out hb2)
    clear hb2 c0 c1 c2 f0 f1 f2
    go_wp2_with fail
    go_ret2
    exact ⟨by rw [hO.out]; rfl, HB2.out⟩

/-- a result: its sign and terms -/
theorem NRow.one {w : World} {g : Nat} {p : Q3} (h : NRow w g 1 [p] 1) : ∃ o1 k1 c1 o2 k2 c2, w.cell? ⟨g, 0, none⟩ = some (.bool p.1) ∧ w.cell? ⟨g, 1, none⟩ = some (.slice o1 k1 c1) ∧ w.cell? ⟨g, 2, none⟩ = some (.slice o2 k2 c2) ∧ Num w (.slice o1 k1 c1) p.2.1 ∧ Num w (.slice o2 k2 c2) p.2.2 := by
  have := h.get (i := 0) (by omega) (by simp)
  simpa using this
theorem NRow.two {w : World} {g : Nat} {p q : Q3} (h : NRow w g 2 [p, q] 2) :
    (∃ o1 k1 c1 o2 k2 c2, w.cell? ⟨g, 0, none⟩ = some (.bool p.1) ∧ w.cell? ⟨g, 1, none⟩ = some (.slice o1 k1 c1) ∧ w.cell? ⟨g, 2, none⟩ = some (.slice o2 k2 c2) ∧ Num w (.slice o1 k1 c1) p.2.1 ∧ Num w (.slice o2 k2 c2) p.2.2) ∧
    (∃ o1 k1 c1 o2 k2 c2, w.cell? ⟨g, 3, none⟩ = some (.bool q.1) ∧ w.cell? ⟨g, 4, none⟩ = some (.slice o1 k1 c1) ∧ w.cell? ⟨g, 5, none⟩ = some (.slice o2 k2 c2) ∧ Num w (.slice o1 k1 c1) q.2.1 ∧ Num w (.slice o2 k2 c2) q.2.2) := by
  have h0 := h.get (i := 0) (by omega) (by simp)
  have h1 := h.get (i := 1) (by omega) (by simp)
  exact ⟨by simpa using h0, by simpa using h1⟩
theorem Strs.new1 (w : World) (a : ByteArray) : Strs (w.alloc (.cells #[.string a] 9)) (.slice (some ⟨w.heap.size, 0, none⟩) 1 1) [a] := by
  refine ⟨_, _, rfl, fun i hi => ⟨_, _, rfl, ?_⟩⟩
  obtain rfl : i = 0 := by simpa using hi
  rw [cell_of_row _ _ _ _ _ _ (heap_alloc_new w _)]; rfl
theorem Strs.new2 (w : World) (a b : ByteArray) : Strs (w.alloc (.cells #[.string a, .string b] 9)) (.slice (some ⟨w.heap.size, 0, none⟩) 2 2) [a, b] := by
  refine ⟨_, _, rfl, fun i hi => ⟨_, _, rfl, ?_⟩⟩
  have : i = 0 ∨ i = 1 := by simp at hi; omega
  rcases this with rfl | rfl <;> (rw [cell_of_row _ _ _ _ _ _ (heap_alloc_new w _)]; rfl)
theorem readAll_one (a : ByteArray) : readAll [a] = (readQ a.data.toList).map fun q => [q] := by
  simp only [readAll]; cases readQ a.data.toList <;> rfl
theorem readAll_two (a b : ByteArray) : readAll [a, b] = (readQ a.data.toList).bind fun p => (readQ b.data.toList).map fun q => [p, q] := by
  simp only [readAll]; cases readQ a.data.toList <;> cases readQ b.data.toList <;> rfl
/-- what is read has at most 300 digits in each term -/
theorem readR_dig {neg : Bool} {r : List UInt8} {s : Bool} {n d : Nat} (h : readR neg r = some (s, n, d)) : Dig n ≤ 300 ∧ Dig d ≤ 300 ∧ 0 < d ∧ s = neg ∧ Nat.gcd n d = 1 ∧ (s = true → n ≠ 0) ∧ r = decT n ++ (if d = 1 then [] else 47 :: decT d) := by
  unfold readR at h
  have hr : r = r.takeWhile (· != 47) ++ r.dropWhile (· != 47) := (List.takeWhile_append_dropWhile).symm
  split at h
  · rename_i h1
    simp only [Bool.and_eq_true, Bool.not_eq_true', Bool.and_eq_false_iff, decide_eq_false_iff_not] at h1
    obtain ⟨h1, h2⟩ := h1
    obtain ⟨g1, g2, g3⟩ := goodD_eq h1
    split at h
    · rename_i hd
      simp only [Option.some.injEq, Prod.mk.injEq] at h
      obtain ⟨rfl, rfl, rfl⟩ := h
      refine ⟨g2, by have := dig_le (n := 1) (k := 1) (by omega) (by omega); omega, by omega, rfl, Nat.gcd_one_right _, fun hs => ?_, ?_⟩
      · rcases h2 with h2 | h2
        · rw [hs] at h2; cases h2
        · exact h2
      · rw [hd, List.append_nil] at hr
        simp only [if_true, List.append_nil]
        rw [← g1]; exact hr
    · rename_i c t hd
      split at h
      · rename_i h3
        simp only [Bool.and_eq_true, Bool.not_eq_true', decide_eq_false_iff_not, decide_eq_true_eq] at h3
        obtain ⟨⟨⟨h3, h4⟩, h5⟩, h6⟩ := h3
        simp only [Option.some.injEq, Prod.mk.injEq] at h
        obtain ⟨rfl, rfl, rfl⟩ := h
        obtain ⟨g4, g5, g6⟩ := goodD_eq h3
        refine ⟨g2, g5, by omega, rfl, h6, fun hs => ?_, ?_⟩
        · rcases h2 with h2 | h2
          · rw [hs] at h2; cases h2
          · exact h2
        · rw [if_neg h5, ← g1, ← g4]
          have hc : c = 47 := by
            have hx : (r.dropWhile (· != 47)).head? = some c := by rw [hd]; rfl
            have := List.head?_dropWhile_not (fun x : UInt8 => x != 47) r
            rw [hx] at this
            simpa using this
          rw [hd, hc] at hr
          exact hr
      · cases h
  · cases h
theorem readQ_spec {l : List UInt8} {s : Bool} {n d : Nat} (h : readQ l = some (s, n, d)) : Dig n ≤ 300 ∧ Dig d ≤ 300 ∧ 0 < d ∧ Nat.gcd n d = 1 ∧ (s = true → n ≠ 0) ∧ l = ratText s n d := by
  unfold readQ at h
  split at h
  · rename_i hh
    obtain ⟨h1, h2, h3, h4, h5, h6, h7⟩ := readR_dig h
    refine ⟨h1, h2, h3, h5, h6, ?_⟩
    cases l with
    | nil => simp at hh
    | cons c l =>
      have : c = 45 := by simpa using hh
      subst this
      rw [h4]
      simp only [List.tail_cons] at h7
      rw [h7]; simp [ratText]
  · obtain ⟨h1, h2, h3, h4, h5, h6, h7⟩ := readR_dig h
    exact ⟨h1, h2, h3, h5, h6, by rw [h4, h7]; simp [ratText]⟩
end Go.Proofs.Ytlkdahgfnfdakaa
