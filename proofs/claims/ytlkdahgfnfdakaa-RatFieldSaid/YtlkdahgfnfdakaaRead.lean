import Derived.Test.YtlkdahgfnfdakaaText
namespace Go.Proofs.Ytlkdahgfnfdakaa
open Go.RowKit Go.Shelf WN LM

/-- the number that a text without a sign is, if it is one; neg: a sign was ahead -/
def readR (neg : Bool) (r : List UInt8) : Option (Bool × Nat × Nat) :=
  if goodD (r.takeWhile (· != 47)) && !(neg && decide (dval (r.takeWhile (· != 47)) = 0)) then
    match r.dropWhile (· != 47) with
    | [] => some (neg, dval (r.takeWhile (· != 47)), 1)
    | _ :: t => if goodD t && !decide (dval t = 0) && !decide (dval t = 1) && decide (Nat.gcd (dval (r.takeWhile (· != 47))) (dval t) = 1) then some (neg, dval (r.takeWhile (· != 47)), dval t) else none
  else none
def readQ (l : List UInt8) : Option (Bool × Nat × Nat) := if l.head? = some 45 then readR true l.tail else readR false l

/-- what read returns -/
def ReadOut (w : World) (o : Option (Bool × Nat × Nat)) (e : Ending) (w' : World) : Prop :=
  ∃ v, Below w.heap.size w w' ∧ match o with
    | none => v = .agg #[.bool false, .slice none 0 0, .slice none 0 0] ∧ e = .returned (.tuple #[v, .bool false])
    | some (s, n, d) => e = .returned (.tuple #[v, .bool true]) ∧ Frac w' v s n d
theorem ReadOut.ok {w w' : World} {s : Bool} {n d : Nat} {x : Value} (h : RetF w s n d (.returned x) w') : ReadOut w (some (s, n, d)) (.returned (.tuple #[x, .bool true])) w' := by
  obtain ⟨v, he, hf, hb⟩ := h
  cases he
  exact ⟨x, hb, rfl, hf⟩
theorem ReadOut.no {w w' : World} (h : Below w.heap.size w w') : ReadOut w none (.returned (.tuple #[.agg #[.bool false, .slice none 0 0, .slice none 0 0], .bool false])) w' := ⟨_, h, rfl, rfl⟩

theorem split_at {l : List UInt8} {i : Nat} (hi : i ≤ l.length) (h : ∀ c ∈ l.take i, c ≠ 47) (hx : i = l.length ∨ l[i]? = some 47) : l.takeWhile (· != 47) = l.take i ∧ l.dropWhile (· != 47) = l.drop i := by
  induction l generalizing i with
  | nil => simp
  | cons a l ih =>
    cases i with
    | zero =>
      rcases hx with hx | hx
      · simp at hx
      · simp only [List.getElem?_cons_zero, Option.some.injEq] at hx
        subst hx
        simp
    | succ i =>
      have ha : a ≠ 47 := h a (by simp)
      have := ih (i := i) (by simpa using hi) (fun c hc => h c (by simp [hc])) (by simpa using hx)
      simp [ha, this]

theorem take_step {l : List UInt8} {i : Nat} {c : UInt8} (h : ∀ c ∈ l.take i, c ≠ 47) (hc : l[i]? = some c) (hne : c ≠ 47) : ∀ c ∈ l.take (i + 1), c ≠ 47 := by
  intro x hx
  rw [List.take_add_one, hc] at hx
  rcases List.mem_append.1 hx with h1 | h1
  · exact h x h1
  · simp at h1; subst h1; exact hne

theorem toList_extract (s : ByteArray) (i j : Nat) : (s.extract i j).data.toList = (s.data.toList.take j).drop i := by
  simp [ByteArray.data_extract, List.drop_take]

set_option maxRecDepth 100000 in
set_option maxHeartbeats 8000000 in
theorem read_true (s : ByteArray) (w : World) (hs : s.size ≤ 140737488355328) (h1 : 1 ≤ s.size) (hm : ((s[0].toNat : Int) == 45) = true) : Calls Try.prog 61 #[.string s] w (ReadOut w (readR true (s.data.toList.drop 1))) := by
  have e0 : decide ((0 : Int) < (s.size : Int)) = true := by simp; omega
  obtain ⟨r, hr⟩ : ∃ r, r = s.extract 1 s.size := ⟨_, rfl⟩
  have hrs : r.size ≤ s.size := by rw [hr]; simp
  have hrd : s.data.toList.drop 1 = r.data.toList := by
    rw [hr, toList_extract, List.take_of_length_le (by simp)]
  rw [hrd]
  clear hrd
  have HR := Lib.hid hr; clear hr
  have bR := Box3.new w (.bool false) (.slice none 0 0) (.slice none 0 0)
  have B1 := below_alloc w (.cells #[.bool false, .slice none 0 0, .slice none 0 0] 55)
  go_enter Try.func61, Try.ntmps61
  go_wp2_with fail
  rw [← HR.out]
  have HM := Lib.hid hm; clear hm
  clear HR
  have hrl : r.data.toList.length = r.size := by simp
  have HRL := Lib.hid hrl; clear hrl
  have BR := Lib.hid bR; have HB1 := Lib.hid B1
  clear bR B1
  generalize w.alloc (.cells #[.bool false, .slice none 0 0, .slice none 0 0] 55) = w1 at *
  go_loop [5] (fun v5 => ∃ i : Nat, i ≤ r.size ∧ v5 = .int .i64 i ∧ Hid (∀ c ∈ r.data.toList.take i, c ≠ 47)) (fun v5 => r.size - (intOf v5).toNat)
  case atStart => exact ⟨0, Nat.zero_le _, rfl, by intro c hc; simp at hc⟩
  case round =>
    obtain ⟨i, hi, rfl, hno⟩ := hrel
    by_cases hlt : i < r.size
    · have hgi : r.data.toList[i]? = some r[i] := by rw [List.getElem?_eq_getElem (by rw [HRL.out]; exact hlt)]; rfl
      by_cases hc : r[i] = 47
      · have hce : ((r[i].toNat : Int) != 47) = false := by rw [hc]; rfl
        have HC : Hid (r.data.toList[i]? = some 47) := by show _ = _; rw [hgi, hc]
        have hsp := split_at (by rw [HRL.out]; exact hi) hno.out (.inr HC.out)
        have hdr : r.data.toList.drop i = 47 :: r.data.toList.drop (i + 1) := by
          have h' := HC.out
          rw [List.getElem?_eq_getElem (by rw [HRL.out]; exact hlt)] at h'
          rw [List.drop_eq_getElem_cons (by rw [HRL.out]; exact hlt), Option.some.inj h']
        rw [hdr] at hsp
        have HSP := Lib.hid hsp
        clear hc hgi hno hsp hdr
        have hie : ((i : Int) == (r.size : Int)) = false := by rw [beq_eq_false_iff_ne]; omega
        go_wp2_with fail
        refine (fromDigits_num _ _ (by simp; omega)).mono ?_; rintro e w2 ⟨v2, rfl, hb2, hg, hng⟩
        rw [toList_extract, List.drop_zero] at hg hng ⊢
        have BR2 := Lib.hid (BR.out.go hb2); have HB2 := Lib.hid (bstep HB1.out hb2)
        clear hb2
        cases hgd : goodD (r.data.toList.take i)
        · have HQ : Hid (readR true r.data.toList = none) := by
            show _ = _
            unfold readR; rw [HSP.out.1, hgd]; rfl
          have HRO : Hid (∀ e w', ReadOut w none e w' → ReadOut w (readR true r.data.toList) e w') := fun _ _ h => by rw [HQ.out]; exact h
          obtain rfl := hng hgd
          clear hg hng hgd
          obtain ⟨r0, r1, r2, f0, f1, f2⟩ := Box3.facts BR2.out
          go_wp2_with fail
          obtain ⟨e0, e1, e2, hret⟩ := box_ret (t := false) (n := 0) (d := 0) BR2.out (Num.nil _) (Num.nil _) HB2.out (by omega)
          refine bodyPost_ret (v := .tuple #[.agg #[.bool false, .slice none 0 0, .slice none 0 0], .bool false]) ?_ rfl (HRO.out _ _ (ReadOut.no (by obtain ⟨_, _, _, h⟩ := hret; exact h)))
          simp [results, Try.f61, go_sem, e0, e1, e2]
        · have hv2 := hg hgd
          obtain ⟨-, hg300, -⟩ := goodD_eq hgd
          have l2 := len_dig hg300
          obtain ⟨o2, k2, c2', rfl⟩ := hv2.shape
          have HV2 := Lib.hid hv2
          have HGD := Lib.hid hgd
          clear hg hng hgd hv2 hg300
          obtain ⟨r0, r1, r2, f0, f1, f2⟩ := Box3.facts BR2.out
          go_wp2_with fail
          refine (isZero_num HV2.out (by omega)).mono ?_; rintro e w3 ⟨rfl, rfl⟩
          by_cases hz : dval (r.data.toList.take i) = 0
          · have hzd : decide (dval (r.data.toList.take i) = 0) = true := by simp [hz]
            have HQ : Hid (readR true r.data.toList = none) := by
              show _ = _
              unfold readR; rw [HSP.out.1, HGD.out, hzd]; rfl
            have HRO : Hid (∀ e w', ReadOut w none e w' → ReadOut w (readR true r.data.toList) e w') := fun _ _ h => by rw [HQ.out]; exact h
            rw [hzd]
            clear hz hzd
            go_wp2_with fail
            obtain ⟨e0, e1, e2, hret⟩ := box_ret (t := false) (n := 0) (d := 0) BR2.out (Num.nil _) (Num.nil _) HB2.out (by omega)
            refine bodyPost_ret (v := .tuple #[.agg #[.bool false, .slice none 0 0, .slice none 0 0], .bool false]) ?_ rfl (HRO.out _ _ (ReadOut.no (by obtain ⟨_, _, _, h⟩ := hret; exact h)))
            simp [results, Try.f61, go_sem, e0, e1, e2]
          · have hzd : decide (dval (r.data.toList.take i) = 0) = false := by simp [hz]
            have HSG : Hid ((true && decide (dval (r.data.toList.take i) ≠ 0)) = true) := by show _ = _; simp [hz]
            have HZD := Lib.hid hzd
            rw [hzd]
            clear hz hzd
            have hi1 : ((i : Int) + 1).toNat = i + 1 := by omega
            go_wp2_with fail
            refine (fromDigits_num _ _ (by simp; omega)).mono ?_; rintro e w3 ⟨v3, rfl, hb3, hg, hng⟩
            rw [toList_extract, show (r.data.toList.take r.size).drop (i + 1) = r.data.toList.drop (i + 1) from by rw [List.take_of_length_le (by rw [HRL.out]; exact Nat.le_refl _)]] at hg hng ⊢
            have BR3 := Lib.hid (BR2.out.go hb3); have HB3 := Lib.hid (bstep HB2.out hb3); have HV3 := Lib.hid (HV2.out.go hb3)
            clear hb3 r0 r1 r2 f0 f1 f2
            obtain ⟨r0, r1, r2, f0, f1, f2⟩ := Box3.facts BR3.out
            have HQ0 : Hid (readR true r.data.toList = if goodD (r.data.toList.drop (i + 1)) && !decide (dval (r.data.toList.drop (i + 1)) = 0) && !decide (dval (r.data.toList.drop (i + 1)) = 1) && decide (Nat.gcd (dval (r.data.toList.take i)) (dval (r.data.toList.drop (i + 1))) = 1) then some (true, dval (r.data.toList.take i), dval (r.data.toList.drop (i + 1))) else none) := by
              show _ = _
              unfold readR; rw [HSP.out.1, HSP.out.2, HGD.out]
              rw [if_pos (by first | rw [HZD.out]; rfl | rfl)]
            have HNO : Hid ((goodD (r.data.toList.drop (i + 1)) && !decide (dval (r.data.toList.drop (i + 1)) = 0) && !decide (dval (r.data.toList.drop (i + 1)) = 1) && decide (Nat.gcd (dval (r.data.toList.take i)) (dval (r.data.toList.drop (i + 1))) = 1)) = false → ∀ e w', ReadOut w none e w' → ReadOut w (readR true r.data.toList) e w') := fun hf e w' h => by
              rw [HQ0.out, hf]; exact h
            have HYES : Hid ((goodD (r.data.toList.drop (i + 1)) && !decide (dval (r.data.toList.drop (i + 1)) = 0) && !decide (dval (r.data.toList.drop (i + 1)) = 1) && decide (Nat.gcd (dval (r.data.toList.take i)) (dval (r.data.toList.drop (i + 1))) = 1)) = true → ∀ e w', ReadOut w (some (true, dval (r.data.toList.take i), dval (r.data.toList.drop (i + 1)))) e w' → ReadOut w (readR true r.data.toList) e w') := fun hf e w' h => by
              rw [HQ0.out, hf]; exact h
            clear HQ0 HSG HZD HSP HGD
            generalize dval (r.data.toList.take i) = n at *
            generalize hdd : dval (r.data.toList.drop (i + 1)) = d at *
            cases hgd : goodD (r.data.toList.drop (i + 1))
            · have HRO := Lib.hid (HNO.out (by rw [hgd]; rfl))
              obtain rfl := hng hgd
              clear hg hng hgd HNO HYES hdd
              go_wp2_with fail
              obtain ⟨e0, e1, e2, hret⟩ := box_ret (t := false) (n := 0) (d := 0) BR3.out (Num.nil _) (Num.nil _) HB3.out (by omega)
              refine bodyPost_ret (v := .tuple #[.agg #[.bool false, .slice none 0 0, .slice none 0 0], .bool false]) ?_ rfl (HRO.out _ _ (ReadOut.no (by obtain ⟨_, _, _, h⟩ := hret; exact h)))
              simp [results, Try.f61, go_sem, e0, e1, e2]
            · have hv3 := hg hgd
              obtain ⟨-, hg300, -⟩ := goodD_eq hgd
              rw [hdd] at hg300
              have l3 := len_dig hg300
              obtain ⟨o3, k3, c3', rfl⟩ := hv3.shape
              have HV := Lib.hid hv3
              have HGD := Lib.hid hgd
              clear hg hng hgd hv3 hg300 hdd
              go_wp2_with fail
              refine (isZero_num HV.out (by omega)).mono ?_; rintro e w4 ⟨rfl, rfl⟩
              by_cases h0 : d = 0
              · have h0d : decide (d = 0) = true := by simp [h0]
                have HRO := Lib.hid (HNO.out (by rw [HGD.out, h0d]; rfl))
                rw [h0d]
                clear h0 h0d HNO HYES
                go_wp2_with fail
                obtain ⟨e0, e1, e2, hret⟩ := box_ret (t := false) (n := 0) (d := 0) BR3.out (Num.nil _) (Num.nil _) HB3.out (by omega)
                refine bodyPost_ret (v := .tuple #[.agg #[.bool false, .slice none 0 0, .slice none 0 0], .bool false]) ?_ rfl (HRO.out _ _ (ReadOut.no (by obtain ⟨_, _, _, h⟩ := hret; exact h)))
                simp [results, Try.f61, go_sem, e0, e1, e2]
              · have h0d : decide (d = 0) = false := by simp [h0]
                have H0D := Lib.hid h0d
                rw [h0d]
                have H0 := Lib.hid h0
                clear h0 h0d
                go_wp2_with fail
                refine (isOne_num HV.out (by omega)).mono ?_; rintro e w4 ⟨rfl, rfl⟩
                by_cases h1 : d = 1
                · have h1d : decide (d = 1) = true := by simp [h1]
                  have HRO := Lib.hid (HNO.out (by rw [HGD.out, H0D.out, h1d]; rfl))
                  rw [h1d]
                  clear h1 h1d HNO HYES
                  go_wp2_with fail
                  obtain ⟨e0, e1, e2, hret⟩ := box_ret (t := false) (n := 0) (d := 0) BR3.out (Num.nil _) (Num.nil _) HB3.out (by omega)
                  refine bodyPost_ret (v := .tuple #[.agg #[.bool false, .slice none 0 0, .slice none 0 0], .bool false]) ?_ rfl (HRO.out _ _ (ReadOut.no (by obtain ⟨_, _, _, h⟩ := hret; exact h)))
                  simp [results, Try.f61, go_sem, e0, e1, e2]
                · have h1d : decide (d = 1) = false := by simp [h1]
                  have H1D := Lib.hid h1d
                  rw [h1d]
                  clear h1 h1d
                  go_wp2_with fail
                  refine (divisor_num HV3.out HV.out (by omega) (by omega)).mono ?_; rintro e w4 ⟨v4, rfl, hv4, hb4⟩
                  have lgd : Len (Nat.gcd n d) ≤ 34 := Nat.le_trans (len_mono (Nat.gcd_le_right _ (Nat.pos_of_ne_zero H0.out))) l3
                  have HV4 := Lib.hid hv4
                  have BR4 := Lib.hid (BR3.out.go hb4); have HB4 := Lib.hid (bstep HB3.out hb4); have HN4 := Lib.hid (HV3.out.go hb4); have HD4 := Lib.hid (HV.out.go hb4)
                  clear hv4 hb4 r0 r1 r2 f0 f1 f2
                  obtain ⟨r0, r1, r2, f0, f1, f2⟩ := Box3.facts BR4.out
                  go_wp2_with fail
                  refine (isOne_num HV4.out (by omega)).mono ?_; rintro e w5 ⟨rfl, rfl⟩
                  by_cases hgc : Nat.gcd n d = 1
                  · have hgd : decide (Nat.gcd n d = 1) = true := by simp [hgc]
                    have HRO := Lib.hid (HYES.out (by rw [HGD.out, H0D.out, H1D.out, hgd]; rfl))
                    rw [hgd]
                    clear hgc hgd HNO HYES
                    go_wp2_with fail
                    obtain ⟨e0, e1, e2, hret⟩ := box_ret (t := true) BR4.out HN4.out HD4.out HB4.out (by omega)
                    refine bodyPost_ret (v := .tuple #[.agg #[.bool true, .slice o2 k2 c2', .slice o3 k3 c3'], .bool true]) ?_ rfl (HRO.out _ _ (ReadOut.ok hret))
                    simp [results, Try.f61, go_sem, e0, e1, e2]
                  · have hgd : decide (Nat.gcd n d = 1) = false := by simp [hgc]
                    have HRO := Lib.hid (HNO.out (by rw [HGD.out, H0D.out, H1D.out, hgd]; rfl))
                    rw [hgd]
                    clear hgc hgd HNO HYES
                    go_wp2_with fail
                    obtain ⟨e0, e1, e2, hret⟩ := box_ret (t := false) (n := 0) (d := 0) BR4.out (Num.nil _) (Num.nil _) HB4.out (by omega)
                    refine bodyPost_ret (v := .tuple #[.agg #[.bool false, .slice none 0 0, .slice none 0 0], .bool false]) ?_ rfl (HRO.out _ _ (ReadOut.no (by obtain ⟨_, _, _, h⟩ := hret; exact h)))
                    simp [results, Try.f61, go_sem, e0, e1, e2]
      · have hcn : r[i].toNat ≠ 47 := fun h => hc (UInt8.toNat_inj.1 h)
        have hce : ((r[i].toNat : Int) != 47) = true := by rw [bne_iff_ne]; omega
        have HN := Lib.hid (take_step hno.out hgi hc)
        clear hc hgi hno hcn
        go_wp2_with fail
        go_round
        case rel => exact ⟨i + 1, hlt, by go_num, HN.out⟩
        case measure => simp [intOf]; omega
    · obtain rfl : i = r.size := by omega
      have hsp := split_at (by rw [HRL.out]; exact hi) hno.out (.inl HRL.out.symm)
      rw [List.drop_of_length_le (by rw [HRL.out]; exact Nat.le_refl _), List.take_of_length_le (by rw [HRL.out]; exact Nat.le_refl _)] at hsp
      have HSP := Lib.hid hsp
      clear hno hsp hlt
      have hie : ((r.size : Int) == (r.size : Int)) = true := by simp
      go_wp2_with fail
      refine (fromDigits_num _ _ (by omega)).mono ?_; rintro e w2 ⟨v2, rfl, hb2, hg, hng⟩
      have BR2 := Lib.hid (BR.out.go hb2); have HB2 := Lib.hid (bstep HB1.out hb2)
      clear hb2
      cases hgd : goodD r.data.toList
      · have HQ : Hid (readR true r.data.toList = none) := by
          show _ = _
          unfold readR; rw [HSP.out.1, hgd]; rfl
        have HRO : Hid (∀ e w', ReadOut w none e w' → ReadOut w (readR true r.data.toList) e w') := fun _ _ h => by rw [HQ.out]; exact h
        obtain rfl := hng hgd
        clear hg hng hgd
        obtain ⟨r0, r1, r2, f0, f1, f2⟩ := Box3.facts BR2.out
        go_wp2_with fail
        obtain ⟨e0, e1, e2, hret⟩ := box_ret (t := false) (n := 0) (d := 0) BR2.out (Num.nil _) (Num.nil _) HB2.out (by omega)
        refine bodyPost_ret (v := .tuple #[.agg #[.bool false, .slice none 0 0, .slice none 0 0], .bool false]) ?_ rfl (HRO.out _ _ (ReadOut.no (by obtain ⟨_, _, _, h⟩ := hret; exact h)))
        simp [results, Try.f61, go_sem, e0, e1, e2]
      · have hv2 := hg hgd
        obtain ⟨-, hg300, -⟩ := goodD_eq hgd
        have l2 := len_dig hg300
        obtain ⟨o2, k2, c2', rfl⟩ := hv2.shape
        have HV2 := Lib.hid hv2
        have HGD := Lib.hid hgd
        clear hg hng hgd hv2 hg300
        obtain ⟨r0, r1, r2, f0, f1, f2⟩ := Box3.facts BR2.out
        go_wp2_with fail
        refine (isZero_num HV2.out (by omega)).mono ?_; rintro e w3 ⟨rfl, rfl⟩
        by_cases hz : dval r.data.toList = 0
        · have hzd : decide (dval r.data.toList = 0) = true := by simp [hz]
          have HQ : Hid (readR true r.data.toList = none) := by
            show _ = _
            unfold readR; rw [HSP.out.1, HGD.out, hzd]; rfl
          have HRO : Hid (∀ e w', ReadOut w none e w' → ReadOut w (readR true r.data.toList) e w') := fun _ _ h => by rw [HQ.out]; exact h
          rw [hzd]
          clear hz hzd
          go_wp2_with fail
          obtain ⟨e0, e1, e2, hret⟩ := box_ret (t := false) (n := 0) (d := 0) BR2.out (Num.nil _) (Num.nil _) HB2.out (by omega)
          refine bodyPost_ret (v := .tuple #[.agg #[.bool false, .slice none 0 0, .slice none 0 0], .bool false]) ?_ rfl (HRO.out _ _ (ReadOut.no (by obtain ⟨_, _, _, h⟩ := hret; exact h)))
          simp [results, Try.f61, go_sem, e0, e1, e2]
        · have hzd : decide (dval r.data.toList = 0) = false := by simp [hz]
          have HSG : Hid ((true && decide (dval r.data.toList ≠ 0)) = true) := by show _ = _; simp [hz]
          have HZD := Lib.hid hzd
          rw [hzd]
          clear hz hzd
          have HRO : Hid (∀ e w', ReadOut w (some (true, dval r.data.toList, 1)) e w' → ReadOut w (readR true r.data.toList) e w') := fun e w' h => by
            unfold readR; rw [HSP.out.1, HSP.out.2, HGD.out]
            rw [if_pos (by first | rw [HZD.out]; rfl | rfl)]; exact h
          have IN := Lib.hid (fun w' h => integer_num (w := w') (va := .slice o2 k2 c2') (a := dval r.data.toList) true h (by omega))
          rw [HSG.out] at IN
          clear HSG HZD HSP HGD
          generalize dval r.data.toList = n at *
          go_wp2_with fail
          refine (IN.out _ HV2.out).mono ?_; rintro e w3 ⟨v3, rfl, hv3, hb3⟩
          obtain ⟨p5, q5, z5, p6, q6, z6, rfl, hx5, hx6⟩ := hv3.box
          have Hx5 := Lib.hid hx5; have Hx6 := Lib.hid hx6
          have BR3 := Lib.hid (BR2.out.go hb3); have HB3 := Lib.hid (bstep HB2.out hb3)
          clear hv3 hx5 hx6 hb3 r0 r1 r2 f0 f1 f2
          obtain ⟨r0, r1, r2, f0, f1, f2⟩ := Box3.facts BR3.out
          go_wp2_with fail
          obtain ⟨e0, e1, e2, hret⟩ := box_ret (t := true) BR3.out Hx5.out Hx6.out HB3.out (by omega)
          refine bodyPost_ret (v := .tuple #[.agg #[.bool true, .slice p5 q5 z5, .slice p6 q6 z6], .bool true]) ?_ rfl (HRO.out _ _ (ReadOut.ok hret))
          simp [results, Try.f61, go_sem, e0, e1, e2]

set_option maxRecDepth 100000 in
set_option maxHeartbeats 8000000 in
theorem read_false (s : ByteArray) (w : World) (hs : s.size ≤ 140737488355328) (h0 : 0 < s.size) (hm : ((s[0].toNat : Int) == 45) = false) : Calls Try.prog 61 #[.string s] w (ReadOut w (readR false s.data.toList)) := by
  obtain ⟨r, hr⟩ : ∃ r, r = s := ⟨_, rfl⟩
  subst hr
  have bR := Box3.new w (.bool false) (.slice none 0 0) (.slice none 0 0)
  have B1 := below_alloc w (.cells #[.bool false, .slice none 0 0, .slice none 0 0] 55)
  go_enter Try.func61, Try.ntmps61
  go_wp2_with fail
  have HM := Lib.hid hm; clear hm

  have hrl : r.data.toList.length = r.size := by simp
  have HRL := Lib.hid hrl; clear hrl
  have BR := Lib.hid bR; have HB1 := Lib.hid B1
  clear bR B1
  generalize w.alloc (.cells #[.bool false, .slice none 0 0, .slice none 0 0] 55) = w1 at *
  go_loop [5] (fun v5 => ∃ i : Nat, i ≤ r.size ∧ v5 = .int .i64 i ∧ Hid (∀ c ∈ r.data.toList.take i, c ≠ 47)) (fun v5 => r.size - (intOf v5).toNat)
  case atStart => exact ⟨0, Nat.zero_le _, rfl, by intro c hc; simp at hc⟩
  case round =>
    obtain ⟨i, hi, rfl, hno⟩ := hrel
    by_cases hlt : i < r.size
    · have hgi : r.data.toList[i]? = some r[i] := by rw [List.getElem?_eq_getElem (by rw [HRL.out]; exact hlt)]; rfl
      by_cases hc : r[i] = 47
      · have hce : ((r[i].toNat : Int) != 47) = false := by rw [hc]; rfl
        have HC : Hid (r.data.toList[i]? = some 47) := by show _ = _; rw [hgi, hc]
        have hsp := split_at (by rw [HRL.out]; exact hi) hno.out (.inr HC.out)
        have hdr : r.data.toList.drop i = 47 :: r.data.toList.drop (i + 1) := by
          have h' := HC.out
          rw [List.getElem?_eq_getElem (by rw [HRL.out]; exact hlt)] at h'
          rw [List.drop_eq_getElem_cons (by rw [HRL.out]; exact hlt), Option.some.inj h']
        rw [hdr] at hsp
        have HSP := Lib.hid hsp
        clear hc hgi hno hsp hdr
        have hie : ((i : Int) == (r.size : Int)) = false := by rw [beq_eq_false_iff_ne]; omega
        go_wp2_with fail
        refine (fromDigits_num _ _ (by simp; omega)).mono ?_; rintro e w2 ⟨v2, rfl, hb2, hg, hng⟩
        rw [toList_extract, List.drop_zero] at hg hng ⊢
        have BR2 := Lib.hid (BR.out.go hb2); have HB2 := Lib.hid (bstep HB1.out hb2)
        clear hb2
        cases hgd : goodD (r.data.toList.take i)
        · have HQ : Hid (readR false r.data.toList = none) := by
            show _ = _
            unfold readR; rw [HSP.out.1, hgd]; rfl
          have HRO : Hid (∀ e w', ReadOut w none e w' → ReadOut w (readR false r.data.toList) e w') := fun _ _ h => by rw [HQ.out]; exact h
          obtain rfl := hng hgd
          clear hg hng hgd
          obtain ⟨r0, r1, r2, f0, f1, f2⟩ := Box3.facts BR2.out
          go_wp2_with fail
          obtain ⟨e0, e1, e2, hret⟩ := box_ret (t := false) (n := 0) (d := 0) BR2.out (Num.nil _) (Num.nil _) HB2.out (by omega)
          refine bodyPost_ret (v := .tuple #[.agg #[.bool false, .slice none 0 0, .slice none 0 0], .bool false]) ?_ rfl (HRO.out _ _ (ReadOut.no (by obtain ⟨_, _, _, h⟩ := hret; exact h)))
          simp [results, Try.f61, go_sem, e0, e1, e2]
        · have hv2 := hg hgd
          obtain ⟨-, hg300, -⟩ := goodD_eq hgd
          have l2 := len_dig hg300
          obtain ⟨o2, k2, c2', rfl⟩ := hv2.shape
          have HV2 := Lib.hid hv2
          have HGD := Lib.hid hgd
          clear hg hng hgd hv2 hg300
          obtain ⟨r0, r1, r2, f0, f1, f2⟩ := Box3.facts BR2.out
          · have HSG : Hid ((false && decide (dval (r.data.toList.take i) ≠ 0)) = false) := rfl
            have HZD : Hid ((false && decide (dval (r.data.toList.take i) = 0)) = false) := rfl
            have hi1 : ((i : Int) + 1).toNat = i + 1 := by omega
            go_wp2_with fail
            refine (fromDigits_num _ _ (by simp; omega)).mono ?_; rintro e w3 ⟨v3, rfl, hb3, hg, hng⟩
            rw [toList_extract, show (r.data.toList.take r.size).drop (i + 1) = r.data.toList.drop (i + 1) from by rw [List.take_of_length_le (by rw [HRL.out]; exact Nat.le_refl _)]] at hg hng ⊢
            have BR3 := Lib.hid (BR2.out.go hb3); have HB3 := Lib.hid (bstep HB2.out hb3); have HV3 := Lib.hid (HV2.out.go hb3)
            clear hb3 r0 r1 r2 f0 f1 f2
            obtain ⟨r0, r1, r2, f0, f1, f2⟩ := Box3.facts BR3.out
            have HQ0 : Hid (readR false r.data.toList = if goodD (r.data.toList.drop (i + 1)) && !decide (dval (r.data.toList.drop (i + 1)) = 0) && !decide (dval (r.data.toList.drop (i + 1)) = 1) && decide (Nat.gcd (dval (r.data.toList.take i)) (dval (r.data.toList.drop (i + 1))) = 1) then some (false, dval (r.data.toList.take i), dval (r.data.toList.drop (i + 1))) else none) := by
              show _ = _
              unfold readR; rw [HSP.out.1, HSP.out.2, HGD.out]
              rw [if_pos (by first | rw [HZD.out]; rfl | rfl)]
            have HNO : Hid ((goodD (r.data.toList.drop (i + 1)) && !decide (dval (r.data.toList.drop (i + 1)) = 0) && !decide (dval (r.data.toList.drop (i + 1)) = 1) && decide (Nat.gcd (dval (r.data.toList.take i)) (dval (r.data.toList.drop (i + 1))) = 1)) = false → ∀ e w', ReadOut w none e w' → ReadOut w (readR false r.data.toList) e w') := fun hf e w' h => by
              rw [HQ0.out, hf]; exact h
            have HYES : Hid ((goodD (r.data.toList.drop (i + 1)) && !decide (dval (r.data.toList.drop (i + 1)) = 0) && !decide (dval (r.data.toList.drop (i + 1)) = 1) && decide (Nat.gcd (dval (r.data.toList.take i)) (dval (r.data.toList.drop (i + 1))) = 1)) = true → ∀ e w', ReadOut w (some (false, dval (r.data.toList.take i), dval (r.data.toList.drop (i + 1)))) e w' → ReadOut w (readR false r.data.toList) e w') := fun hf e w' h => by
              rw [HQ0.out, hf]; exact h
            clear HQ0 HSG HZD HSP HGD
            generalize dval (r.data.toList.take i) = n at *
            generalize hdd : dval (r.data.toList.drop (i + 1)) = d at *
            cases hgd : goodD (r.data.toList.drop (i + 1))
            · have HRO := Lib.hid (HNO.out (by rw [hgd]; rfl))
              obtain rfl := hng hgd
              clear hg hng hgd HNO HYES hdd
              go_wp2_with fail
              obtain ⟨e0, e1, e2, hret⟩ := box_ret (t := false) (n := 0) (d := 0) BR3.out (Num.nil _) (Num.nil _) HB3.out (by omega)
              refine bodyPost_ret (v := .tuple #[.agg #[.bool false, .slice none 0 0, .slice none 0 0], .bool false]) ?_ rfl (HRO.out _ _ (ReadOut.no (by obtain ⟨_, _, _, h⟩ := hret; exact h)))
              simp [results, Try.f61, go_sem, e0, e1, e2]
            · have hv3 := hg hgd
              obtain ⟨-, hg300, -⟩ := goodD_eq hgd
              rw [hdd] at hg300
              have l3 := len_dig hg300
              obtain ⟨o3, k3, c3', rfl⟩ := hv3.shape
              have HV := Lib.hid hv3
              have HGD := Lib.hid hgd
              clear hg hng hgd hv3 hg300 hdd
              go_wp2_with fail
              refine (isZero_num HV.out (by omega)).mono ?_; rintro e w4 ⟨rfl, rfl⟩
              by_cases h0 : d = 0
              · have h0d : decide (d = 0) = true := by simp [h0]
                have HRO := Lib.hid (HNO.out (by rw [HGD.out, h0d]; rfl))
                rw [h0d]
                clear h0 h0d HNO HYES
                go_wp2_with fail
                obtain ⟨e0, e1, e2, hret⟩ := box_ret (t := false) (n := 0) (d := 0) BR3.out (Num.nil _) (Num.nil _) HB3.out (by omega)
                refine bodyPost_ret (v := .tuple #[.agg #[.bool false, .slice none 0 0, .slice none 0 0], .bool false]) ?_ rfl (HRO.out _ _ (ReadOut.no (by obtain ⟨_, _, _, h⟩ := hret; exact h)))
                simp [results, Try.f61, go_sem, e0, e1, e2]
              · have h0d : decide (d = 0) = false := by simp [h0]
                have H0D := Lib.hid h0d
                rw [h0d]
                have H0 := Lib.hid h0
                clear h0 h0d
                go_wp2_with fail
                refine (isOne_num HV.out (by omega)).mono ?_; rintro e w4 ⟨rfl, rfl⟩
                by_cases h1 : d = 1
                · have h1d : decide (d = 1) = true := by simp [h1]
                  have HRO := Lib.hid (HNO.out (by rw [HGD.out, H0D.out, h1d]; rfl))
                  rw [h1d]
                  clear h1 h1d HNO HYES
                  go_wp2_with fail
                  obtain ⟨e0, e1, e2, hret⟩ := box_ret (t := false) (n := 0) (d := 0) BR3.out (Num.nil _) (Num.nil _) HB3.out (by omega)
                  refine bodyPost_ret (v := .tuple #[.agg #[.bool false, .slice none 0 0, .slice none 0 0], .bool false]) ?_ rfl (HRO.out _ _ (ReadOut.no (by obtain ⟨_, _, _, h⟩ := hret; exact h)))
                  simp [results, Try.f61, go_sem, e0, e1, e2]
                · have h1d : decide (d = 1) = false := by simp [h1]
                  have H1D := Lib.hid h1d
                  rw [h1d]
                  clear h1 h1d
                  go_wp2_with fail
                  refine (divisor_num HV3.out HV.out (by omega) (by omega)).mono ?_; rintro e w4 ⟨v4, rfl, hv4, hb4⟩
                  have lgd : Len (Nat.gcd n d) ≤ 34 := Nat.le_trans (len_mono (Nat.gcd_le_right _ (Nat.pos_of_ne_zero H0.out))) l3
                  have HV4 := Lib.hid hv4
                  have BR4 := Lib.hid (BR3.out.go hb4); have HB4 := Lib.hid (bstep HB3.out hb4); have HN4 := Lib.hid (HV3.out.go hb4); have HD4 := Lib.hid (HV.out.go hb4)
                  clear hv4 hb4 r0 r1 r2 f0 f1 f2
                  obtain ⟨r0, r1, r2, f0, f1, f2⟩ := Box3.facts BR4.out
                  go_wp2_with fail
                  refine (isOne_num HV4.out (by omega)).mono ?_; rintro e w5 ⟨rfl, rfl⟩
                  by_cases hgc : Nat.gcd n d = 1
                  · have hgd : decide (Nat.gcd n d = 1) = true := by simp [hgc]
                    have HRO := Lib.hid (HYES.out (by rw [HGD.out, H0D.out, H1D.out, hgd]; rfl))
                    rw [hgd]
                    clear hgc hgd HNO HYES
                    go_wp2_with fail
                    obtain ⟨e0, e1, e2, hret⟩ := box_ret (t := false) BR4.out HN4.out HD4.out HB4.out (by omega)
                    refine bodyPost_ret (v := .tuple #[.agg #[.bool false, .slice o2 k2 c2', .slice o3 k3 c3'], .bool true]) ?_ rfl (HRO.out _ _ (ReadOut.ok hret))
                    simp [results, Try.f61, go_sem, e0, e1, e2]
                  · have hgd : decide (Nat.gcd n d = 1) = false := by simp [hgc]
                    have HRO := Lib.hid (HNO.out (by rw [HGD.out, H0D.out, H1D.out, hgd]; rfl))
                    rw [hgd]
                    clear hgc hgd HNO HYES
                    go_wp2_with fail
                    obtain ⟨e0, e1, e2, hret⟩ := box_ret (t := false) (n := 0) (d := 0) BR4.out (Num.nil _) (Num.nil _) HB4.out (by omega)
                    refine bodyPost_ret (v := .tuple #[.agg #[.bool false, .slice none 0 0, .slice none 0 0], .bool false]) ?_ rfl (HRO.out _ _ (ReadOut.no (by obtain ⟨_, _, _, h⟩ := hret; exact h)))
                    simp [results, Try.f61, go_sem, e0, e1, e2]
      · have hcn : r[i].toNat ≠ 47 := fun h => hc (UInt8.toNat_inj.1 h)
        have hce : ((r[i].toNat : Int) != 47) = true := by rw [bne_iff_ne]; omega
        have HN := Lib.hid (take_step hno.out hgi hc)
        clear hc hgi hno hcn
        go_wp2_with fail
        go_round
        case rel => exact ⟨i + 1, hlt, by go_num, HN.out⟩
        case measure => simp [intOf]; omega
    · obtain rfl : i = r.size := by omega
      have hsp := split_at (by rw [HRL.out]; exact hi) hno.out (.inl HRL.out.symm)
      rw [List.drop_of_length_le (by rw [HRL.out]; exact Nat.le_refl _), List.take_of_length_le (by rw [HRL.out]; exact Nat.le_refl _)] at hsp
      have HSP := Lib.hid hsp
      clear hno hsp hlt
      have hie : ((r.size : Int) == (r.size : Int)) = true := by simp
      go_wp2_with fail
      refine (fromDigits_num _ _ (by omega)).mono ?_; rintro e w2 ⟨v2, rfl, hb2, hg, hng⟩
      have BR2 := Lib.hid (BR.out.go hb2); have HB2 := Lib.hid (bstep HB1.out hb2)
      clear hb2
      cases hgd : goodD r.data.toList
      · have HQ : Hid (readR false r.data.toList = none) := by
          show _ = _
          unfold readR; rw [HSP.out.1, hgd]; rfl
        have HRO : Hid (∀ e w', ReadOut w none e w' → ReadOut w (readR false r.data.toList) e w') := fun _ _ h => by rw [HQ.out]; exact h
        obtain rfl := hng hgd
        clear hg hng hgd
        obtain ⟨r0, r1, r2, f0, f1, f2⟩ := Box3.facts BR2.out
        go_wp2_with fail
        obtain ⟨e0, e1, e2, hret⟩ := box_ret (t := false) (n := 0) (d := 0) BR2.out (Num.nil _) (Num.nil _) HB2.out (by omega)
        refine bodyPost_ret (v := .tuple #[.agg #[.bool false, .slice none 0 0, .slice none 0 0], .bool false]) ?_ rfl (HRO.out _ _ (ReadOut.no (by obtain ⟨_, _, _, h⟩ := hret; exact h)))
        simp [results, Try.f61, go_sem, e0, e1, e2]
      · have hv2 := hg hgd
        obtain ⟨-, hg300, -⟩ := goodD_eq hgd
        have l2 := len_dig hg300
        obtain ⟨o2, k2, c2', rfl⟩ := hv2.shape
        have HV2 := Lib.hid hv2
        have HGD := Lib.hid hgd
        clear hg hng hgd hv2 hg300
        obtain ⟨r0, r1, r2, f0, f1, f2⟩ := Box3.facts BR2.out
        · have HSG : Hid ((false && decide (dval r.data.toList ≠ 0)) = false) := rfl
          have HZD : Hid ((false && decide (dval r.data.toList = 0)) = false) := rfl
          have HRO : Hid (∀ e w', ReadOut w (some (false, dval r.data.toList, 1)) e w' → ReadOut w (readR false r.data.toList) e w') := fun e w' h => by
            unfold readR; rw [HSP.out.1, HSP.out.2, HGD.out]
            rw [if_pos (by first | rw [HZD.out]; rfl | rfl)]; exact h
          have IN := Lib.hid (fun w' h => integer_num (w := w') (va := .slice o2 k2 c2') (a := dval r.data.toList) false h (by omega))
          rw [HSG.out] at IN
          clear HSG HZD HSP HGD
          generalize dval r.data.toList = n at *
          go_wp2_with fail
          refine (IN.out _ HV2.out).mono ?_; rintro e w3 ⟨v3, rfl, hv3, hb3⟩
          obtain ⟨p5, q5, z5, p6, q6, z6, rfl, hx5, hx6⟩ := hv3.box
          have Hx5 := Lib.hid hx5; have Hx6 := Lib.hid hx6
          have BR3 := Lib.hid (BR2.out.go hb3); have HB3 := Lib.hid (bstep HB2.out hb3)
          clear hv3 hx5 hx6 hb3 r0 r1 r2 f0 f1 f2
          obtain ⟨r0, r1, r2, f0, f1, f2⟩ := Box3.facts BR3.out
          go_wp2_with fail
          obtain ⟨e0, e1, e2, hret⟩ := box_ret (t := false) BR3.out Hx5.out Hx6.out HB3.out (by omega)
          refine bodyPost_ret (v := .tuple #[.agg #[.bool false, .slice p5 q5 z5, .slice p6 q6 z6], .bool true]) ?_ rfl (HRO.out _ _ (ReadOut.ok hret))
          simp [results, Try.f61, go_sem, e0, e1, e2]
end Go.Proofs.Ytlkdahgfnfdakaa
