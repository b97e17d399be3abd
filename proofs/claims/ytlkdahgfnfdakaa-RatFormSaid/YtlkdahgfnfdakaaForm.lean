/- RatForm: whatever two texts it is given, it returns true, and the texts read as they did. No condition. -/
import Derived.Test.YtlkdahgfnfdakaaOwn
import Derived.Test.YtlkdahgfnfdakaaLawS
import Derived.Deep.DeepCutAuto
namespace Go.Proofs.Ytlkdahgfnfdakaa
open Go Go.RowKit Go.Shelf WN LM

def Good (L : List ByteArray) : Prop := L.length ≤ 5 ∧ ∀ t ∈ L, ∃ x, IsV t x
theorem Good.nil : Good [] := ⟨by simp, fun t h => by cases h⟩
theorem two_isV {f : Q3 → Q3 → Q3} (hf : ∀ p q, Can p → Can q → Can (f p q)) {a b : ByteArray} (h : (two (fun p q => out3 (f p q)) a b).2 = 0) : ∃ x, IsV (two (fun p q => out3 (f p q)) a b).1 x := by
  unfold two at *
  cases hp : readQ a.data.toList with
  | none => rw [hp] at h; cases h
  | some p =>
    cases hq : readQ b.data.toList with
    | none => rw [hp, hq] at h; cases h
    | some q =>
      rw [hp, hq] at h
      exact ⟨_, out3_isV (hf p q (readQ_can hp) (readQ_can hq)) h⟩
theorem div_isV {a b : ByteArray} (h : (divT a b).2 = 0) : ∃ x, IsV (divT a b).1 x := by
  unfold divT twoG at *
  cases hp : readQ a.data.toList with
  | none => rw [hp] at h; cases h
  | some p =>
    cases hq : readQ b.data.toList with
    | none => rw [hp, hq] at h; cases h
    | some q =>
      have h2 := (divT_isV (a := a) (b := b) ⟨p, hp, rfl⟩ ⟨q, hq, rfl⟩).2
      have e : divT a b = divF p q := by unfold divT twoG; rw [hp, hq]
      rw [hp, hq] at h
      rw [e] at h2
      exact ⟨_, (h2 h).1⟩
theorem floor_isV' {a : ByteArray} (h : (floorT a).2 = 0) : ∃ x, IsV (floorT a).1 x := by
  cases hp : readQ a.data.toList with
  | none => unfold floorT oneT at h; rw [hp] at h; cases h
  | some p =>
    obtain ⟨F, hF, _⟩ := floorT_isV (a := a) ⟨p, hp, rfl⟩ h
    exact ⟨_, hF⟩
theorem keep1 {w w' : World} {a : Addr} {x : Value} (h : w.cell? a = some x) (hb : Below w.heap.size w w') : w'.cell? a = some x := (hb.cell (World.block_lt_of_cell? w a h)).trans h

set_option maxHeartbeats 8000000 in
set_option maxRecDepth 100000 in
theorem form_law (w : World) (a b : ByteArray) (ha : a.size ≤ 140737488355328) (hb : b.size ≤ 140737488355328) : Calls Try.prog 15 #[.string a, .string b] w (TrueB w) := by
  have AL : Hid (∀ w, Calls Try.prog 20 #[] w fun e w' => e = .returned (.bool true) ∧ Below w.heap.size w w') := alive_any
  have IS : Hid (∀ w a, a.size ≤ 140737488355328 → Calls Try.prog 18 #[.string a] w fun e w' => e = .returned (.bool (isB a)) ∧ Below w.heap.size w w') := fun w a h => is_any w a h
  have CM : Hid (∀ w a b, a.size ≤ 140737488355328 → b.size ≤ 140737488355328 → Calls Try.prog 31 #[.string a, .string b] w (OutI w (cmpT a b))) := fun w a b h k => cmp_any w a b h k
  have AD : Hid (∀ w a b, a.size ≤ 140737488355328 → b.size ≤ 140737488355328 → Calls Try.prog 23 #[.string a, .string b] w (OutS w (addT a b))) := fun w a b h k => add_any w a b h k
  have SB : Hid (∀ w a b, a.size ≤ 140737488355328 → b.size ≤ 140737488355328 → Calls Try.prog 25 #[.string a, .string b] w (OutS w (subT a b))) := fun w a b h k => sub_any w a b h k
  have MU : Hid (∀ w a b, a.size ≤ 140737488355328 → b.size ≤ 140737488355328 → Calls Try.prog 27 #[.string a, .string b] w (OutS w (mulT a b))) := fun w a b h k => mul_any w a b h k
  have DV : Hid (∀ w a b, a.size ≤ 140737488355328 → b.size ≤ 140737488355328 → Calls Try.prog 29 #[.string a, .string b] w (OutS w (divT a b))) := fun w a b h k => div_any w a b h k
  have FL : Hid (∀ w a, a.size ≤ 140737488355328 → Calls Try.prog 33 #[.string a] w (OutS w (floorT a))) := fun w a h => floor_any w a h
  have A1 : Hid (∀ w, Calls Try.prog 23 #[.string a, .string b] w (OutS w (addT a b))) := fun w => AD.out w a b ha hb
  have V1 : Hid ((addT a b).2 = 0 → ∃ x, IsV (addT a b).1 x) := fun h => two_isV (fun p q hp hq => (addQ_spec hp hq).1) h
  have A2 : Hid (∀ w, Calls Try.prog 25 #[.string a, .string b] w (OutS w (subT a b))) := fun w => SB.out w a b ha hb
  have V2 : Hid ((subT a b).2 = 0 → ∃ x, IsV (subT a b).1 x) := fun h => two_isV (fun p q hp hq => (subQ_spec hp hq).1) h
  have A3 : Hid (∀ w, Calls Try.prog 27 #[.string a, .string b] w (OutS w (mulT a b))) := fun w => MU.out w a b ha hb
  have V3 : Hid ((mulT a b).2 = 0 → ∃ x, IsV (mulT a b).1 x) := fun h => two_isV (fun p q hp hq => (mulQ_spec hp hq).1) h
  have A4 : Hid (∀ w, Calls Try.prog 29 #[.string a, .string b] w (OutS w (divT a b))) := fun w => DV.out w a b ha hb
  have V4 : Hid ((divT a b).2 = 0 → ∃ x, IsV (divT a b).1 x) := fun h => div_isV h
  have A5 : Hid (∀ w, Calls Try.prog 33 #[.string a] w (OutS w (floorT a))) := fun w => FL.out w a ha
  have V5 : Hid ((floorT a).2 = 0 → ∃ x, IsV (floorT a).1 x) := fun h => floor_isV' h
  clear AD SB MU DV FL ha hb
  generalize addT a b = q_ at *; obtain ⟨s1, e1⟩ := q_
  replace V1 : Hid (e1 = 0 → ∃ x, IsV s1 x) := V1
  generalize subT a b = q_ at *; obtain ⟨s2, e2⟩ := q_
  replace V2 : Hid (e2 = 0 → ∃ x, IsV s2 x) := V2
  generalize mulT a b = q_ at *; obtain ⟨s3, e3⟩ := q_
  replace V3 : Hid (e3 = 0 → ∃ x, IsV s3 x) := V3
  generalize divT a b = q_ at *; obtain ⟨s4, e4⟩ := q_
  replace V4 : Hid (e4 = 0 → ∃ x, IsV s4 x) := V4
  generalize floorT a = q_ at *; obtain ⟨s5, e5⟩ := q_
  replace V5 : Hid (e5 = 0 → ∃ x, IsV s5 x) := V5
  go_enter Try.func15, Try.ntmps15
  go_wp2_with fail
  refine (A1.out _).mono ?_; rintro e w1 ⟨rfl, hb1⟩
  have P1 := Lib.hid (Own.go (Own.new w) hb1); have B1 := Lib.hid (bstep (below_alloc w (.cells #[] 9)) hb1)
  clear hb1
  go_upto_if 20 with fail
  go_cut [5] from 12 (fun s5 wx => ∃ L, Hid (Own wx w.heap.size s5 L) ∧ Hid (L.length ≤ 1 ∧ ∀ t ∈ L, ∃ x, IsV t x) ∧ Hid (Below w.heap.size w wx))
  case first =>
    rcases Bool.eq_false_or_eq_true (e1 == 0) with t | t
    · go_wp2_with (at_builtin; refine own_app rfl (.tmp 21) (.tmp 23) rfl rfl (P1.out.go (below_alloc w1 (.cells #[.string s1] 9))) rfl (cell_of_one (heap_alloc_new w1 _)) (Nat.zero_le _) ?_; intro v' w' hO hB; have HO := Lib.hid hO; have HB := Lib.hid (hB w w.heap.size (Nat.le_refl _) (bstep B1.out (below_alloc w1 (.cells #[.string s1] 9)))); clear hO hB; obtain ⟨o_, c_, rfl⟩ := HO.out.shape)
      go_meet
      case rel => exact ⟨[] ++ [s1], HO.out, ⟨(Nat.le_refl _), fun t ht => by
        rcases List.mem_append.1 ht with h | h
        · exact Good.nil.2 t h
        · simp at h; subst h; exact V1.out (by simpa using ‹(e1 == 0) = true›)⟩, HB.out⟩
    · go_wp2_with fail
      go_meet
      case rel => exact ⟨[], P1.out, ⟨(Nat.zero_le _), Good.nil.2⟩, B1.out⟩
  case rest =>
  obtain ⟨L1, O1, G1, C1⟩ := hcut
  clear P1 B1 A1 V1
  obtain ⟨o1, c1, rfl⟩ := O1.out.shape
  go_wp2_with fail
  refine (A2.out _).mono ?_; rintro e w2 ⟨rfl, hb2⟩
  have P2 := Lib.hid (Own.go O1.out hb2); have B2 := Lib.hid (bstep C1.out hb2)
  clear hb2
  go_upto_if 32 with fail
  go_cut [5] from 12 (fun s5 wx => ∃ L, Hid (Own wx w.heap.size s5 L) ∧ Hid (L.length ≤ 2 ∧ ∀ t ∈ L, ∃ x, IsV t x) ∧ Hid (Below w.heap.size w wx))
  case first =>
    rcases Bool.eq_false_or_eq_true (e2 == 0) with t | t
    · go_wp2_with (at_builtin; refine own_app rfl (.tmp 33) (.tmp 35) rfl rfl (P2.out.go (below_alloc w2 (.cells #[.string s2] 9))) rfl (cell_of_one (heap_alloc_new w2 _)) (by have := G1.out.1; omega) ?_; intro v' w' hO hB; have HO := Lib.hid hO; have HB := Lib.hid (hB w w.heap.size (Nat.le_refl _) (bstep B2.out (below_alloc w2 (.cells #[.string s2] 9)))); clear hO hB; obtain ⟨o_, c_, rfl⟩ := HO.out.shape)
      go_meet
      case rel => exact ⟨L1 ++ [s2], (by have h := HO.out; rw [List.length_append, List.length_singleton] at h; exact h), ⟨(by have := G1.out.1; rw [List.length_append, List.length_singleton]; omega), fun t ht => by
        rcases List.mem_append.1 ht with h | h
        · exact G1.out.2 t h
        · simp at h; subst h; exact V2.out (by simpa using ‹(e2 == 0) = true›)⟩, HB.out⟩
    · go_wp2_with fail
      go_meet
      case rel => exact ⟨L1, P2.out, ⟨(by have := G1.out.1; omega), G1.out.2⟩, B2.out⟩
  case rest =>
  obtain ⟨L2, O2, G2, C2⟩ := hcut
  clear P2 B2 A2 V2 O1 G1 C1
  obtain ⟨o2, c2, rfl⟩ := O2.out.shape
  go_wp2_with fail
  refine (A3.out _).mono ?_; rintro e w3 ⟨rfl, hb3⟩
  have P3 := Lib.hid (Own.go O2.out hb3); have B3 := Lib.hid (bstep C2.out hb3)
  clear hb3
  go_upto_if 44 with fail
  go_cut [5] from 12 (fun s5 wx => ∃ L, Hid (Own wx w.heap.size s5 L) ∧ Hid (L.length ≤ 3 ∧ ∀ t ∈ L, ∃ x, IsV t x) ∧ Hid (Below w.heap.size w wx))
  case first =>
    rcases Bool.eq_false_or_eq_true (e3 == 0) with t | t
    · go_wp2_with (at_builtin; refine own_app rfl (.tmp 45) (.tmp 47) rfl rfl (P3.out.go (below_alloc w3 (.cells #[.string s3] 9))) rfl (cell_of_one (heap_alloc_new w3 _)) (by have := G2.out.1; omega) ?_; intro v' w' hO hB; have HO := Lib.hid hO; have HB := Lib.hid (hB w w.heap.size (Nat.le_refl _) (bstep B3.out (below_alloc w3 (.cells #[.string s3] 9)))); clear hO hB; obtain ⟨o_, c_, rfl⟩ := HO.out.shape)
      go_meet
      case rel => exact ⟨L2 ++ [s3], (by have h := HO.out; rw [List.length_append, List.length_singleton] at h; exact h), ⟨(by have := G2.out.1; rw [List.length_append, List.length_singleton]; omega), fun t ht => by
        rcases List.mem_append.1 ht with h | h
        · exact G2.out.2 t h
        · simp at h; subst h; exact V3.out (by simpa using ‹(e3 == 0) = true›)⟩, HB.out⟩
    · go_wp2_with fail
      go_meet
      case rel => exact ⟨L2, P3.out, ⟨(by have := G2.out.1; omega), G2.out.2⟩, B3.out⟩
  case rest =>
  obtain ⟨L3, O3, G3, C3⟩ := hcut
  clear P3 B3 A3 V3 O2 G2 C2
  obtain ⟨o3, c3, rfl⟩ := O3.out.shape
  go_wp2_with fail
  refine (A4.out _).mono ?_; rintro e w4 ⟨rfl, hb4⟩
  have P4 := Lib.hid (Own.go O3.out hb4); have B4 := Lib.hid (bstep C3.out hb4)
  clear hb4
  go_upto_if 56 with fail
  go_cut [5] from 12 (fun s5 wx => ∃ L, Hid (Own wx w.heap.size s5 L) ∧ Hid (L.length ≤ 4 ∧ ∀ t ∈ L, ∃ x, IsV t x) ∧ Hid (Below w.heap.size w wx))
  case first =>
    rcases Bool.eq_false_or_eq_true (e4 == 0) with t | t
    · go_wp2_with (at_builtin; refine own_app rfl (.tmp 57) (.tmp 59) rfl rfl (P4.out.go (below_alloc w4 (.cells #[.string s4] 9))) rfl (cell_of_one (heap_alloc_new w4 _)) (by have := G3.out.1; omega) ?_; intro v' w' hO hB; have HO := Lib.hid hO; have HB := Lib.hid (hB w w.heap.size (Nat.le_refl _) (bstep B4.out (below_alloc w4 (.cells #[.string s4] 9)))); clear hO hB; obtain ⟨o_, c_, rfl⟩ := HO.out.shape)
      go_meet
      case rel => exact ⟨L3 ++ [s4], (by have h := HO.out; rw [List.length_append, List.length_singleton] at h; exact h), ⟨(by have := G3.out.1; rw [List.length_append, List.length_singleton]; omega), fun t ht => by
        rcases List.mem_append.1 ht with h | h
        · exact G3.out.2 t h
        · simp at h; subst h; exact V4.out (by simpa using ‹(e4 == 0) = true›)⟩, HB.out⟩
    · go_wp2_with fail
      go_meet
      case rel => exact ⟨L3, P4.out, ⟨(by have := G3.out.1; omega), G3.out.2⟩, B4.out⟩
  case rest =>
  obtain ⟨L4, O4, G4, C4⟩ := hcut
  clear P4 B4 A4 V4 O3 G3 C3
  obtain ⟨o4, c4, rfl⟩ := O4.out.shape
  go_wp2_with fail
  refine (A5.out _).mono ?_; rintro e w5 ⟨rfl, hb5⟩
  have P5 := Lib.hid (Own.go O4.out hb5); have B5 := Lib.hid (bstep C4.out hb5)
  clear hb5
  go_upto_if 67 with fail
  go_cut [5] from 12 (fun s5 wx => ∃ L, Hid (Own wx w.heap.size s5 L) ∧ Hid (L.length ≤ 5 ∧ ∀ t ∈ L, ∃ x, IsV t x) ∧ Hid (Below w.heap.size w wx))
  case first =>
    rcases Bool.eq_false_or_eq_true (e5 == 0) with t | t
    · go_wp2_with (at_builtin; refine own_app rfl (.tmp 68) (.tmp 70) rfl rfl (P5.out.go (below_alloc w5 (.cells #[.string s5] 9))) rfl (cell_of_one (heap_alloc_new w5 _)) (by have := G4.out.1; omega) ?_; intro v' w' hO hB; have HO := Lib.hid hO; have HB := Lib.hid (hB w w.heap.size (Nat.le_refl _) (bstep B5.out (below_alloc w5 (.cells #[.string s5] 9)))); clear hO hB; obtain ⟨o_, c_, rfl⟩ := HO.out.shape)
      go_meet
      case rel => exact ⟨L4 ++ [s5], (by have h := HO.out; rw [List.length_append, List.length_singleton] at h; exact h), ⟨(by have := G4.out.1; rw [List.length_append, List.length_singleton]; omega), fun t ht => by
        rcases List.mem_append.1 ht with h | h
        · exact G4.out.2 t h
        · simp at h; subst h; exact V5.out (by simpa using ‹(e5 == 0) = true›)⟩, HB.out⟩
    · go_wp2_with fail
      go_meet
      case rel => exact ⟨L4, P5.out, ⟨(by have := G4.out.1; omega), G4.out.2⟩, B5.out⟩
  case rest =>
  obtain ⟨L5, O5, G5, C5⟩ := hcut
  clear P5 B5 A5 V5 O4 G4 C4
  obtain ⟨o5, c5, rfl⟩ := O5.out.shape
  go_wp2_with fail
  generalize hn : L5.length = n at *
  have HN := Lib.hid hn; clear hn
  have HG5 := G5; clear G5
  go_loopw [8] (fun vi wr => ∃ i : Nat, i ≤ n ∧ vi = .int .i64 (i : Nat) ∧ Hid (Below wc.heap.size wc wr)) (fun vi _ => n - (intOf vi).toNat)
  case atStart => exact ⟨0, Nat.zero_le _, rfl, Below.refl _ _⟩
  case round =>
    obtain ⟨i, hi, rfl, hbel⟩ := hrel
    by_cases hlt : i < n
    · have hil : i < L5.length := by have := HN.out; omega
      obtain ⟨gg, cap, hv, hcell⟩ := O5.out.get (by omega)
      injection hv with e1_ e2_ e3_
      subst e1_ e3_
      clear e2_
      have c0 := keep1 (hcell i hil) hbel.out
      have HGI : Hid (∃ x, IsV L5[i] x) := HG5.out.2 _ (List.getElem_mem hil)
      have HCE : Hid (∀ i, (hi : i < L5.length) → wc.cell? ⟨gg, i, none⟩ = some (.string L5[i])) := hcell
      have HCI := Lib.hid (hcell i hil)
      clear hcell
      generalize L5[i] = ti at *
      have HIL := Lib.hid hil; clear hil
      have I1 : Hid (∀ w, Calls Try.prog 18 #[.string ti] w fun e w' => e = .returned (.bool true) ∧ Below w.heap.size w w') := fun w => by
        obtain ⟨x, hx⟩ := HGI.out
        have := IS.out w ti (Nat.le_trans (isV_size hx) (by omega))
        obtain ⟨q, hq, _⟩ := hx
        have e : isB ti = true := by unfold isB; rw [hq]; rfl
        rwa [e] at this
      go_wp2_with fail
      refine (I1.out _).mono ?_; rintro e wi ⟨rfl, hbi⟩
      have BI := Lib.hid (hbel.out.trans (hbi.mono hbel.out.size))
      clear hbi c0 I1
      go_wp2_with fail
      go_loopw [9] (fun vk wk => ∃ k : Nat, k ≤ n ∧ vk = .int .i64 (k : Nat) ∧ Hid (Below wc.heap.size wc wk)) (fun vk _ => n - (intOf vk).toNat)
      case atStart => exact ⟨0, Nat.zero_le _, rfl, BI.out⟩
      case round =>
        obtain ⟨k, hk, rfl, hbk⟩ := hrel
        by_cases hlk : k < n
        · have hkl : k < L5.length := by have := HN.out; omega
          have HK0 := Lib.hid (keep1 (HCI.out) hbk.out)
          have HK1 := Lib.hid (keep1 (HCE.out k hkl) hbk.out)
          have HGK : Hid (∃ x, IsV L5[k] x) := HG5.out.2 _ (List.getElem_mem hkl)
          generalize L5[k] = tk at *
          obtain ⟨x, hx⟩ := HGI.out
          obtain ⟨y, hy⟩ := HGK.out
          have CC : Hid (∀ w, Calls Try.prog 31 #[.string ti, .string tk] w (OutI w (cmpR x y, 0))) := fun w => by have := CM.out w ti tk (Nat.le_trans (isV_size hx) (by omega)) (Nat.le_trans (isV_size hy) (by omega)); rwa [cmpT_isV hx hy] at this
          have TE : Hid (((cmpR x y == 0) != (ti.toList == tk.toList)) = false) := by show _ = _; rw [toList_eqv hx hy]; simp
          clear hx hy HGK hkl
          generalize cmpR x y = cc at *
          have B100 := Lib.hid (hbk.out)
          go_wp2_with fail
          refine region_inv 13 119 [(91, Is (.slice (some ⟨gg, 0, none⟩) n c5)), (92, Is (.int .i64 ((i : Int)))), (93, Is (.pointer (some ⟨gg, i, none⟩))), (94, Is (.string ti)), (95, Is (.slice (some ⟨gg, 0, none⟩) n c5)), (96, Is (.int .i64 ((k : Int)))), (97, Is (.pointer (some ⟨gg, k, none⟩))), (98, Is (.string tk)), (99, Is (.tuple #[.int .i64 cc, .int .i64 0])), (90, Is (.tuple #[.int .i64 cc, .int .i64 0])), (100, Is (.int .i64 (cc))), (101, Is (.int .i64 (0))), (10, Is (.int .i64 (cc)))] (by kernel_rfl) rfl (by kernel_rfl) ?_ ?_
          · refine steps_cons rfl (fun A_ W hb hr hg K hK => ?_) <| steps_cons rfl (fun A_ W hb hr hg K hK => ?_) <| steps_cons rfl (fun A_ W hb hr hg K hK => ?_) <| steps_cons rfl (fun A_ W hb hr hg K hK => ?_) <| steps_cons rfl (fun A_ W hb hr hg K hK => ?_) <| steps_cons rfl (fun A_ W hb hr hg K hK => ?_) <| steps_cons rfl (fun A_ W hb hr hg K hK => ?_) <| steps_cons rfl (fun A_ W hb hr hg K hK => ?_) <| steps_cons rfl (fun A_ W hb hr hg K hK => ?_) <| steps_cons rfl (fun A_ W hb hr hg K hK => ?_) <| steps_cons rfl (fun A_ W hb hr hg K hK => ?_) <| steps_cons rfl (fun A_ W hb hr hg K hK => ?_) <| steps_cons rfl (fun A_ W hb hr hg K hK => ?_) trivial
            · have e0 : A_.tmps[5]?.getD undef = .slice (some ⟨gg, 0, none⟩) n c5 := hb 5 (by kernel_rfl)
              clear hb hr
              go_simp
              exact hK _ _ (Below.refl _ _) (rfl)
            · have e0 : A_.tmps[8]?.getD undef = .int .i64 ((i : Int)) := hb 8 (by kernel_rfl)
              clear hb hr
              go_simp
              exact hK _ _ (Below.refl _ _) (rfl)
            · have e0 : A_.tmps[91]?.getD undef = .slice (some ⟨gg, 0, none⟩) n c5 := hr 91 (by kernel_rfl)
              have e1 : A_.tmps[92]?.getD undef = .int .i64 ((i : Int)) := hr 92 (by kernel_rfl)
              clear hb hr
              go_simp; exact hK _ _ (Below.refl _ _) (rfl)
            · have e0 : A_.tmps[93]?.getD undef = .pointer (some ⟨gg, i, none⟩) := hr 93 (by kernel_rfl)
              clear hb hr
              have c0 := keep1 HK0.out hg
              go_simp; exact hK _ _ (Below.refl _ _) (rfl)
            · have e0 : A_.tmps[5]?.getD undef = .slice (some ⟨gg, 0, none⟩) n c5 := hb 5 (by kernel_rfl)
              clear hb hr
              go_simp
              exact hK _ _ (Below.refl _ _) (rfl)
            · have e0 : A_.tmps[9]?.getD undef = .int .i64 ((k : Int)) := hb 9 (by kernel_rfl)
              clear hb hr
              go_simp
              exact hK _ _ (Below.refl _ _) (rfl)
            · have e0 : A_.tmps[95]?.getD undef = .slice (some ⟨gg, 0, none⟩) n c5 := hr 95 (by kernel_rfl)
              have e1 : A_.tmps[96]?.getD undef = .int .i64 ((k : Int)) := hr 96 (by kernel_rfl)
              clear hb hr
              go_simp; exact hK _ _ (Below.refl _ _) (rfl)
            · have e0 : A_.tmps[97]?.getD undef = .pointer (some ⟨gg, k, none⟩) := hr 97 (by kernel_rfl)
              clear hb hr
              have c0 := keep1 HK1.out hg
              go_simp; exact hK _ _ (Below.refl _ _) (rfl)
            · have e0 : A_.tmps[94]?.getD undef = .string ti := hr 94 (by kernel_rfl)
              have e1 : A_.tmps[98]?.getD undef = .string tk := hr 98 (by kernel_rfl)
              clear hb hr
              go_simp
              refine (CC.out _).mono ?_; rintro e w5 ⟨rfl, hb5⟩
              exact hK _ _ hb5 (rfl)
            · have e0 : A_.tmps[99]?.getD undef = .tuple #[.int .i64 cc, .int .i64 0] := hr 99 (by kernel_rfl)
              clear hb hr
              go_simp
              exact hK _ _ (Below.refl _ _) (rfl)
            · have e0 : A_.tmps[90]?.getD undef = .tuple #[.int .i64 cc, .int .i64 0] := hr 90 (by kernel_rfl)
              clear hb hr
              go_simp; exact hK _ _ (Below.refl _ _) (rfl)
            · have e0 : A_.tmps[90]?.getD undef = .tuple #[.int .i64 cc, .int .i64 0] := hr 90 (by kernel_rfl)
              clear hb hr
              go_simp; exact hK _ _ (Below.refl _ _) (rfl)
            · have e0 : A_.tmps[100]?.getD undef = .int .i64 (cc) := hr 100 (by kernel_rfl)
              clear hb hr
              go_simp
              exact hK _ _ (Below.refl _ _) (rfl)
          rintro g101 w101 hb101 ⟨-, -, -, -, -, -, -, -, -, -, -, h101, h10, -⟩
          simp only [List.drop_succ_cons, List.drop_zero, List.take_succ_cons, List.take_zero, putHead, Option.getD_some, Act.put, List.setIfInBounds_toArray, List.set_cons_zero, List.set_cons_succ]
          replace h101 : g101 101 = .int .i64 (0) := h101
          generalize g101 101 = v101 at *
          subst h101
          replace h10 : g101 10 = .int .i64 (cc) := h10
          generalize g101 10 = v10 at *
          subst h10
          have B101 := Lib.hid (bstep (Below.refl _ _) hb101); clear hb101
          have HK2 := Lib.hid (keep1 HK0.out B101.out); have HK3 := Lib.hid (keep1 HK1.out B101.out)
          clear HK0 HK1 CC
          have TE := TE.out
          go_wp2_with fail
          have H_TE := Lib.hid TE; clear TE
          refine region_inv 15 119 [(102, Is (.int .i64 (0))), (103, Is (.bool (false))), (104, Is (.bool (false))), (105, Is (.int .i64 (cc))), (106, Is (.bool ((cc == 0)))), (107, Is (.slice (some ⟨gg, 0, none⟩) n c5)), (108, Is (.int .i64 ((i : Int)))), (109, Is (.pointer (some ⟨gg, i, none⟩))), (110, Is (.string ti)), (111, Is (.slice (some ⟨gg, 0, none⟩) n c5)), (112, Is (.int .i64 ((k : Int)))), (113, Is (.pointer (some ⟨gg, k, none⟩))), (114, Is (.string tk)), (115, Is (.bool ((ti.toList == tk.toList)))), (116, Is (.bool (false)))] (by kernel_rfl) rfl (by kernel_rfl) ?_ ?_
          · refine steps_cons rfl (fun A_ W hb hr hg K hK => ?_) <| steps_cons rfl (fun A_ W hb hr hg K hK => ?_) <| steps_cons rfl (fun A_ W hb hr hg K hK => ?_) <| steps_guard (fun A_ W hb hr hg K hK => ?_) <| steps_guard (fun A_ W hb hr hg K hK => ?_) <| steps_guard (fun A_ W hb hr hg K hK => ?_) <| steps_guard (fun A_ W hb hr hg K hK => ?_) <| steps_guard (fun A_ W hb hr hg K hK => ?_) <| steps_guard (fun A_ W hb hr hg K hK => ?_) <| steps_guard (fun A_ W hb hr hg K hK => ?_) <| steps_guard (fun A_ W hb hr hg K hK => ?_) <| steps_guard (fun A_ W hb hr hg K hK => ?_) <| steps_guard (fun A_ W hb hr hg K hK => ?_) <| steps_guard (fun A_ W hb hr hg K hK => ?_) <| steps_guard (fun A_ W hb hr hg K hK => ?_) trivial
            · have e0 : A_.tmps[11]?.getD undef = .int .i64 (0) := hb 11 (by kernel_rfl)
              clear hb hr
              go_simp
              exact hK _ _ (Below.refl _ _) (rfl)
            · have e0 : A_.tmps[102]?.getD undef = .int .i64 (0) := hr 102 (by kernel_rfl)
              clear hb hr
              go_simp
              exact hK _ _ (Below.refl _ _) (rfl)
            · have e0 : A_.tmps[103]?.getD undef = .bool (false) := hr 103 (by kernel_rfl)
              clear hb hr
              go_simp
              exact hK _ _ (Below.refl _ _) (rfl)
            · have eG : A_.tmps[104]?.getD undef = .bool (false) := hr 104 (by kernel_rfl)
              have e0 : A_.tmps[10]?.getD undef = .int .i64 (cc) := hb 10 (by kernel_rfl)
              clear hb hr
              refine guard_on rfl (by kernel_rfl) eG ?_
              clear eG
              go_simp
              exact hK _ _ (Below.refl _ _) (rfl)
            · have eG : A_.tmps[104]?.getD undef = .bool (false) := hr 104 (by kernel_rfl)
              have e0 : A_.tmps[105]?.getD undef = .int .i64 (cc) := hr 105 (by kernel_rfl)
              clear hb hr
              refine guard_on rfl (by kernel_rfl) eG ?_
              clear eG
              go_simp
              exact hK _ _ (Below.refl _ _) (rfl)
            · have eG : A_.tmps[104]?.getD undef = .bool (false) := hr 104 (by kernel_rfl)
              have e0 : A_.tmps[5]?.getD undef = .slice (some ⟨gg, 0, none⟩) n c5 := hb 5 (by kernel_rfl)
              clear hb hr
              refine guard_on rfl (by kernel_rfl) eG ?_
              clear eG
              go_simp
              exact hK _ _ (Below.refl _ _) (rfl)
            · have eG : A_.tmps[104]?.getD undef = .bool (false) := hr 104 (by kernel_rfl)
              have e0 : A_.tmps[8]?.getD undef = .int .i64 ((i : Int)) := hb 8 (by kernel_rfl)
              clear hb hr
              refine guard_on rfl (by kernel_rfl) eG ?_
              clear eG
              go_simp
              exact hK _ _ (Below.refl _ _) (rfl)
            · have eG : A_.tmps[104]?.getD undef = .bool (false) := hr 104 (by kernel_rfl)
              have e0 : A_.tmps[107]?.getD undef = .slice (some ⟨gg, 0, none⟩) n c5 := hr 107 (by kernel_rfl)
              have e1 : A_.tmps[108]?.getD undef = .int .i64 ((i : Int)) := hr 108 (by kernel_rfl)
              clear hb hr
              refine guard_on rfl (by kernel_rfl) eG ?_
              clear eG
              go_simp; exact hK _ _ (Below.refl _ _) (rfl)
            · have eG : A_.tmps[104]?.getD undef = .bool (false) := hr 104 (by kernel_rfl)
              have e0 : A_.tmps[109]?.getD undef = .pointer (some ⟨gg, i, none⟩) := hr 109 (by kernel_rfl)
              clear hb hr
              refine guard_on rfl (by kernel_rfl) eG ?_
              clear eG
              have c0 := keep1 HK2.out hg
              go_simp; exact hK _ _ (Below.refl _ _) (rfl)
            · have eG : A_.tmps[104]?.getD undef = .bool (false) := hr 104 (by kernel_rfl)
              have e0 : A_.tmps[5]?.getD undef = .slice (some ⟨gg, 0, none⟩) n c5 := hb 5 (by kernel_rfl)
              clear hb hr
              refine guard_on rfl (by kernel_rfl) eG ?_
              clear eG
              go_simp
              exact hK _ _ (Below.refl _ _) (rfl)
            · have eG : A_.tmps[104]?.getD undef = .bool (false) := hr 104 (by kernel_rfl)
              have e0 : A_.tmps[9]?.getD undef = .int .i64 ((k : Int)) := hb 9 (by kernel_rfl)
              clear hb hr
              refine guard_on rfl (by kernel_rfl) eG ?_
              clear eG
              go_simp
              exact hK _ _ (Below.refl _ _) (rfl)
            · have eG : A_.tmps[104]?.getD undef = .bool (false) := hr 104 (by kernel_rfl)
              have e0 : A_.tmps[111]?.getD undef = .slice (some ⟨gg, 0, none⟩) n c5 := hr 111 (by kernel_rfl)
              have e1 : A_.tmps[112]?.getD undef = .int .i64 ((k : Int)) := hr 112 (by kernel_rfl)
              clear hb hr
              refine guard_on rfl (by kernel_rfl) eG ?_
              clear eG
              go_simp; exact hK _ _ (Below.refl _ _) (rfl)
            · have eG : A_.tmps[104]?.getD undef = .bool (false) := hr 104 (by kernel_rfl)
              have e0 : A_.tmps[113]?.getD undef = .pointer (some ⟨gg, k, none⟩) := hr 113 (by kernel_rfl)
              clear hb hr
              refine guard_on rfl (by kernel_rfl) eG ?_
              clear eG
              have c0 := keep1 HK3.out hg
              go_simp; exact hK _ _ (Below.refl _ _) (rfl)
            · have eG : A_.tmps[104]?.getD undef = .bool (false) := hr 104 (by kernel_rfl)
              have e0 : A_.tmps[110]?.getD undef = .string ti := hr 110 (by kernel_rfl)
              have e1 : A_.tmps[114]?.getD undef = .string tk := hr 114 (by kernel_rfl)
              clear hb hr
              refine guard_on rfl (by kernel_rfl) eG ?_
              clear eG
              go_simp
              exact hK _ _ (Below.refl _ _) (rfl)
            · have eG : A_.tmps[104]?.getD undef = .bool (false) := hr 104 (by kernel_rfl)
              have e0 : A_.tmps[106]?.getD undef = .bool ((cc == 0)) := hr 106 (by kernel_rfl)
              have e1 : A_.tmps[115]?.getD undef = .bool ((ti.toList == tk.toList)) := hr 115 (by kernel_rfl)
              clear hb hr
              refine guard_on rfl (by kernel_rfl) eG ?_
              clear eG
              go_simp
              exact hK _ _ (Below.refl _ _) (Eq.trans (show _ = Value.bool (((cc == 0) != (ti.toList == tk.toList))) from rfl) (congrArg Value.bool H_TE.out))
          rintro g102 w102 hb102 ⟨-, -, h104, -, -, -, -, -, -, -, -, -, -, -, h116, -⟩
          simp only [List.drop_succ_cons, List.drop_zero, List.take_succ_cons, List.take_zero, putHead, Option.getD_some, Act.put, List.setIfInBounds_toArray, List.set_cons_zero, List.set_cons_succ]
          replace h104 : g102 104 = .bool (false) := h104
          generalize g102 104 = v104 at *
          subst h104
          replace h116 : g102 116 = .bool (false) := h116
          generalize g102 116 = v116 at *
          subst h116
          have B102 := Lib.hid (bstep B101.out hb102); clear hb102
          have BK := Lib.hid (B100.out.trans (B102.out.mono B100.out.size))
          clear B101 B102 B100 HK2 HK3 hbk
          go_wp2_with fail
          have hw : wrap64 ((k : Int) + 1) = ((k + 1 : Nat) : Int) := by unfold wrap64; have := HN.out; have := HG5.out.1; omega
          go_roundw
          case rel => exact ⟨k + 1, hlk, congrArg (Value.int .i64) hw, BK.out⟩
          case measure => rw [hw]; simp [intOf]; omega
        · have hw : wrap64 ((i : Int) + 1) = ((i + 1 : Nat) : Int) := by unfold wrap64; have := HN.out; have := HG5.out.1; omega
          go_wp2_with fail
          go_roundw
          case rel => exact ⟨i + 1, hlt, by first | exact congrArg (Value.int .i64) hw | rfl, hbk.out⟩
          case measure => first | (rw [hw]; simp [intOf]; omega) | (simp [intOf]; omega)
    · go_wp2_with fail
      refine (AL.out _).mono ?_; rintro e wz ⟨rfl, hbz⟩
      have BZ := Lib.hid (bstep (bstep C5.out hbel.out) hbz); clear hbz
      go_wp2_with fail
      go_ret
      exact ⟨rfl, BZ.out⟩

end Go.Proofs.Ytlkdahgfnfdakaa

namespace Go.Proofs.Ytlkdahgfnfdakaa
open Go.ChangeShapes Go.WideShapes Go.ChangeAt Go.RowKit
open Go.ChangeMaps (open_string shut_string)

set_option maxRecDepth 100000 in
theorem form_lifted (os : Os) (started : os.Started) (H : Type) (enc : TypeId × Value → H) :
    ReturnsInHanded {} Try.checked os 15 .any (Rows.ratFormSpec.pre6 enc Try.prog Try.f15 Rows.ratFormRow.domain false) (Rows.ratFormSpec.post enc Try.prog Try.f15 false true false false) := by
  refine returnsInHanded_of_change_sized (C := Try.checked) Try.own started (by kernel_rfl) Try.func15
    (ChangeSpec.witness6 (enc := enc) (C := Try.checked) false ⟨#[], #[.string ⟨#[]⟩, .string ⟨#[]⟩], []⟩ 8 (by kernel_rfl) (by kernel_rfl) (by kernel_rfl) (by kernel_rfl)) ?_
  intro W base args ds gs before hval0 hW hcnd hsz0 _
  have hsz : (DataW.weightsEach Try.prog (Try.f15.params.toList ++ Rows.ratFormSpec.plain.varTypes Try.prog) (ds ++ gs)).all (· ≤ reachBytes) = true := hsz0
  clear hsz0
  have hval : ∀ (j : Nat) t v, Try.f15.params[j]? = some t → args[j]? = some v → Value.okWide Try.prog W .any base t v := hval0
  have hW1 := hW
  obtain ⟨p, q, hA0, hV, rfl, hfz, hnd⟩ := hW
  have hA : DataW.TrodAll enc Try.prog W 0 (fun _ => true) true Try.f15.params.toList args.toList ds p := hA0
  rw [Try.params15] at hA hval hsz
  obtain ⟨v0, v1, d0, d1, p0, p1, rfl, rfl, rfl, h0, h1⟩ := trodAll_two hA
  obtain ⟨rfl, rfl⟩ := trodVars_none hV
  obtain ⟨a, rfl, rfl, rfl, wa⟩ := open_string Try.underlying9 (hval 0 9 v0 rfl rfl) h0
  obtain ⟨b, rfl, rfl, rfl, wb⟩ := open_string Try.underlying9 (hval 1 9 v1 rfl rfl) h1
  clear hA0 hval0
  simp only [List.append_nil] at hW1
  have sa : a.size ≤ 140737488355328 := size_of (sized_string hsz (j := 0) (t := 9) rfl rfl)
  have sb : b.size ≤ 140737488355328 := size_of (sized_string hsz (j := 1) (t := 9) rfl rfl)
  refine (form_law W a b sa sb).mono fun e W1 ⟨he, hw⟩ => ?_
  subst he
  exact ⟨_, rfl, post_new hW1 hw (fun _ _ _ => trodAll_mk1 (shut_bool Try.underlying4 true)) (fun _ => trodAll_mk2 (shut_string Try.underlying9 wa) (shut_string Try.underlying9 wb)) (fun _ => rfl)
    (ok_one (by kernel_rfl) rfl (okWide_bool_mk Try.underlying4 true))⟩

theorem form_holds : Rows.RatFormSaid :=
  OpenClaim.holds_of_wide 15 Try.f15 rfl rfl rfl rfl rfl rfl rfl ⟨rfl, rfl, rfl, rfl, rfl⟩ rfl rfl rfl rfl rfl (by kernel_rfl) Try.func15 (by kernel_rfl)
    (of_decide_eq_true (by kernel_rfl)) (by unfold Func.isWrapper; first | (rw [if_pos (by decide +kernel)]; kernel_rfl) | (rw [if_neg (by decide +kernel)]; exact ⟨rfl, rfl⟩))
    (fun os started H enc _ => form_lifted os started H enc)
end Go.Proofs.Ytlkdahgfnfdakaa
