/- The reference's written: a token as it is written, and whether it is one. -/
import Derived.Test.YtegobakoflbnfaaGreatDoorRwm
import Derived.Test.YtegobakoflbnfaaGreatDoorRdc
namespace Go.Proofs.YtegobakoflbnfaaGreatDoor
open Go Go.RowKit

set_option maxHeartbeats 8000000 in
set_option maxRecDepth 100000 in
theorem refwr_any (w : World) (k : Int) (s : ByteArray) (p : Int) (hs : s.size ≤ 140737488351232) : Calls Tryz.prog 19 #[.agg #[.int .i64 k, .string s, .int .i64 p]] w fun e w' => ∃ T, e = .returned (.tuple #[.string T, .bool (isTokB k s)]) ∧ (isTokB k s = true → T = writT k s) ∧ Below w.heap.size w w' := by
  have BX := Lib.hid (BoxT.new w (.int .i64 k) (.string s) (.int .i64 p))
  have HB := Lib.hid (below_alloc w (.cells #[.int .i64 k, .string s, .int .i64 p] 37))
  obtain ⟨b, hb⟩ : ∃ b, b = isTokB k s := ⟨_, rfl⟩
  rw [← hb]
  have Q1 : Hid (¬ (9223372036854775807 < 1 + s.size)) := by show ¬ _; omega
  have Q2 : Hid (¬ (9223372036854775807 < 1 + s.size + 1)) := by show ¬ _; omega
  by_cases hk1 : k = 1
  · have hk := hk1; clear hk1
    subst hk
    have RW : Hid (∀ W, Calls Tryz.prog 40 #[.string s] W fun e w' => e = .returned (.bool b) ∧ Below W.heap.size W w') := fun W => by rw [hb, tok1]; exact refword_any W s (by omega)
    have HR : Hid (s = writT 1 s) := (wr_plain (by decide) (by decide) s).symm
    clear hb hs
    go_enter Tryz.func19, Tryz.ntmps19
    go_wp2_with fail
    refine region_inv 6 45 [(8, Is (.pointer (some ⟨w.heap.size, 1, none⟩))), (9, Is (.string s)), (10, Is (.pointer (some ⟨w.heap.size, 1, none⟩))), (11, Is (.string s)), (12, Is (.bool b)), (2, Is (.string s))] (by kernel_rfl) rfl (by kernel_rfl) ?_ ?_
    · refine steps_cons rfl (fun A_ W hb hr hg K hK => ?_) <| steps_cons rfl (fun A_ W hb hr hg K hK => ?_) <| steps_cons rfl (fun A_ W hb hr hg K hK => ?_) <| steps_cons rfl (fun A_ W hb hr hg K hK => ?_) <| steps_cons rfl (fun A_ W hb hr hg K hK => ?_) <| steps_cons rfl (fun A_ W hb hr hg K hK => ?_) trivial
      · have e0 : A_.tmps[1]?.getD undef = .pointer (some ⟨w.heap.size, 0, none⟩) := hb 1 (by kernel_rfl)
        clear hb hr; go_simp; exact hK _ _ (Below.refl _ _) rfl
      · have e0 : A_.tmps[8]?.getD undef = .pointer (some ⟨w.heap.size, 1, none⟩) := hr 8 (by kernel_rfl)
        obtain ⟨y0, y1, y2, -, -, -⟩ := (BX.out.go hg).facts
        clear hb hr; go_simp; exact hK _ _ (Below.refl _ _) rfl
      · have e0 : A_.tmps[1]?.getD undef = .pointer (some ⟨w.heap.size, 0, none⟩) := hb 1 (by kernel_rfl)
        clear hb hr; go_simp; exact hK _ _ (Below.refl _ _) rfl
      · have e0 : A_.tmps[10]?.getD undef = .pointer (some ⟨w.heap.size, 1, none⟩) := hr 10 (by kernel_rfl)
        obtain ⟨y0, y1, y2, -, -, -⟩ := (BX.out.go hg).facts
        clear hb hr; go_simp; exact hK _ _ (Below.refl _ _) rfl
      · have e0 : A_.tmps[11]?.getD undef = .string s := hr 11 (by kernel_rfl)
        clear hb hr; go_simp
        refine (RW.out W).mono ?_; rintro e w5 ⟨rfl, hb5⟩
        exact hK _ _ hb5 rfl
      · have e0 : A_.tmps[9]?.getD undef = .string s := hr 9 (by kernel_rfl)
        clear hb hr; go_simp; exact hK _ _ (Below.refl _ _) rfl
    rintro g4 w14 hb14 ⟨-, -, -, -, hK, hT, -⟩
    simp only [List.drop_succ_cons, List.drop_zero, List.take_succ_cons, List.take_zero, putHead, Option.getD_some, Act.put, List.setIfInBounds_toArray, List.set_cons_zero, List.set_cons_succ]
    replace hT : g4 2 = .string s := hT
    replace hK : g4 12 = .bool b := hK
    rw [hT, hK]
    have HB9 := Lib.hid (bstep HB.out hb14)
    clear hb14 hT hK
    go_wp2_with fail
    refine bodyPost_ret (v := .tuple #[.string s, .bool b]) (by simp [results, Tryz.f19, go_sem]) rfl ⟨_, rfl, fun _ => HR.out, HB9.out⟩
  have k1 : (k == 1) = false := by rw [beq_eq_false_iff_ne]; exact hk1
  by_cases hk2 : k = 2
  · have hk := hk2; clear hk2 hk1 k1
    subst hk
    have KY := Lib.hid (fun W => keys_any W)
    have IN : Hid (∀ W v, StrAt W v keysB → Calls Tryz.prog 30 #[v, .string s] W fun e w' => e = .returned (.bool b) ∧ w' = W) := fun W v h => by rw [hb, tok2]; exact in_any W v keysB s h (by decide)
    have HR : Hid (s = writT 2 s) := (wr_plain (by decide) (by decide) s).symm
    clear hb hs
    go_enter Tryz.func19, Tryz.ntmps19
    go_wp2_with fail
    refine region_inv 7 45 [(15, Is (.pointer (some ⟨w.heap.size, 1, none⟩))), (16, Is (.string s)), (17, IsStrs keysB), (18, Is (.pointer (some ⟨w.heap.size, 1, none⟩))), (19, Is (.string s)), (20, Is (.bool b)), (2, Is (.string s))] (by kernel_rfl) rfl (by kernel_rfl) ?_ ?_
    · refine steps_cons rfl (fun A_ W hb hr hg K hK => ?_) <| steps_cons rfl (fun A_ W hb hr hg K hK => ?_) <| steps_cons rfl (fun A_ W hb hr hg K hK => ?_) <| steps_cons rfl (fun A_ W hb hr hg K hK => ?_) <| steps_cons rfl (fun A_ W hb hr hg K hK => ?_) <| steps_cons rfl (fun A_ W hb hr hg K hK => ?_) <| steps_cons rfl (fun A_ W hb hr hg K hK => ?_) trivial
      · have e0 : A_.tmps[1]?.getD undef = .pointer (some ⟨w.heap.size, 0, none⟩) := hb 1 (by kernel_rfl)
        clear hb hr; go_simp; exact hK _ _ (Below.refl _ _) rfl
      · have e0 : A_.tmps[15]?.getD undef = .pointer (some ⟨w.heap.size, 1, none⟩) := hr 15 (by kernel_rfl)
        obtain ⟨y0, y1, y2, -, -, -⟩ := (BX.out.go hg).facts
        clear hb hr; go_simp; exact hK _ _ (Below.refl _ _) rfl
      · clear hb hr; go_simp
        refine (KY.out W).mono ?_; rintro e w5 ⟨v5, rfl, hv5, hb5⟩
        exact hK _ _ hb5 hv5
      · have e0 : A_.tmps[1]?.getD undef = .pointer (some ⟨w.heap.size, 0, none⟩) := hb 1 (by kernel_rfl)
        clear hb hr; go_simp; exact hK _ _ (Below.refl _ _) rfl
      · have e0 : A_.tmps[18]?.getD undef = .pointer (some ⟨w.heap.size, 1, none⟩) := hr 18 (by kernel_rfl)
        obtain ⟨y0, y1, y2, -, -, -⟩ := (BX.out.go hg).facts
        clear hb hr; go_simp; exact hK _ _ (Below.refl _ _) rfl
      · have h1 : StrAt W (A_.tmps[17]?.getD undef) keysB := hr 17 (by kernel_rfl)
        have H1 := Lib.hid h1
        have e0 : A_.tmps[19]?.getD undef = .string s := hr 19 (by kernel_rfl)
        clear hb hr h1; go_simp
        refine (IN.out W _ H1.out).mono ?_; rintro e w5 ⟨rfl, rfl⟩
        exact hK _ _ (Below.refl _ _) rfl
      · have e0 : A_.tmps[16]?.getD undef = .string s := hr 16 (by kernel_rfl)
        clear hb hr; go_simp; exact hK _ _ (Below.refl _ _) rfl
    rintro g4 w14 hb14 ⟨-, -, -, -, -, hK, hT, -⟩
    simp only [List.drop_succ_cons, List.drop_zero, List.take_succ_cons, List.take_zero, putHead, Option.getD_some, Act.put, List.setIfInBounds_toArray, List.set_cons_zero, List.set_cons_succ]
    replace hT : g4 2 = .string s := hT
    replace hK : g4 20 = .bool b := hK
    rw [hT, hK]
    have HB9 := Lib.hid (bstep HB.out hb14)
    clear hb14 hT hK
    go_wp2_with fail
    refine bodyPost_ret (v := .tuple #[.string s, .bool b]) (by simp [results, Tryz.f19, go_sem]) rfl ⟨_, rfl, fun _ => HR.out, HB9.out⟩
  have k2 : (k == 2) = false := by rw [beq_eq_false_iff_ne]; exact hk2
  by_cases hk3 : k = 3
  · subst hk3
    obtain ⟨t1, t2⟩ := tok3 s
    obtain ⟨X, hX⟩ : ∃ X, X = refDec s.data.toList := ⟨_, rfl⟩
    rw [← hX] at t1 t2
    have DC := Lib.hid (fun W => QA.refdec_any W s (by omega))
    rw [← hX] at DC
    cases X with
    | none =>
      have hbf : b = false := by rw [hb, t1]; rfl
      subst hbf
      clear hb t1 t2 hX hk1 hk2 k1 k2 hs
      go_enter Tryz.func19, Tryz.ntmps19
      go_wp2_with fail
      refine (DC.out _).mono ?_; rintro e w2 ⟨hb2, rfl⟩
      have HB9 := Lib.hid (bstep HB.out hb2); clear hb2
      unfold QA.decEnd
      go_wp2_with fail
      refine bodyPost_ret (v := .tuple #[.string ⟨#[]⟩, .bool false]) (by simp [results, Tryz.f19, go_sem]) rfl ⟨_, rfl, (fun h => by cases h), HB9.out⟩
    | some o =>
      have hbt : b = true := by rw [hb, t1]; rfl
      subst hbt
      have HR : Hid (⟨o.toArray⟩ = writT 3 s) := (t2 o rfl).symm
      clear hb t1 t2 hX hk1 hk2 k1 k2 hs
      go_enter Tryz.func19, Tryz.ntmps19
      go_wp2_with fail
      refine (DC.out _).mono ?_; rintro e w2 ⟨hb2, rfl⟩
      have HB9 := Lib.hid (bstep HB.out hb2); clear hb2
      unfold QA.decEnd
      go_wp2_with fail
      refine bodyPost_ret (v := .tuple #[.string ⟨o.toArray⟩, .bool true]) (by simp [results, Tryz.f19, go_sem]) rfl ⟨_, rfl, fun _ => HR.out, HB9.out⟩
  have k3 : (k == 3) = false := by rw [beq_eq_false_iff_ne]; exact hk3
  by_cases hk4 : k = 4
  · have hk := hk4; clear hk1 hk2 hk3 hk4 k1 k2 k3
    subst hk
    have IS : Hid (∀ W, Calls Tryz.prog 34 #[.string s] W fun e w' => e = .returned (.bool b) ∧ Below W.heap.size W w') := fun W => by rw [hb, tok4]; exact (isstring_any W s (by omega)).mono (fun e w' h => ⟨h.1, by rw [h.2]; exact Below.refl _ _⟩)
    have HR : Hid ((⟨#[34]⟩ : ByteArray) ++ s ++ ⟨#[34]⟩ = writT 4 s) := rfl
    clear hb hs
    go_enter Tryz.func19, Tryz.ntmps19
    go_wp2_with fail
    refine region_inv 8 45 [(30, Is (.pointer (some ⟨w.heap.size, 1, none⟩))), (31, Is (.string s)), (32, Is (.string ((⟨#[34]⟩ : ByteArray) ++ s))), (33, Is (.string ((⟨#[34]⟩ : ByteArray) ++ s ++ ⟨#[34]⟩))), (34, Is (.pointer (some ⟨w.heap.size, 1, none⟩))), (35, Is (.string s)), (36, Is (.bool b)), (2, Is (.string ((⟨#[34]⟩ : ByteArray) ++ s ++ ⟨#[34]⟩)))] (by kernel_rfl) rfl (by kernel_rfl) ?_ ?_
    · refine steps_cons rfl (fun A_ W hb hr hg K hK => ?_) <| steps_cons rfl (fun A_ W hb hr hg K hK => ?_) <| steps_cons rfl (fun A_ W hb hr hg K hK => ?_) <| steps_cons rfl (fun A_ W hb hr hg K hK => ?_) <| steps_cons rfl (fun A_ W hb hr hg K hK => ?_) <| steps_cons rfl (fun A_ W hb hr hg K hK => ?_) <| steps_cons rfl (fun A_ W hb hr hg K hK => ?_) <| steps_cons rfl (fun A_ W hb hr hg K hK => ?_) trivial
      · have e0 : A_.tmps[1]?.getD undef = .pointer (some ⟨w.heap.size, 0, none⟩) := hb 1 (by kernel_rfl)
        clear hb hr; go_simp; exact hK _ _ (Below.refl _ _) rfl
      · have e0 : A_.tmps[30]?.getD undef = .pointer (some ⟨w.heap.size, 1, none⟩) := hr 30 (by kernel_rfl)
        obtain ⟨y0, y1, y2, -, -, -⟩ := (BX.out.go hg).facts
        clear hb hr; go_simp; exact hK _ _ (Below.refl _ _) rfl
      · have e0 : A_.tmps[31]?.getD undef = .string s := hr 31 (by kernel_rfl)
        have q1 := Q1.out
        clear hb hr; go_simp; exact hK _ _ (Below.refl _ _) rfl
      · have e0 : A_.tmps[32]?.getD undef = .string ((⟨#[34]⟩ : ByteArray) ++ s) := hr 32 (by kernel_rfl)
        have q2 := Q2.out
        clear hb hr; go_simp; exact hK _ _ (Below.refl _ _) rfl
      · have e0 : A_.tmps[1]?.getD undef = .pointer (some ⟨w.heap.size, 0, none⟩) := hb 1 (by kernel_rfl)
        clear hb hr; go_simp; exact hK _ _ (Below.refl _ _) rfl
      · have e0 : A_.tmps[34]?.getD undef = .pointer (some ⟨w.heap.size, 1, none⟩) := hr 34 (by kernel_rfl)
        obtain ⟨y0, y1, y2, -, -, -⟩ := (BX.out.go hg).facts
        clear hb hr; go_simp; exact hK _ _ (Below.refl _ _) rfl
      · have e0 : A_.tmps[35]?.getD undef = .string s := hr 35 (by kernel_rfl)
        clear hb hr; go_simp
        refine (IS.out W).mono ?_; rintro e w5 ⟨rfl, hb5⟩
        exact hK _ _ hb5 rfl
      · have e0 : A_.tmps[33]?.getD undef = .string ((⟨#[34]⟩ : ByteArray) ++ s ++ ⟨#[34]⟩) := hr 33 (by kernel_rfl)
        clear hb hr; go_simp; exact hK _ _ (Below.refl _ _) rfl
    rintro g4 w14 hb14 ⟨-, -, -, -, -, -, hK, hT, -⟩
    simp only [List.drop_succ_cons, List.drop_zero, List.take_succ_cons, List.take_zero, putHead, Option.getD_some, Act.put, List.setIfInBounds_toArray, List.set_cons_zero, List.set_cons_succ]
    replace hT : g4 2 = .string ((⟨#[34]⟩ : ByteArray) ++ s ++ ⟨#[34]⟩) := hT
    replace hK : g4 36 = .bool b := hK
    rw [hT, hK]
    have HB9 := Lib.hid (bstep HB.out hb14)
    clear hb14 hT hK
    go_wp2_with fail
    refine bodyPost_ret (v := .tuple #[.string ((⟨#[34]⟩ : ByteArray) ++ s ++ ⟨#[34]⟩), .bool b]) (by simp [results, Tryz.f19, go_sem]) rfl ⟨_, rfl, fun _ => HR.out, HB9.out⟩
  have k4 : (k == 4) = false := by rw [beq_eq_false_iff_ne]; exact hk4
  by_cases hk5 : k = 5
  · have hk := hk5; clear hk1 hk2 hk3 hk4 hk5 k1 k2 k3 k4
    subst hk
    have SY := Lib.hid (fun W => symbols_any W)
    have IN : Hid (∀ W v, StrAt W v symsB → Calls Tryz.prog 30 #[v, .string s] W fun e w' => e = .returned (.bool b) ∧ w' = W) := fun W v h => by rw [hb, tok5]; exact in_any W v symsB s h (by decide)
    have HR : Hid (s = writT 5 s) := (wr_plain (by decide) (by decide) s).symm
    clear hb hs
    go_enter Tryz.func19, Tryz.ntmps19
    go_wp2_with fail
    refine region_inv 7 45 [(39, Is (.pointer (some ⟨w.heap.size, 1, none⟩))), (40, Is (.string s)), (41, IsStrs symsB), (42, Is (.pointer (some ⟨w.heap.size, 1, none⟩))), (43, Is (.string s)), (44, Is (.bool b)), (2, Is (.string s))] (by kernel_rfl) rfl (by kernel_rfl) ?_ ?_
    · refine steps_cons rfl (fun A_ W hb hr hg K hK => ?_) <| steps_cons rfl (fun A_ W hb hr hg K hK => ?_) <| steps_cons rfl (fun A_ W hb hr hg K hK => ?_) <| steps_cons rfl (fun A_ W hb hr hg K hK => ?_) <| steps_cons rfl (fun A_ W hb hr hg K hK => ?_) <| steps_cons rfl (fun A_ W hb hr hg K hK => ?_) <| steps_cons rfl (fun A_ W hb hr hg K hK => ?_) trivial
      · have e0 : A_.tmps[1]?.getD undef = .pointer (some ⟨w.heap.size, 0, none⟩) := hb 1 (by kernel_rfl)
        clear hb hr; go_simp; exact hK _ _ (Below.refl _ _) rfl
      · have e0 : A_.tmps[39]?.getD undef = .pointer (some ⟨w.heap.size, 1, none⟩) := hr 39 (by kernel_rfl)
        obtain ⟨y0, y1, y2, -, -, -⟩ := (BX.out.go hg).facts
        clear hb hr; go_simp; exact hK _ _ (Below.refl _ _) rfl
      · clear hb hr; go_simp
        refine (SY.out W).mono ?_; rintro e w5 ⟨v5, rfl, hv5, hb5⟩
        exact hK _ _ hb5 hv5
      · have e0 : A_.tmps[1]?.getD undef = .pointer (some ⟨w.heap.size, 0, none⟩) := hb 1 (by kernel_rfl)
        clear hb hr; go_simp; exact hK _ _ (Below.refl _ _) rfl
      · have e0 : A_.tmps[42]?.getD undef = .pointer (some ⟨w.heap.size, 1, none⟩) := hr 42 (by kernel_rfl)
        obtain ⟨y0, y1, y2, -, -, -⟩ := (BX.out.go hg).facts
        clear hb hr; go_simp; exact hK _ _ (Below.refl _ _) rfl
      · have h1 : StrAt W (A_.tmps[41]?.getD undef) symsB := hr 41 (by kernel_rfl)
        have H1 := Lib.hid h1
        have e0 : A_.tmps[43]?.getD undef = .string s := hr 43 (by kernel_rfl)
        clear hb hr h1; go_simp
        refine (IN.out W _ H1.out).mono ?_; rintro e w5 ⟨rfl, rfl⟩
        exact hK _ _ (Below.refl _ _) rfl
      · have e0 : A_.tmps[40]?.getD undef = .string s := hr 40 (by kernel_rfl)
        clear hb hr; go_simp; exact hK _ _ (Below.refl _ _) rfl
    rintro g4 w14 hb14 ⟨-, -, -, -, -, hK, hT, -⟩
    simp only [List.drop_succ_cons, List.drop_zero, List.take_succ_cons, List.take_zero, putHead, Option.getD_some, Act.put, List.setIfInBounds_toArray, List.set_cons_zero, List.set_cons_succ]
    replace hT : g4 2 = .string s := hT
    replace hK : g4 44 = .bool b := hK
    rw [hT, hK]
    have HB9 := Lib.hid (bstep HB.out hb14)
    clear hb14 hT hK
    go_wp2_with fail
    refine bodyPost_ret (v := .tuple #[.string s, .bool b]) (by simp [results, Tryz.f19, go_sem]) rfl ⟨_, rfl, fun _ => HR.out, HB9.out⟩
  have k5 : (k == 5) = false := by rw [beq_eq_false_iff_ne]; exact hk5
  have hbf : b = false := by rw [hb]; exact tokN hk1 hk2 hk3 hk4 hk5 s
  subst hbf
  clear hb hk1 hk2 hk3 hk4 hk5 hs
  go_enter Tryz.func19, Tryz.ntmps19
  go_wp2_with fail
  refine bodyPost_ret (v := .tuple #[.string ⟨#[]⟩, .bool false]) (by simp [results, Tryz.f19, go_sem]) rfl ⟨_, rfl, (fun h => by cases h), HB.out⟩
end Go.Proofs.YtegobakoflbnfaaGreatDoor
