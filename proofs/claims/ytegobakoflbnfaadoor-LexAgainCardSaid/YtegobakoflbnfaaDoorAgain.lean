/- LexAgain: the law's walk. -/
import Derived.Test.YtegobakoflbnfaaDoorM10
import Derived.Test.YtegobakoflbnfaaDoorW2
import Derived.Test.YtegobakoflbnfaaDoorX
namespace Go.Proofs.YtegobakoflbnfaaDoor
open Go Go.RowKit

set_option maxHeartbeats 6400000 in
set_option maxRecDepth 100000 in
theorem again_any (w : World) (s : ByteArray) (he : ErrV w) (hm : MaxL w) (hp : Pow10 w) : Calls Tryd.prog 5 #[.string s] w fun e w' => e = .returned (.bool true) ∧ Below w.heap.size w w' := by
  have AL : Hid (∀ W, Below w.heap.size w W → Calls Tryd.prog 13 #[] W fun e w' => e = .returned (.bool true) ∧ Below W.heap.size W w') := fun W hb => alive_any W (hm.go hb) (hp.go hb)
  by_cases h8 : 800 < s.size
  · have t1 : decide (800 < (s.size : Int)) = true := decide_eq_true (by omega)
    clear h8 he hm hp
    go_enter Tryd.func5, Tryd.ntmps5
    go_wp2_with fail
    refine (AL.out _ (Below.refl _ _)).mono ?_; rintro e w1 ⟨rfl, hb⟩
    have HB := Lib.hid hb; clear hb
    go_wp2_with fail
    go_ret
    exact ⟨rfl, HB.out⟩
  · have t1 : decide (800 < (s.size : Int)) = false := decide_eq_false (by omega)
    have SC : Hid (∀ W x, Below w.heap.size w W → x.size ≤ 8000 → Calls Tryd.prog 15 #[.string x] W (RetScan W (scanT x))) := fun W x hb hx => scan_any W x (by omega) (hm.go hb) (hp.go hb)
    have S1 := Lib.hid (SC.out w s (Below.refl _ _) (by omega))
    have hcode := sc_code _ 0 s.data.toList (Nat.le_refl _)
    rw [← scan_eq s (by omega)] at hcode
    have hfacts : (scanT s).2.2 = 0 → _ := fun h => again_facts (by omega) h
    have TX : Hid (∀ W v, Below w.heap.size w W → TokO W v (scanT s).1 → (scanT s).1.length ≤ 2000 → (∀ t ∈ (scanT s).1, t.2.1.size ≤ 140737488351232) → Calls Tryd.prog 14 #[v] W fun e w' => e = .returned (.tuple #[.string (textT (scanT s).1).1, .int .i64 (textT (scanT s).1).2]) ∧ Below W.heap.size W w') :=
      fun W v hb h1 h2 h3 => text_any W v _ h1 h2 h3 (he.go hb) (hm.go hb) (hp.go hb)
    obtain ⟨⟨L, m, e⟩, hT⟩ : ∃ x, x = scanT s := ⟨_, rfl⟩
    rw [← hT] at S1 hcode hfacts TX
    simp only [] at hcode hfacts TX
    clear he hm hp hT h8
    by_cases h0 : e = 0
    · subst h0
      obtain ⟨f1, f2, f3, f4⟩ := hfacts rfl
      rw [f1] at TX
      have hshort : ∀ t ∈ L, t.2.1.size ≤ 140737488351232 := fun t ht => by
        have h9 := List.all_eq_true.1 f4 t ht
        obtain ⟨a1, a2⟩ := isT_tok h9
        have hsh := isT_text h9
        omega
      obtain ⟨g1, g2, g3, g4⟩ := scan_joined f4 f3 (by omega)
      obtain ⟨J, hJ⟩ : ∃ J, J = joinedT L := ⟨_, rfl⟩
      rw [← hJ] at TX f3 g1 g2 g3 g4
      obtain ⟨⟨M, m2, e2⟩, hM⟩ : ∃ x, x = scanT J := ⟨_, rfl⟩
      have SJ : Hid (∀ W, Below w.heap.size w W → Calls Tryd.prog 15 #[.string J] W (RetScan W (M, m2, e2))) := fun W hb => by rw [hM]; exact SC.out W J hb f3
      rw [← hM] at g1 g2 g3 g4
      simp only [] at g1 g2 g3 g4
      subst g1; subst g2
      have HG3 := Lib.hid g3; have HG4 := Lib.hid g4; have HSH := Lib.hid hshort; have HF2 := Lib.hid f2
      clear hM g3 g4 hJ f1 f2 f3 f4 hfacts hcode hshort
      go_enter Tryd.func5, Tryd.ntmps5
      go_wp2_with fail
      refine S1.out.mono ?_; rintro e w1 ⟨v1, rfl, hoa, hb1⟩
      have B1 := Lib.hid hb1; have T1 := Lib.hid hoa.tokAt.tokO; clear hoa hb1
      have TX1 := Lib.hid (TX.out w1 v1 B1.out T1.out (by have := HF2.out; omega) HSH.out)
      go_wp2_with fail
      refine TX1.out.mono ?_; rintro e w2 ⟨rfl, hb2⟩
      have B2 := Lib.hid (bstep B1.out hb2); have T2 := Lib.hid (T1.out.go hb2); clear hb2
      go_wp2_with fail
      refine (SJ.out _ B2.out).mono ?_; rintro e w3 ⟨v3, rfl, hob, hb3⟩
      have B3 := Lib.hid (bstep B2.out hb3); have T3 := Lib.hid (T2.out.go hb3)
      have U3 := Lib.hid hob.tokAt.tokO
      clear hob hb3
      have CS : Hid (Calls Tryd.prog 16 #[v1, v3, .bool false] w3 fun e w' => e = .returned (.bool true) ∧ Below w3.heap.size w3 w') := by
        have := same_anyO w3 _ _ L M T3.out U3.out (by have := HF2.out; omega) (by have := HF2.out; have := HG4.out; omega)
        rw [HG3.out] at this
        exact this
      go_wp2_with fail
      refine CS.out.mono ?_; rintro e w4 ⟨rfl, hb⟩
      have B4 := Lib.hid (bstep B3.out hb); clear hb
      go_wp2_with fail
      refine (AL.out _ B4.out).mono ?_; rintro e w5 ⟨rfl, hb⟩
      have HB := Lib.hid (bstep B4.out hb); clear hb
      go_wp2_with fail
      go_ret
      exact ⟨rfl, HB.out⟩
    · have hL : L = [] := by
        rcases hcode with h | h
        · exact absurd h.1 h0
        · exact h.2
      subst hL
      have e0 : (e != 0) = true := by rw [bne_iff_ne]; exact h0
      clear hfacts hcode h0
      go_enter Tryd.func5, Tryd.ntmps5
      go_wp2_with fail
      refine S1.out.mono ?_; rintro e w1 ⟨v1, rfl, hoa, hb1⟩
      have B1 := Lib.hid hb1
      obtain ⟨o, c, rfl⟩ := hoa.shape
      clear hoa hb1
      go_wp2_with fail
      refine (AL.out _ B1.out).mono ?_; rintro e w5 ⟨rfl, hb⟩
      have HB := Lib.hid (bstep B1.out hb); clear hb
      go_wp2_with fail
      go_ret
      exact ⟨rfl, HB.out⟩
end Go.Proofs.YtegobakoflbnfaaDoor
