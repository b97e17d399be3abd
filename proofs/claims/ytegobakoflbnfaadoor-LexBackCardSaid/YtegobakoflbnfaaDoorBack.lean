/- LexBack: the law's walk. -/
import Derived.Test.YtegobakoflbnfaaDoorM7
import Derived.Test.YtegobakoflbnfaaDoorW2
import Derived.Test.YtegobakoflbnfaaDoorX
namespace Go.Proofs.YtegobakoflbnfaaDoor
open Go Go.RowKit

set_option maxHeartbeats 6400000 in
set_option maxRecDepth 100000 in
theorem back_any (w : World) (v : Value) (L : List Tk) (hL : TokO w v L) (hsz : ∀ t ∈ L, t.2.1.size ≤ 140737488351232) (he : ErrV w) (hm : MaxL w) (hp : Pow10 w) : Calls Tryd.prog 4 #[v] w fun e w' => e = .returned (.bool true) ∧ Below w.heap.size w w' := by
  have AL : Hid (∀ W, Below w.heap.size w W → Calls Tryd.prog 13 #[] W fun e w' => e = .returned (.bool true) ∧ Below W.heap.size W w') := fun W hb => alive_any W (hm.go hb) (hp.go hb)
  have HT0 := Lib.hid hL
  obtain ⟨oT, cT, rfl, -⟩ := hL
  by_cases h8 : 800 < L.length
  · have t1 : decide (800 < (L.length : Int)) = true := decide_eq_true (by omega)
    clear h8 hsz he hm hp
    go_enter Tryd.func4, Tryd.ntmps4
    go_wp2_with fail
    refine (AL.out _ (Below.refl _ _)).mono ?_; rintro e w1 ⟨rfl, hb⟩
    have HB := Lib.hid hb; clear hb
    go_wp2_with fail
    go_ret
    exact ⟨rfl, HB.out⟩
  · have t1 : decide (800 < (L.length : Int)) = false := decide_eq_false (by omega)
    have HLEN : Hid (L.length ≤ 800) := by show _ ≤ _; omega
    have TX := Lib.hid (text_any w _ L HT0.out (by omega) hsz he hm hp)
    have SC : Hid (∀ W x, Below w.heap.size w W → x.size ≤ 8000 → Calls Tryd.prog 15 #[.string x] W (RetScan W (scanT x))) := fun W x hb hx => scan_any W x (by omega) (hm.go hb) (hp.go hb)
    have hcase : ((textT L).2 = 0 ∧ (textT L).1 = joinedT L ∧ L.all isT = true ∧ (joinedT L).size ≤ 8000) ∨ ((textT L).1 = ⟨#[]⟩ ∧ ((textT L).2 = 1 ∨ (textT L).2 = 2)) := by
      unfold textT
      by_cases h1 : L.all isT = true
      · rw [if_pos h1]
        by_cases h2 : 8000 < (joinedT L).size
        · rw [if_pos h2]; exact Or.inr ⟨rfl, Or.inr rfl⟩
        · rw [if_neg h2]; exact Or.inl ⟨rfl, rfl, h1, by omega⟩
      · rw [if_neg h1]; exact Or.inr ⟨rfl, Or.inl rfl⟩
    obtain ⟨⟨J, c⟩, hx⟩ : ∃ x, x = textT L := ⟨_, rfl⟩
    rw [← hx] at TX hcase
    simp only [] at hcase
    clear hx hsz he hm hp h8
    rcases hcase with ⟨rfl, hJ, hall, hjs⟩ | ⟨rfl, hc⟩
    · obtain ⟨g1, g2, g3, g4⟩ := scan_joined hall hjs (by have := HLEN.out; omega)
      rw [← hJ] at g1 g2 g3 g4 hjs
      have HJS := Lib.hid hjs
      obtain ⟨⟨M, m, e⟩, hM⟩ : ∃ x, x = scanT J := ⟨_, rfl⟩
      have SJ : Hid (∀ W, Below w.heap.size w W → Calls Tryd.prog 15 #[.string J] W (RetScan W (M, m, e))) := fun W hb => by rw [hM]; exact SC.out W J hb HJS.out
      rw [← hM] at g1 g2 g3 g4
      simp only [] at g1 g2 g3 g4
      subst g1; subst g2
      have HG3 := Lib.hid g3; have HG4 := Lib.hid g4
      clear hM g3 g4 hjs hJ hall
      go_enter Tryd.func4, Tryd.ntmps4
      go_wp2_with fail
      refine TX.out.mono ?_; rintro e w1 ⟨rfl, hb1⟩
      have B1 := Lib.hid hb1; clear hb1
      go_wp2_with fail
      refine (SJ.out _ B1.out).mono ?_; rintro e w2 ⟨v2, rfl, hob, hb2⟩
      have B2 := Lib.hid (bstep B1.out hb2)
      have T2 := Lib.hid hob.tokAt.tokO
      clear hob hb2
      have T1 := Lib.hid (HT0.out.go B2.out)
      have hl1 := HLEN.out; have hl2 := HG4.out
      have CS : Hid (Calls Tryd.prog 16 #[.slice oT L.length cT, v2, .bool false] w2 fun e w' => e = .returned (.bool true) ∧ Below w2.heap.size w2 w') := by
        have := same_anyO w2 _ _ L M T1.out T2.out (by omega) (by omega)
        rw [HG3.out] at this
        exact this
      clear hl1 hl2
      go_wp2_with fail
      refine CS.out.mono ?_; rintro e w4 ⟨rfl, hb⟩
      have B4 := Lib.hid (bstep B2.out hb); clear hb
      go_wp2_with fail
      refine (AL.out _ B4.out).mono ?_; rintro e w5 ⟨rfl, hb⟩
      have HB := Lib.hid (bstep B4.out hb); clear hb
      go_wp2_with fail
      go_ret
      exact ⟨rfl, HB.out⟩
    · rcases hc with rfl | rfl
      · go_enter Tryd.func4, Tryd.ntmps4
        go_wp2_with fail
        refine TX.out.mono ?_; rintro e w1 ⟨rfl, hb1⟩
        have B1 := Lib.hid hb1; clear hb1
        go_wp2_with fail
        refine (AL.out _ B1.out).mono ?_; rintro e w5 ⟨rfl, hb⟩
        have HB := Lib.hid (bstep B1.out hb); clear hb
        go_wp2_with fail
        go_ret
        exact ⟨rfl, HB.out⟩
      · go_enter Tryd.func4, Tryd.ntmps4
        go_wp2_with fail
        refine TX.out.mono ?_; rintro e w1 ⟨rfl, hb1⟩
        have B1 := Lib.hid hb1; clear hb1
        go_wp2_with fail
        refine (AL.out _ B1.out).mono ?_; rintro e w5 ⟨rfl, hb⟩
        have HB := Lib.hid (bstep B1.out hb); clear hb
        go_wp2_with fail
        go_ret
        exact ⟨rfl, HB.out⟩
end Go.Proofs.YtegobakoflbnfaaDoor
