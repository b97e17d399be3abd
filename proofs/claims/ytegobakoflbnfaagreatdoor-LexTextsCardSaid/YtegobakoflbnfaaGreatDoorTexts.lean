/- LexTexts: the law's walk. -/
import Derived.Test.YtegobakoflbnfaaGreatDoorRtx
namespace Go.Proofs.YtegobakoflbnfaaGreatDoor
open Go Go.RowKit

set_option maxHeartbeats 6400000 in
set_option maxRecDepth 100000 in
theorem texts_any (w : World) (v : Value) (L : List Tk) (hL : TokO w v L) (hsz : ∀ t ∈ L, t.2.1.size ≤ 140737488351232) (he : ErrV w) (hm : MaxL w) (hp : Pow10 w) : Calls Tryz.prog 5 #[v] w fun e w' => e = .returned (.bool true) ∧ Below w.heap.size w w' := by
  have AL : Hid (∀ W, Below w.heap.size w W → Calls Tryz.prog 9 #[] W fun e w' => e = .returned (.bool true) ∧ Below W.heap.size W w') := fun W hb => alive_any W (hm.go hb) (hp.go hb)
  have TX : Hid (L.length ≤ 3000 → Calls Tryz.prog 10 #[v] w fun e w' => e = .returned (.tuple #[.string (textM L).1, .int .i64 (textM L).2]) ∧ Below w.heap.size w w') := fun h => text_all w v L hL h hsz he hm hp
  have RX : Hid (L.length ≤ 3000 → ∀ W, TokO W v L → Calls Tryz.prog 11 #[v] W fun e w' => e = .returned (.tuple #[.string (textM L).1, .int .i64 (textM L).2]) ∧ Below W.heap.size W w') := fun h W hW => reftext_any W v L hW h hsz
  have HT0 := Lib.hid hL
  obtain ⟨oT, cT, rfl, -⟩ := hL
  obtain ⟨n, hn⟩ : ∃ n, n = L.length := ⟨_, rfl⟩
  rw [← hn] at HT0 TX RX ⊢
  obtain ⟨⟨J, c⟩, hx⟩ : ∃ x, x = textM L := ⟨_, rfl⟩
  rw [← hx] at TX RX
  have st : (J.toList == J.toList) = true := beq_self_eq_true _
  have e1 : (c == c) = true := beq_self_eq_true _
  clear hx hsz he hm hp hn
  by_cases h8 : 800 < n
  · have t8 : decide (800 < (n : Int)) = true := decide_eq_true (by omega)
    by_cases h2 : n ≤ 2000
    · have t2 : decide ((n : Int) ≤ 2000) = true := decide_eq_true (by omega)
      clear h8 h2
      go_enter Tryz.func5, Tryz.ntmps5
      go_wp2_with fail
      refine (AL.out _ (Below.refl _ _)).mono ?_; rintro e w1 ⟨rfl, hb⟩
      have HB := Lib.hid hb; clear hb
      go_wp2_with fail
      go_ret
      exact ⟨rfl, HB.out⟩
    · have t2 : decide ((n : Int) ≤ 2000) = false := decide_eq_false (by omega)
      by_cases h3 : 3000 < n
      · have t3 : decide (3000 < (n : Int)) = true := decide_eq_true (by omega)
        clear h8 h2 h3
        go_enter Tryz.func5, Tryz.ntmps5
        go_wp2_with fail
        refine (AL.out _ (Below.refl _ _)).mono ?_; rintro e w1 ⟨rfl, hb⟩
        have HB := Lib.hid hb; clear hb
        go_wp2_with fail
        go_ret
        exact ⟨rfl, HB.out⟩
      · have t3 : decide (3000 < (n : Int)) = false := decide_eq_false (by omega)
        have H3 : Hid (n ≤ 3000) := by show _ ≤ _; omega
        clear h8 h2 h3
        go_enter Tryz.func5, Tryz.ntmps5
        go_wp2_with fail
        refine (TX.out H3.out).mono ?_; rintro e w1 ⟨rfl, hb1⟩
        have B1 := Lib.hid hb1
        have T1 := Lib.hid (HT0.out.go hb1); clear hb1
        go_wp2_with fail
        refine (RX.out H3.out _ T1.out).mono ?_; rintro e w2 ⟨rfl, hb2⟩
        have B2 := Lib.hid (bstep B1.out hb2); clear hb2
        go_wp2_with fail
        refine (AL.out _ B2.out).mono ?_; rintro e w3 ⟨rfl, hb⟩
        have HB := Lib.hid (bstep B2.out hb); clear hb
        go_wp2_with fail
        go_ret
        exact ⟨rfl, HB.out⟩
  · have t8 : decide (800 < (n : Int)) = false := decide_eq_false (by omega)
    have t3 : decide (3000 < (n : Int)) = false := decide_eq_false (by omega)
    have H3 : Hid (n ≤ 3000) := by show _ ≤ _; omega
    clear h8
    go_enter Tryz.func5, Tryz.ntmps5
    go_wp2_with fail
    refine (TX.out H3.out).mono ?_; rintro e w1 ⟨rfl, hb1⟩
    have B1 := Lib.hid hb1
    have T1 := Lib.hid (HT0.out.go hb1); clear hb1
    go_wp2_with fail
    refine (RX.out H3.out _ T1.out).mono ?_; rintro e w2 ⟨rfl, hb2⟩
    have B2 := Lib.hid (bstep B1.out hb2); clear hb2
    go_wp2_with fail
    refine (AL.out _ B2.out).mono ?_; rintro e w3 ⟨rfl, hb⟩
    have HB := Lib.hid (bstep B2.out hb); clear hb
    go_wp2_with fail
    go_ret
    exact ⟨rfl, HB.out⟩
end Go.Proofs.YtegobakoflbnfaaGreatDoor
