/- The reference's calls at the level of numbers; boxes that hold a number. -/
import Derived.Test.YtlkdahgfnfdakaaRefZ0
namespace Go.Proofs.Ytlkdahgfnfdakaa
open Go Go.RowKit Go.Shelf WN LM

/-- a fraction in lowest terms, with at most k words on a side -/
def Ok (k : Nat) (q : Q3) : Prop := Can q ∧ RLen q.2.1 ≤ k ∧ RLen q.2.2 ≤ k
theorem Ok.up {k l : Nat} {q : Q3} (h : Ok k q) (hl : k ≤ l) : Ok l q := ⟨h.1, Nat.le_trans h.2.1 hl, Nat.le_trans h.2.2 hl⟩
theorem ok_read {l : List UInt8} {p : Q3} (h : readQ l = some p) : Ok 100 p := ⟨readQ_can h, read_small h⟩
theorem ok_oneQ : Ok 1 oneQ := ⟨can_oneQ, Nat.le_of_eq rlen_one, Nat.le_of_eq rlen_one⟩
theorem ok_two : Ok 1 (false, 2, 1) := ⟨can_twoQ, rlen_small (show 2 < 10000 by omega), Nat.le_of_eq rlen_one⟩
theorem ok_half : Ok 1 halfQ := ⟨can_halfQ, Nat.le_of_eq rlen_one, rlen_small (show 2 < 10000 by omega)⟩
theorem ok_neg {k : Nat} {p : Q3} (h : Ok k p) : Ok k (negQ p) := ⟨(negQ_spec h.1).1, h.2.1, h.2.2⟩
theorem ok_add {k l : Nat} {p q : Q3} (h : Ok k p) (g : Ok l q) : Ok (k + l + 1) (addQ p q) := by
  obtain ⟨hp, h1, h2⟩ := h
  obtain ⟨hq, h3, h4⟩ := g
  have a1 := rlen_mul p.2.1 q.2.2
  have a2 := rlen_mul q.2.1 p.2.2
  have a3 := rlen_mul p.2.2 q.2.2
  have a4 := rlen_add (p.2.1 * q.2.2) (q.2.1 * p.2.2)
  have a5 := rlen_mono (addN_le p.1 q.1 (p.2.1 * q.2.2) (q.2.1 * p.2.2))
  refine ⟨(addQ_spec hp hq).1, ?_⟩
  rw [← plus_eq hp hq]
  exact low_small (by omega) (by omega)
theorem ok_mul {k l : Nat} {p q : Q3} (h : Ok k p) (g : Ok l q) : Ok (k + l) (mulQ p q) := by
  obtain ⟨hp, h1, h2⟩ := h
  obtain ⟨hq, h3, h4⟩ := g
  refine ⟨(mulQ_spec hp hq).1, ?_⟩
  rw [← low_mul hp hq]
  exact low_small (Nat.le_trans (rlen_mul _ _) (by omega)) (Nat.le_trans (rlen_mul _ _) (by omega))
theorem ok_div {k l : Nat} {p q : Q3} (h : Ok k p) (g : Ok l q) (h0 : q.2.1 ≠ 0) : Ok (k + l) (divQ p q) := by
  obtain ⟨hp, h1, h2⟩ := h
  obtain ⟨hq, h3, h4⟩ := g
  refine ⟨(divQ_spec hp hq h0).1, ?_⟩
  rw [← low_div hp hq h0]
  exact low_small (Nat.le_trans (rlen_mul _ _) (by omega)) (Nat.le_trans (rlen_mul _ _) (by omega))
theorem ok_floor {k : Nat} {p : Q3} (h : Ok k p) : Ok (k + 1) (floorQ p) := by
  refine ⟨can_floorQ p, ?_, ?_⟩
  · have h1 : floorN p.1 p.2.1 p.2.2 ≤ p.2.1 + 1 := by
      have := Nat.div_le_self p.2.1 p.2.2
      unfold floorN; split <;> omega
    have h2 := rlen_add p.2.1 1
    have h3 := h.2.1
    have h4 := rlen_mono h1
    have h5 := rlen_pos h.1.1
    have h6 := h.2.2
    rw [rlen_one] at h2
    show RLen (floorN p.1 p.2.1 p.2.2) ≤ _
    omega
  · show RLen 1 ≤ _
    rw [rlen_one]; omega

theorem cOf {w : World} (n : Int) (n1 : -9223372036854775808 ≤ n) (n2 : n ≤ 9223372036854775807) : Calls Try.prog 66 #[.int .i64 n] w (RRetQ w (intQ n)) := rof_any w n n1 n2
theorem cOf0 (w : World) : Calls Try.prog 66 #[.int .i64 0] w (RRetQ w (false, 0, 1)) := rof_any w 0 (by omega) (by omega)
theorem cOf1 (w : World) : Calls Try.prog 66 #[.int .i64 1] w (RRetQ w oneQ) := rof_any w 1 (by omega) (by omega)
theorem cOf2 (w : World) : Calls Try.prog 66 #[.int .i64 2] w (RRetQ w (false, 2, 1)) := rof_any w 2 (by omega) (by omega)
theorem cPlus {w : World} {v u : Value} {p q : Q3} (hp : Ok 10000 p) (hq : Ok 10000 q) (h : RFrac w v p.1 p.2.1 p.2.2) (k : RFrac w u q.1 q.2.1 q.2.2) : Calls Try.prog 71 #[v, u] w (RRetQ w (addQ p q)) := by
  rw [← plus_eq hp.1 hq.1]
  exact plusQ_any h k (Nat.le_trans hp.2.1 (by omega)) (Nat.le_trans hp.2.2 (by omega)) (Nat.le_trans hq.2.1 (by omega)) (Nat.le_trans hq.2.2 (by omega)) hp.1.1 hq.1.1
theorem cMinus {w : World} {v u : Value} {p q : Q3} (hp : Ok 10000 p) (hq : Ok 10000 q) (h : RFrac w v p.1 p.2.1 p.2.2) (k : RFrac w u q.1 q.2.1 q.2.2) : Calls Try.prog 73 #[v, u] w (RRetQ w (subQ p q)) := by
  rw [show subQ p q = plusQ p (negQ q) from (plus_eq hp.1 (negQ_spec hq.1).1).symm]
  exact rminus_any h k (Nat.le_trans hp.2.1 (by omega)) (Nat.le_trans hp.2.2 (by omega)) (Nat.le_trans hq.2.1 (by omega)) (Nat.le_trans hq.2.2 (by omega)) hp.1.1 hq.1.1
theorem cOver {w : World} {v u : Value} {p q : Q3} (hp : Ok 10000 p) (hq : Ok 10000 q) (h0 : q.2.1 ≠ 0) (h : RFrac w v p.1 p.2.1 p.2.2) (k : RFrac w u q.1 q.2.1 q.2.2) : Calls Try.prog 67 #[v, u] w (RRetQ w (divQ p q)) := by
  rw [← low_div hp.1 hq.1 h0]
  exact rover_any h k (Nat.le_trans hp.2.1 (by omega)) (Nat.le_trans hp.2.2 (by omega)) (Nat.le_trans hq.2.1 (by omega)) (Nat.le_trans hq.2.2 (by omega)) hp.1.1 (Nat.pos_of_ne_zero h0)
theorem cTimes {w : World} {v u : Value} {p q : Q3} (hp : Ok 10000 p) (hq : Ok 10000 q) (h : RFrac w v p.1 p.2.1 p.2.2) (k : RFrac w u q.1 q.2.1 q.2.2) : Calls Try.prog 74 #[v, u] w (RRetQ w (mulQ p q)) := by
  rw [← low_mul hp.1 hq.1]
  exact rtimes_any h k (Nat.le_trans hp.2.1 (by omega)) (Nat.le_trans hp.2.2 (by omega)) (Nat.le_trans hq.2.1 (by omega)) (Nat.le_trans hq.2.2 (by omega)) hp.1.1 hq.1.1
theorem cDown {w : World} {v : Value} {p : Q3} (hp : Ok 10000 p) (h : RFrac w v p.1 p.2.1 p.2.2) : Calls Try.prog 81 #[v] w (RRetQ w (floorQ p)) :=
  rdown_any h (Nat.le_trans hp.2.1 (by omega)) (Nat.le_trans hp.2.2 (by omega)) hp.1.1
theorem cOpp {w : World} {v : Value} {p : Q3} (h : RFrac w v p.1 p.2.1 p.2.2) : Calls Try.prog 115 #[v] w (RRetQ w (negQ p)) := ropp_any h
/-- what returns an int -/
def RetI (w : World) (i : Int) (e : Ending) (w' : World) : Prop := e = .returned (.int .i64 i) ∧ Below w.heap.size w w'
def RetB (w : World) (b : Bool) (e : Ending) (w' : World) : Prop := e = .returned (.bool b) ∧ Below w.heap.size w w'
theorem cAgainst {w : World} {v u : Value} {p q : Q3} (hp : Ok 10000 p) (hq : Ok 10000 q) (h : RFrac w v p.1 p.2.1 p.2.2) (k : RFrac w u q.1 q.2.1 q.2.2) : Calls Try.prog 78 #[v, u] w (RetI w (cmpQ p q)) :=
  ragainst_any h k (Nat.le_trans hp.2.1 (by omega)) (Nat.le_trans hp.2.2 (by omega)) (Nat.le_trans hq.2.1 (by omega)) (Nat.le_trans hq.2.2 (by omega)) hp.1 hq.1
theorem cSign {w : World} {v : Value} {p : Q3} (hp : Can p) (h : RFrac w v p.1 p.2.1 p.2.2) : Calls Try.prog 86 #[v] w (RetI w (signQ p)) := rsign_any h hp.2.2
theorem cWhole {w : World} {v : Value} {p : Q3} (hp : Ok 10000 p) (h : RFrac w v p.1 p.2.1 p.2.2) : Calls Try.prog 83 #[v] w (RetB w (decide (p.2.2 = 1))) := rwhole_any h (Nat.le_trans hp.2.2 (by omega))
theorem cZero {w : World} {v : Value} {p : Q3} (h : RFrac w v p.1 p.2.1 p.2.2) : Calls Try.prog 76 #[v] w (RetB w (decide (p.2.1 = 0))) := rzero_any h
theorem cOut {w : World} {v : Value} {p : Q3} (hp : Ok 10000 p) (h : RFrac w v p.1 p.2.1 p.2.2) : Calls Try.prog 68 #[v] w (OutS w (out3 p)) := rout_any h (Nat.le_trans hp.2.1 (by omega)) (Nat.le_trans hp.2.2 (by omega))

/-- block B is a box that holds the number q -/
def QB (W : World) (B : Nat) (q : Q3) : Prop := ∃ o1 k1 c1 o2 k2 c2, BoxQ W B (.bool q.1) (.slice o1 k1 c1) (.slice o2 k2 c2) ∧ RNum W (.slice o1 k1 c1) q.2.1 ∧ RNum W (.slice o2 k2 c2) q.2.2
theorem QB.go {W W' : World} {B : Nat} {q : Q3} (h : QB W B q) (hb : Below W.heap.size W W') : QB W' B q := by
  obtain ⟨o1, k1, c1, o2, k2, c2, h1, h2, h3⟩ := h
  exact ⟨_, _, _, _, _, _, h1.go hb, h2.go hb, h3.go hb⟩
theorem QB.new {W : World} {q : Q3} {o1 o2 : Option Addr} {k1 c1 k2 c2 : Nat} (h1 : RNum W (.slice o1 k1 c1) q.2.1) (h2 : RNum W (.slice o2 k2 c2) q.2.2) :
    QB (W.alloc (.cells #[.bool q.1, .slice o1 k1 c1, .slice o2 k2 c2] 60)) W.heap.size q ∧ Below W.heap.size W (W.alloc (.cells #[.bool q.1, .slice o1 k1 c1, .slice o2 k2 c2] 60)) := by
  have b := below_alloc W (.cells #[.bool q.1, .slice o1 k1 c1, .slice o2 k2 c2] 60)
  exact ⟨⟨_, _, _, _, _, _, BoxQ.new .., h1.go b, h2.go b⟩, b⟩
theorem QB.open {W : World} {B : Nat} {q : Q3} (h : QB W B q) : ∃ o1 k1 c1 o2 k2 c2, (W.cell? ⟨B, 0, none⟩ = some (.bool q.1) ∧ W.cell? ⟨B, 1, none⟩ = some (.slice o1 k1 c1) ∧ W.cell? ⟨B, 2, none⟩ = some (.slice o2 k2 c2)) ∧ RFrac W (.agg #[.bool q.1, .slice o1 k1 c1, .slice o2 k2 c2]) q.1 q.2.1 q.2.2 := by
  obtain ⟨o1, k1, c1, o2, k2, c2, h1, h2, h3⟩ := h
  have := h1.facts
  exact ⟨_, _, _, _, _, _, ⟨this.1, this.2.1, this.2.2.1⟩, ⟨_, _, _, _, _, _, rfl, h2, h3⟩⟩
end Go.Proofs.Ytlkdahgfnfdakaa
