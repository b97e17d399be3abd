/- LexPlaces: the law's walk. -/
import Derived.Test.YtegobakoflbnfaaDoorEnds
import Derived.Test.YtegobakoflbnfaaDoorX
namespace Go.Proofs.YtegobakoflbnfaaDoor
open Go Go.RowKit

def prevK (x : List UInt8) (k : Nat) (T : List Tk) : Nat → Nat
  | 0 => k
  | j + 1 => match T[j]? with | some t => endT x t | none => 0
theorem prev_cons (x : List UInt8) (k : Nat) (t : Tk) (R : List Tk) (i : Nat) : prevK x k (t :: R) (i + 1) = prevK x (endT x t) R i := by
  cases i with
  | zero => rfl
  | succ i => rfl
theorem chain_gap {x : List UInt8} : ∀ {T : List Tk} {k : Nat}, Chain x k T → ∀ i (hi : i < T.length), prevK x k T i ≤ T[i].2.2 ∧ gG false ((x.take T[i].2.2).drop (prevK x k T i)) = T[i].2.2 - prevK x k T i
  | t :: R, k, h, 0, _ => ⟨h.1, h.2.2.1⟩
  | t :: R, k, h, i + 1, hi => by
    obtain ⟨h1, h2, h3, h4, n, h5, h6, h7⟩ := h
    have e : endT x t = t.2.2 + n := by unfold endT lenT; rw [h5]
    rw [prev_cons, e]
    exact chain_gap h7 i (by simpa using hi)
theorem chain_end {x : List UInt8} : ∀ {T : List Tk} {k : Nat}, Chain x k T → prevK x k T T.length ≤ x.length ∧ gG false (x.drop (prevK x k T T.length)) = x.length - prevK x k T T.length
  | [], _, h => h
  | t :: R, k, h => by
    obtain ⟨h1, h2, h3, h4, n, h5, h6, h7⟩ := h
    have e : endT x t = t.2.2 + n := by unfold endT lenT; rw [h5]
    rw [List.length_cons, prev_cons, e]
    exact chain_end h7
theorem blank_cut {s : ByteArray} {a b : Nat} (hab : a ≤ b) (hb : b ≤ s.size) (h : gG false ((s.data.toList.take b).drop a) = b - a) : blankB (s.extract a b) = true := by
  unfold blankB
  rw [toList_extract, h, ByteArray.size_extract]
  exact decide_eq_true (by omega)
theorem ints_cell {w : World} {g : Nat} {cap n : Nat} {E : List Nat} (h : IntsAt w (.slice (some ⟨g, 0, none⟩) n cap) E) {i : Nat} (hi : i < E.length) : w.cell? ⟨g, i, none⟩ = some (.int .i64 (E[i] : Int)) := by
  obtain ⟨o, c, e, h⟩ := h
  injection e with e1 e2 e3
  subst e1
  obtain ⟨g', e4, h⟩ := h i hi
  injection e4 with e5
  injection e5 with e6
  subst e6
  exact h

set_option maxHeartbeats 6400000 in
set_option maxRecDepth 100000 in
theorem places_any (w : World) (s : ByteArray) (_hs : s.size ≤ 140737488355328) (hm : MaxL w) (hp : Pow10 w) : Calls Tryd.prog 6 #[.string s] w fun e w' => e = .returned (.bool true) ∧ Below w.heap.size w w' := by
  have AL : Hid (∀ W, Below w.heap.size w W → Calls Tryd.prog 13 #[] W fun e w' => e = .returned (.bool true) ∧ Below W.heap.size W w') := fun W hb => alive_any W (hm.go hb) (hp.go hb)
  clear _hs
  by_cases h4 : 400 < s.size
  · have t1 : decide (400 < (s.size : Int)) = true := decide_eq_true (by omega)
    clear hm hp h4
    go_enter Tryd.func6, Tryd.ntmps6
    go_wp2_with fail
    refine (AL.out _ (Below.refl _ _)).mono ?_; rintro e w1 ⟨rfl, hb⟩
    have HB := Lib.hid hb; clear hb
    go_wp2_with fail
    go_ret
    exact ⟨rfl, HB.out⟩
  · have t1 : decide (400 < (s.size : Int)) = false := decide_eq_false (by omega)
    have h4' : s.size ≤ 400 := by omega
    have S1 := Lib.hid (scan_any w s (by omega) hm hp)
    have HS4 := Lib.hid h4'
    have hsc := scan_eq s (by omega)
    have hlen := sc_len _ 0 s.data.toList (Nat.le_refl _)
    have hch := sc_chain s.data.toList _ 0 s.data.toList (Nat.le_refl _) rfl (Nat.zero_le _)
    have hsz : s.data.toList.length = s.size := Array.length_toList
    rw [← hsc] at hlen hch
    have EN : Hid (∀ W v T, Below w.heap.size w W → TokAt W v T → T.length ≤ 400 → (∀ i (hi : i < T.length), TokIn s.data.toList T i T[i]) → Calls Tryd.prog 17 #[.string s, v] W fun e w' => ∃ v', e = .returned (.tuple #[v', .bool true]) ∧ IntsAt w' v' (T.map (endT s.data.toList)) ∧ Below W.heap.size W w') := fun W v T hb h1 h2 h3 => ends_any W s v T h1 h4' h2 h3 (hm.go hb) (hp.go hb)
    obtain ⟨⟨T, m, e⟩, hT⟩ : ∃ x, x = scanT s := ⟨_, rfl⟩
    rw [← hT] at S1 hlen hch
    simp only [] at hlen hch
    clear hm hp hT h4 hsc h4'
    by_cases he : e = 0
    · subst he
      have HCH := Lib.hid (hch rfl)
      have HLN : Hid (T.length ≤ 400) := by show _ ≤ _; have := HS4.out; omega
      have HSZ := Lib.hid hsz
      clear hch hlen hsz
      go_enter Tryd.func6, Tryd.ntmps6
      go_wp2_with fail
      refine S1.out.mono ?_; rintro e w1 ⟨vT, rfl, hoa, hb1⟩
      have B1 := Lib.hid hb1; have OT := Lib.hid hoa.tokAt; clear hoa hb1 S1
      have ENT := Lib.hid (EN.out w1 vT T B1.out OT.out HLN.out (chain_at HCH.out))
      obtain ⟨oT, cT, rfl, -⟩ := OT.out
      go_wp2_with fail
      refine ENT.out.mono ?_; rintro e w2 ⟨v2, rfl, hi2, hb2⟩
      have B2 := Lib.hid (bstep B1.out hb2); have OT2 := Lib.hid (OT.out.go hb2); have I2 := Lib.hid hi2; clear hi2 hb2 ENT OT B1 EN
      obtain ⟨oE, cE, rfl, -⟩ := I2.out
      go_wp2_with fail
      go_loopw [6, 9] (fun v6 v9 wr => ∃ i : Nat, v6 = .int .i64 ((prevK s.data.toList 0 T i : Nat) : Int) ∧ v9 = .int .i64 (i : Int) ∧ i ≤ T.length ∧ wr = w2) (fun _ v9 _ => T.length - (intOf v9).toNat)
      case atStart => exact ⟨0, rfl, rfl, Nat.zero_le _, rfl⟩
      case round =>
        obtain ⟨i, rfl, rfl, hi, rfl⟩ := hrel
        rename World => wk
        by_cases hlt : i < T.length
        · obtain ⟨gT, rfl⟩ : ∃ g, oT = some ⟨g, 0, none⟩ := by
            obtain ⟨o', c', e', h'⟩ := OT2.out
            injection e' with e1 e2 e3
            subst e1
            obtain ⟨g, rfl, h2⟩ := h' (by omega)
            exact ⟨g, rfl⟩
          have hlm : i < (T.map (endT s.data.toList)).length := by rw [List.length_map]; exact hlt
          obtain ⟨gE, rfl⟩ : ∃ g, oE = some ⟨g, 0, none⟩ := by
            obtain ⟨o', c', e', h'⟩ := I2.out
            injection e' with e1 e2 e3
            subst e1
            obtain ⟨g, rfl, h2⟩ := h' i hlm
            exact ⟨g, rfl⟩
          obtain ⟨-, -, x2⟩ := tok_cells OT2.out hlt
          have y0 := ints_cell I2.out hlm
          have hE : ((T.map (endT s.data.toList))[i] : Nat) = prevK s.data.toList 0 T (i + 1) := by
            rw [List.getElem_map]
            show _ = (match T[i]? with | some t => endT s.data.toList t | none => 0)
            rw [List.getElem?_eq_getElem hlt]
          rw [hE] at y0
          obtain ⟨c1, c2⟩ := chain_gap HCH.out i hlt
          have hpl : T[i].2.2 < s.size := by have := (chain_at HCH.out i hlt).at_lt; rw [HSZ.out] at this; exact this
          obtain ⟨p, hpe⟩ : ∃ p, p = T[i].2.2 := ⟨_, rfl⟩
          obtain ⟨a, hae⟩ : ∃ a, a = prevK s.data.toList 0 T i := ⟨_, rfl⟩
          obtain ⟨b, hbe⟩ : ∃ b, b = prevK s.data.toList 0 T (i + 1) := ⟨_, rfl⟩
          rw [← hpe] at x2 c1 c2 hpl
          rw [← hae] at c1 c2 ⊢
          rw [← hbe] at y0
          have HBE := Lib.hid hbe
          have HBL := Lib.hid (blank_cut c1 (by omega) c2)
          have BLK : Hid (∀ W, Calls Tryd.prog 18 #[.string (s.extract a p)] W fun e w' => e = .returned (.bool true) ∧ w' = W) := fun W => by
            have := blank_any W (s.extract a p) (by have := HS4.out; rw [ByteArray.size_extract]; omega)
            rw [HBL.out] at this
            exact this
          have hsl : ∀ w, (Instr.slice 9 (.string s) (some (.int .i64 (a : Int))) (some (.int .i64 (p : Int))) none).run Tryd.prog w = .ok (.string (s.extract a p)) w := fun w => by
            rw [run_slice_string_if w 9 s .i64 .i64 (a : Int) (p : Int) Tryd.underlying9, if_pos (by omega), if_pos (by omega)]; rfl
          have hlb : ¬ (p : Int) < (a : Int) := by omega
          have W3 := Lib.hid (wnat (n := i) (by have := HLN.out; omega))
          have HLT := Lib.hid hlt
          have hii : (i : Int) < (T.length : Int) := by omega
          have hi3 : (i : Int) < ((T.map (endT s.data.toList)).length : Int) := by rw [List.length_map]; exact hii
          clear hE c1 c2 hpl hpe hae hbe HBL hlm hlt hi
          go_wp2_with fail
          refine (BLK.out _).mono ?_; rintro e w3 ⟨rfl, rfl⟩
          go_wp2_with fail
          go_roundw
          case rel => exact ⟨i + 1, by rw [HBE.out], by first | exact congrArg (Value.int .i64) W3.out | go_num, HLT.out, by first | trivial | rfl⟩
          case measure => have := HLT.out; first | (rw [W3.out]; simp [intOf]; omega) | (simp [intOf]; omega)
        · have hin : i = T.length := by omega
          subst hin
          obtain ⟨c1, c2⟩ := chain_end HCH.out
          rw [HSZ.out] at c1 c2
          obtain ⟨a, hae⟩ : ∃ a, a = prevK s.data.toList 0 T T.length := ⟨_, rfl⟩
          rw [← hae] at c1 c2 ⊢
          have HBL : Hid (blankB (s.extract a s.size) = true) := by
            refine blank_cut c1 (Nat.le_refl _) ?_
            rw [List.take_of_length_le (by rw [HSZ.out]; exact Nat.le_refl _)]; exact c2
          have BLK : Hid (∀ W, Calls Tryd.prog 18 #[.string (s.extract a s.size)] W fun e w' => e = .returned (.bool true) ∧ w' = W) := fun W => by
            have := blank_any W (s.extract a s.size) (by have := HS4.out; rw [ByteArray.size_extract]; omega)
            rw [HBL.out] at this
            exact this
          have hsl : ∀ w, (Instr.slice 9 (.string s) (some (.int .i64 (a : Int))) none none).run Tryd.prog w = .ok (.string (s.extract a s.size)) w := fun w => by
            rw [run_slice_string_from_if w 9 s .i64 (a : Int) Tryd.underlying9, if_pos (by omega)]; rfl
          have hii : ¬ (T.length : Int) < (T.length : Int) := by omega
          clear c1 c2 hae HBL hlt hi
          go_wp2_with fail
          refine (BLK.out _).mono ?_; rintro e w3 ⟨rfl, rfl⟩
          go_wp2_with fail
          refine (AL.out _ B2.out).mono ?_; rintro e w4 ⟨rfl, hb⟩
          have HB := Lib.hid (bstep B2.out hb); clear hb
          go_wp2_with fail
          go_ret
          exact ⟨rfl, HB.out⟩
    · have e0 : (e != 0) = true := by rw [bne_iff_ne]; exact he
      clear hch hlen he
      go_enter Tryd.func6, Tryd.ntmps6
      go_wp2_with fail
      refine S1.out.mono ?_; rintro e w1 ⟨vT, rfl, hoa, hb1⟩
      have B1 := Lib.hid hb1; clear hoa hb1
      go_wp2_with fail
      refine (AL.out _ B1.out).mono ?_; rintro e w1 ⟨rfl, hb⟩
      have HB := Lib.hid (bstep B1.out hb); clear hb
      go_wp2_with fail
      go_ret
      exact ⟨rfl, HB.out⟩
end Go.Proofs.YtegobakoflbnfaaDoor
