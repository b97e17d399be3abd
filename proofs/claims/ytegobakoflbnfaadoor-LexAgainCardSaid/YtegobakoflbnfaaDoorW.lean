/- SameTokens: two lists of tokens, one against the other. -/
import Derived.Test.YtegobakoflbnfaaDoorV
import Derived.Deep.QuietTactic
import Derived.BigQuiet
namespace Go.Proofs.YtegobakoflbnfaaDoor
open Go Go.RowKit

/-- a list of tokens that lies in memory -/
def TokAt (w : World) (v : Value) (L : List Tk) : Prop :=
  ∃ o cap, v = .slice o L.length cap ∧ (0 < L.length → ∃ g, o = some ⟨g, 0, none⟩ ∧ ∀ i (hi : i < L.length), w.cell? ⟨g, i * 3, none⟩ = some (.int .i64 L[i].1) ∧ w.cell? ⟨g, i * 3 + 1, none⟩ = some (.string L[i].2.1) ∧ w.cell? ⟨g, i * 3 + 2, none⟩ = some (.int .i64 (L[i].2.2 : Int)))
theorem TokAt.go {w w' : World} {v : Value} {L : List Tk} (h : TokAt w v L) (hb : Below w.heap.size w w') : TokAt w' v L := by
  obtain ⟨o, cap, rfl, h⟩ := h
  refine ⟨o, cap, rfl, fun h0 => ?_⟩
  obtain ⟨g, rfl, hc⟩ := h h0
  refine ⟨g, rfl, fun i hi => ?_⟩
  obtain ⟨a, b, c⟩ := hc i hi
  have hg : g < w.heap.size := World.block_lt_of_cell? w _ a
  exact ⟨(hb.cell hg).trans a, (hb.cell hg).trans b, (hb.cell hg).trans c⟩
theorem tkL_at : ∀ (L : List Tk) (i : Nat) (hi : i < L.length), (tkL L)[i * 3]? = some (.int .i64 L[i].1) ∧ (tkL L)[i * 3 + 1]? = some (.string L[i].2.1) ∧ (tkL L)[i * 3 + 2]? = some (.int .i64 (L[i].2.2 : Int))
  | t :: L, 0, _ => ⟨rfl, rfl, rfl⟩
  | t :: L, i + 1, hi => by
    have h := tkL_at L i (by simpa using hi)
    have e : tkL (t :: L) = .int .i64 t.1 :: .string t.2.1 :: .int .i64 (t.2.2 : Int) :: tkL L := rfl
    rw [e, show (i + 1) * 3 = i * 3 + 3 by omega]
    exact h
theorem OwnT.tokAt {w : World} {B : Nat} {v : Value} {L : List Tk} (h : OwnT w B v L) : TokAt w v L := by
  obtain ⟨o, cap, rfl⟩ := h.shape
  refine ⟨o, cap, rfl, fun h0 => ?_⟩
  obtain ⟨⟨h1, h2⟩, h3⟩ := h
  rcases h2 with ⟨_, h2⟩ | ⟨g, cap', cur, e, a1, a2, a3, a4, a5, a6⟩
  · omega
  · injection e with e1 e2 e3
    subst e1
    refine ⟨g, rfl, fun i hi => ?_⟩
    obtain ⟨b0, b1, b2⟩ := tkL_at L i hi
    rw [← a6] at b0 b1 b2
    rw [List.getElem?_take, if_pos (by omega)] at b0 b1 b2
    refine ⟨?_, ?_, ?_⟩ <;> (rw [cell_of_row _ _ _ _ _ _ a2]; first | simpa using b0 | simpa using b1 | simpa using b2)
def sameB (st : Bool) : List Tk → List Tk → Bool
  | [], [] => true
  | a :: l, b :: m => (a.1 == b.1) && (a.2.1.toList == b.2.1.toList) && (!st || a.2.2 == b.2.2) && sameB st l m
  | _, _ => false
theorem sameB_len {st : Bool} : ∀ {L M : List Tk}, sameB st L M = true → L.length = M.length
  | [], [], _ => rfl
  | a :: l, b :: m, h => by
    rw [sameB, Bool.and_eq_true] at h
    rw [List.length_cons, List.length_cons, sameB_len h.2]

set_option maxHeartbeats 6400000 in
set_option maxRecDepth 100000 in
theorem same_any (w : World) (v1 v2 : Value) (L M : List Tk) (st : Bool) (h1 : TokAt w v1 L) (h2 : TokAt w v2 M) (hL : L.length ≤ 2000) (hM : M.length ≤ 2000) : Calls Tryd.prog 16 #[v1, v2, .bool st] w fun e w' => e = .returned (.bool (sameB st L M)) ∧ Below w.heap.size w w' := by
  have H1 := Lib.hid h1; have H2 := Lib.hid h2
  obtain ⟨o1, c1, rfl, hc1⟩ := h1
  obtain ⟨o2, c2, rfl, hc2⟩ := h2
  have HC1 := Lib.hid hc1; have HC2 := Lib.hid hc2
  clear hc1 hc2
  by_cases hlen : L.length = M.length
  · have n0 : ((L.length : Int) != (M.length : Int)) = false := by rw [hlen]; simp
    obtain ⟨n, hn⟩ : ∃ n, n = L.length := ⟨_, rfl⟩
    have HN := Lib.hid hn; have HNM : Hid (n = M.length) := hn.trans hlen
    rw [← hlen] at n0 ⊢
    rw [← hn] at n0 hL ⊢
    clear hlen hn hM
    go_enter Tryd.func16, Tryd.ntmps16
    go_wp2_with fail
    go_loopw [7] (fun v7 wr => ∃ i : Nat, v7 = .int .i64 (i : Int) ∧ i ≤ n ∧ Hid (sameB st L M = sameB st (L.drop i) (M.drop i)) ∧ Hid (Below w.heap.size w wr)) (fun v7 _ => n - (intOf v7).toNat)
    case atStart => exact ⟨0, rfl, Nat.zero_le _, rfl, Below.refl _ _⟩
    case round =>
      obtain ⟨i, rfl, hi, HS, HB⟩ := hrel
      by_cases hlt : i < n
      · have HLT := Lib.hid hlt
        obtain ⟨g1, rfl, hd1⟩ := HC1.out (by have := HN.out; omega)
        obtain ⟨g2, rfl, hd2⟩ := HC2.out (by have := HNM.out; omega)
        obtain ⟨x0, x1, x2⟩ := hd1 i (by have := HN.out; omega)
        obtain ⟨y0, y1, y2⟩ := hd2 i (by have := HNM.out; omega)
        have gl1 := World.block_lt_of_cell? w _ x0
        have gl2 := World.block_lt_of_cell? w _ y0
        replace x0 := (HB.out.cell (p := ⟨g1, i * 3, none⟩) gl1).trans x0
        replace x1 := (HB.out.cell (p := ⟨g1, i * 3 + 1, none⟩) gl1).trans x1
        replace x2 := (HB.out.cell (p := ⟨g1, i * 3 + 2, none⟩) gl1).trans x2
        replace y0 := (HB.out.cell (p := ⟨g2, i * 3, none⟩) gl2).trans y0
        replace y1 := (HB.out.cell (p := ⟨g2, i * 3 + 1, none⟩) gl2).trans y1
        replace y2 := (HB.out.cell (p := ⟨g2, i * 3 + 2, none⟩) gl2).trans y2
        generalize hta : L[i]'(by have := HN.out; omega) = ta at x0 x1 x2
        generalize htb : M[i]'(by have := HNM.out; omega) = tb at y0 y1 y2
        obtain ⟨ka, sa, pa⟩ := ta
        obtain ⟨kb, sb, pb⟩ := tb
        simp only [] at x0 x1 x2 y0 y1 y2
        have HST : Hid (sameB st (L.drop i) (M.drop i) = ((ka == kb) && (sa.toList == sb.toList) && (!st || pa == pb) && sameB st (L.drop (i + 1)) (M.drop (i + 1)))) := by
          show _ = _
          rw [List.drop_eq_getElem_cons (by have := HN.out; omega), List.drop_eq_getElem_cons (l := M) (by have := HNM.out; omega), hta, htb]
          rfl
        clear hd1 hd2 hta htb
        have hii : (i : Int) < (n : Int) := by omega
        by_cases hk : ka = kb
        · subst hk
          have k1 : (ka == ka) = true := beq_self_eq_true ka
          cases s0 : (sa.toList == sb.toList)
          · have HF : Hid (sameB st L M = false) := by show _ = _; rw [HS.out, HST.out, k1, s0]; rfl
            clear k1
            clear HST HS
            go_wp2_with fail
            go_quiet (fail)
            go_wp2_with fail
            go_ret
            exact ⟨by rw [HF.out]; rfl, HB.out.trans (below_drewN _ _ _)⟩
          · cases st
            · clear k1
              have HS2 : Hid (sameB false L M = sameB false (L.drop (i + 1)) (M.drop (i + 1))) := by show _ = _; rw [HS.out, HST.out, s0]; simp
              clear HST HS
              have HW := Lib.hid (wadd (a := i) (b := 1) (by have := HLT.out; omega))
              go_wp2_with fail
              go_quiet (fail)
              go_wp2_with fail
              go_roundw
              case rel => exact ⟨i + 1, by first | exact congrArg (Value.int .i64) HW.out | go_num, HLT.out, HS2, HB.out.trans (below_drewN _ _ _)⟩
              case measure => have := HLT.out; first | (rw [HW.out]; simp [intOf]; omega) | (simp [intOf]; omega)
            · by_cases hp : pa = pb
              · subst hp
                clear k1
                have HS2 : Hid (sameB true L M = sameB true (L.drop (i + 1)) (M.drop (i + 1))) := by show _ = _; rw [HS.out, HST.out, s0]; simp
                clear HST HS
                have HW := Lib.hid (wadd (a := i) (b := 1) (by have := HLT.out; omega))
                go_wp2_with fail
                go_quiet (fail)
                go_wp2_with fail
                go_roundw
                case rel => exact ⟨i + 1, by first | exact congrArg (Value.int .i64) HW.out | go_num, HLT.out, HS2, HB.out.trans (below_drewN _ _ _)⟩
                case measure => have := HLT.out; first | (rw [HW.out]; simp [intOf]; omega) | (simp [intOf]; omega)
              · have p0 : ((pa : Int) != (pb : Int)) = true := by rw [bne_iff_ne]; omega
                have p1 : (pa == pb) = false := by rw [beq_eq_false_iff_ne]; exact hp
                have HF : Hid (sameB true L M = false) := by show _ = _; rw [HS.out, HST.out, k1, s0, p1]; rfl
                clear k1 p1 hp
                clear HST HS
                go_wp2_with fail
                go_quiet (fail)
                go_wp2_with fail
                go_ret
                exact ⟨by rw [HF.out]; rfl, HB.out.trans (below_drewN _ _ _)⟩
        · have k0 : (ka != kb) = true := by rw [bne_iff_ne]; exact hk
          have k1 : (ka == kb) = false := by rw [beq_eq_false_iff_ne]; exact hk
          have HF : Hid (sameB st L M = false) := by show _ = _; rw [HS.out, HST.out, k1]; rfl
          clear hk
          clear HST HS
          go_wp2_with fail
          go_quiet (fail)
          go_wp2_with fail
          go_ret
          exact ⟨by rw [HF.out]; rfl, HB.out.trans (below_drewN _ _ _)⟩
      · have hin : i = n := by omega
        subst hin
        have HR : Hid (sameB st L M = true) := by
          show _ = _
          rw [HS.out, List.drop_eq_nil_of_le (by rw [← HN.out]; exact Nat.le_refl _), List.drop_eq_nil_of_le (by rw [← HNM.out]; exact Nat.le_refl _)]; rfl
        go_wp2_with fail
        go_ret
        exact ⟨by rw [HR.out]; rfl, HB.out⟩
  · have n0 : ((L.length : Int) != (M.length : Int)) = true := by rw [bne_iff_ne]; omega
    have HR : Hid (sameB st L M = false) := by
      show _ = _
      cases hs : sameB st L M
      · rfl
      · exact absurd (sameB_len hs) hlen
    go_enter Tryd.func16, Tryd.ntmps16
    go_wp2_with fail
    go_ret
    exact ⟨by rw [HR.out]; rfl, Below.refl _ _⟩
end Go.Proofs.YtegobakoflbnfaaDoor
