/- Text. -/
import Derived.Test.YtegobakoflbnfaaDoorWr
import Derived.Test.YtegobakoflbnfaaDoorW
namespace Go.Proofs.YtegobakoflbnfaaDoor
open Go Go.RowKit

/-- a list of tokens that lies in memory, anywhere -/
def TokO (w : World) (v : Value) (L : List Tk) : Prop :=
  ∃ o cap, v = .slice o L.length cap ∧ (0 < L.length → ∃ g off, o = some ⟨g, off, none⟩ ∧ ∀ i (hi : i < L.length), w.cell? ⟨g, off + i * 3, none⟩ = some (.int .i64 L[i].1) ∧ w.cell? ⟨g, off + i * 3 + 1, none⟩ = some (.string L[i].2.1) ∧ ∃ z : Int, w.cell? ⟨g, off + i * 3 + 2, none⟩ = some (.int .i64 z))
theorem TokO.go {w w' : World} {v : Value} {L : List Tk} (h : TokO w v L) (hb : Below w.heap.size w w') : TokO w' v L := by
  obtain ⟨o, cap, rfl, h⟩ := h
  refine ⟨o, cap, rfl, fun h0 => ?_⟩
  obtain ⟨g, off, rfl, hc⟩ := h h0
  refine ⟨g, off, rfl, fun i hi => ?_⟩
  obtain ⟨a, b, z, c⟩ := hc i hi
  have hg : g < w.heap.size := World.block_lt_of_cell? w _ a
  exact ⟨(hb.cell hg).trans a, (hb.cell hg).trans b, z, (hb.cell hg).trans c⟩
theorem TokAt.tokO {w : World} {v : Value} {L : List Tk} (h : TokAt w v L) : TokO w v L := by
  obtain ⟨o, cap, rfl, h⟩ := h
  refine ⟨o, cap, rfl, fun h0 => ?_⟩
  obtain ⟨g, rfl, hc⟩ := h h0
  refine ⟨g, 0, rfl, fun i hi => ?_⟩
  rw [Nat.zero_add]
  exact ⟨(hc i hi).1, (hc i hi).2.1, _, (hc i hi).2.2⟩
theorem TokO.cells {w : World} {g off : Nat} {cap n : Nat} {T : List Tk} (h : TokO w (.slice (some ⟨g, off, none⟩) n cap) T) {i : Nat} (hi : i < T.length) :
    w.cell? ⟨g, off + i * 3, none⟩ = some (.int .i64 T[i].1) ∧ w.cell? ⟨g, off + i * 3 + 1, none⟩ = some (.string T[i].2.1) ∧ ∃ z : Int, w.cell? ⟨g, off + i * 3 + 2, none⟩ = some (.int .i64 z) := by
  obtain ⟨o, c, e, h⟩ := h
  injection e with e1 e2 e3
  subst e1
  obtain ⟨g', off', e4, h⟩ := h (by omega)
  injection e4 with e5
  injection e5 with e6 e7
  subst e6; subst e7
  exact h i hi
def isT (t : Tk) : Bool := isTokB t.1 t.2.1
def wrT (t : Tk) : ByteArray := writT t.1 t.2.1
def joinedT (L : List Tk) : ByteArray := ⟨(Lib.join (L.map fun t => (wrT t).data.toList) [32]).toArray⟩
def textT (L : List Tk) : ByteArray × Int := if L.all isT = true then (if 8000 < (joinedT L).size then (⟨#[]⟩, 2) else (joinedT L, 0)) else (⟨#[]⟩, 1)
theorem pre_take_le (p : UInt8 → Bool) (l : List UInt8) (n : Nat) (h : pre p l ≤ n) : pre p l ≤ n := h
theorem first_short (y : ByteArray) : (firstT y).2.2 ≤ 42 := by
  unfold firstT
  split
  · unfold wordT
    split
    · exact Nat.zero_le _
    · rename_i h
      split <;> (show pre (inC [3, 4, 5]) y.data.toList ≤ 42; omega)
  · split
    · unfold numberT
      split
      · exact Nat.zero_le _
      · rename_i h
        show numLen _ _ ≤ 42
        unfold numLen
        split <;> omega
    · split
      · unfold quotedT
        split
        · exact Nat.zero_le _
        · rename_i h
          show pre (inC strC) (y.data.toList.drop 1) + 2 ≤ 42
          omega
      · split
        · unfold symT
          show symN _ ≤ 42
          unfold symN
          split <;> omega
        · exact Nat.zero_le _
theorem isT_short {t : Tk} (h : isT t = true) : (wrT t).size ≤ 42 := by
  unfold isT isTokB at h
  simp only [Bool.and_eq_true, decide_eq_true_eq] at h
  have := first_short (writT t.1 t.2.1)
  show (writT t.1 t.2.1).size ≤ 42
  omega
theorem joined_len : ∀ {L : List Tk}, L.all isT = true → (Lib.join (L.map fun t => (wrT t).data.toList) [32]).length ≤ 43 * L.length := by
  intro L h
  cases L with
  | nil => exact Nat.zero_le _
  | cons a l =>
    rw [List.map_cons, Lib.join_length]
    have hl : ∀ m : List Tk, m.all isT = true → Lib.lens (m.map fun t => (wrT t).data.toList) ≤ 42 * m.length := by
      intro m
      induction m with
      | nil => intro _; exact Nat.le_refl _
      | cons b m ih =>
        intro hm
        rw [List.all_cons, Bool.and_eq_true] at hm
        have h1 := ih hm.2
        have h2 := isT_short hm.1
        have h3 : (wrT b).data.toList.length = (wrT b).size := Array.length_toList
        rw [List.map_cons, List.length_cons]
        show Lib.lens ((wrT b).data.toList :: _) ≤ _
        unfold Lib.lens at h1 ⊢
        simp only [List.map_cons, List.sum_cons] at h1 ⊢
        omega
    have := hl (a :: l) h
    rw [List.map_cons] at this
    rw [List.length_map]
    have e : ([32] : List UInt8).length = 1 := rfl
    rw [e, Nat.one_mul]
    simp only [List.length_cons] at this ⊢
    omega
/-- a row of texts, the first ones written -/
def Row9 (w : World) (g n : Nat) (xs : List ByteArray) : Prop := ∃ cur, w.heap[g]? = some (.cells cur 9 (0, 0)) ∧ cur.size = n ∧ ∀ j (hj : j < xs.length), cur[j]? = some (.string xs[j])
theorem Row9.go {w w' : World} {g n : Nat} {xs : List ByteArray} (h : Row9 w g n xs) (hb : Below w.heap.size w w') : Row9 w' g n xs := by
  obtain ⟨cur, h1, h2, h3⟩ := h
  exact ⟨cur, (hb.block g (lt_of_block h1)).trans h1, h2, h3⟩
theorem Row9.cell {w : World} {g n : Nat} {xs : List ByteArray} (h : Row9 w g n xs) {i : Nat} (hi : i < n) : ∃ u, w.cell? ⟨g, i, none⟩ = some u := by
  obtain ⟨cur, h1, h2, h3⟩ := h
  refine ⟨cur[i]'(by omega), ?_⟩
  rw [cell_of_row _ _ _ _ _ _ h1]
  simp [h2, hi]
theorem Row9.free {w : World} {g n : Nat} {xs : List ByteArray} (h : Row9 w g n xs) (i : Nat) : w.frozen? ⟨g, i, none⟩ = false := by
  obtain ⟨cur, h1, h2, h3⟩ := h
  exact frozen_of_row _ _ _ _ _ h1
theorem Row9.set {w : World} {g n : Nat} {xs : List ByteArray} (h : Row9 w g n xs) (hn : xs.length < n) (x : ByteArray) : Row9 (w.setCell ⟨g, xs.length, none⟩ (.string x)) g n (xs ++ [x]) := by
  obtain ⟨cur, h1, h2, h3⟩ := h
  refine ⟨_, heap_setCell_same _ _ _ _ _ _ h1, by rw [Array.size_setIfInBounds]; exact h2, fun j hj => ?_⟩
  rw [List.length_append, List.length_singleton] at hj
  by_cases e : j = xs.length
  · subst e
    rw [Array.getElem?_setIfInBounds_self_of_lt (by omega)]
    simp
  · rw [Array.getElem?_setIfInBounds_ne (by omega), h3 j (by omega)]
    congr 2
    rw [List.getElem_append_left]
theorem Row9.lt {w : World} {g n : Nat} {xs : List ByteArray} (h : Row9 w g n xs) : g < w.heap.size := by
  obtain ⟨cur, h1, h2, h3⟩ := h
  exact lt_of_block h1
theorem str_info : (Tryd.prog.info? 9).map (fun i => (i.zero, i.size, i.bytes)) = some (some (.string ⟨#[]⟩), 1, 16) := by kernel_rfl
theorem make_strs (w : World) (n : Nat) (hn : n ≤ 1000000) :
    (Instr.makeSlice 38 (.int .i64 (n : Int)) (.int .i64 (n : Int))).run Tryd.prog w = .ok (.slice (some ⟨w.heap.size, 0, none⟩) n n) (w.alloc (.cells (madeCells #[.string ⟨#[]⟩] n) 9)) := by
  obtain ⟨i0, hi, hz0, hz1, hz2⟩ := info_parts str_info
  rw [run_make w 38 9 i0 _ Tryd.underlying38 hi hz0 .i64 .i64 n n (by omega) (by omega) (by rw [hz2]; omega) (by omega), hz1, Nat.mul_one]
  rfl
theorem Row9.new (w : World) (n : Nat) : Row9 (w.alloc (.cells (madeCells #[.string ⟨#[]⟩] n) 9)) w.heap.size n [] :=
  ⟨_, heap_alloc_new w _, size_madeCells _ _, fun j hj => by simp at hj⟩

set_option maxHeartbeats 6400000 in
set_option maxRecDepth 100000 in
theorem text_any (w : World) (v : Value) (L : List Tk) (hL : TokO w v L) (hlen : L.length ≤ 2000) (hsz : ∀ t ∈ L, t.2.1.size ≤ 140737488351232) (he : ErrV w) (hm : MaxL w) (ht : Pow10 w) :
    Calls Tryd.prog 14 #[v] w fun e w' => e = .returned (.tuple #[.string (textT L).1, .int .i64 (textT L).2]) ∧ Below w.heap.size w w' := by
  have TA : Hid (∀ W (t : Tk) (z : Int), Below w.heap.size w W → t ∈ L → Calls Tryd.prog 20 #[.agg #[.int .i64 t.1, .string t.2.1, .int .i64 z]] W fun e w' => e = .returned (.bool (isT t)) ∧ Below W.heap.size W w') := fun W t z hb h => token_any W t.1 t.2.1 z (hsz t h) (he.go hb) (hm.go hb) (ht.go hb)
  have WA : Hid (∀ W (t : Tk) (z : Int), Below w.heap.size w W → t ∈ L → Calls Tryd.prog 25 #[.agg #[.int .i64 t.1, .string t.2.1, .int .i64 z]] W fun e w' => e = .returned (.string (wrT t)) ∧ Below W.heap.size W w') := fun W t z hb h => written_any W t.1 t.2.1 z (hsz t h) (he.go hb) (ht.go hb)
  have HT0 := Lib.hid hL
  have HLEN := Lib.hid hlen
  obtain ⟨oT, cT, rfl, -⟩ := hL
  obtain ⟨x, hx⟩ : ∃ x, x = textT L := ⟨_, rfl⟩
  rw [← hx]
  have HX := Lib.hid hx
  clear hx hlen hsz he hm ht
  go_enter Tryd.func14, Tryd.ntmps14
  go_wp2_with fail
  go_loopw [12] (fun v12 wr => ∃ i : Nat, v12 = .int .i64 (i : Int) ∧ i ≤ L.length ∧ Hid ((L.take i).all isT = true) ∧ Hid (TokO wr (.slice oT L.length cT) L) ∧ Hid (Below w.heap.size w wr)) (fun v12 _ => L.length - (intOf v12).toNat)
  case atStart => exact ⟨0, rfl, Nat.zero_le _, rfl, HT0, Below.refl _ _⟩
  case round =>
    obtain ⟨i, rfl, hi, HAL, HTn, HBn⟩ := hrel
    rename World => wk
    by_cases hlt : i < L.length
    · obtain ⟨gT, off, rfl⟩ : ∃ g off, oT = some ⟨g, off, none⟩ := by
        obtain ⟨o', c', e', h'⟩ := HTn.out
        injection e' with e1 e2 e3
        subst e1
        obtain ⟨g, off, rfl, h2⟩ := h' (by omega)
        exact ⟨g, off, rfl⟩
      obtain ⟨x0, x1, z, x2⟩ := HTn.out.cells hlt
      have hmem : L[i] ∈ L := List.getElem_mem hlt
      obtain ⟨t, hte⟩ : ∃ t, t = L[i] := ⟨_, rfl⟩
      rw [← hte] at x0 x1 hmem
      obtain ⟨kk, tt, p⟩ := t
      simp only [] at x0 x1
      have A1 := below_alloc wk (.cells #[.int .i64 kk, .string tt, .int .i64 z] 36)
      have HB1 := Lib.hid (bstep HBn.out A1)
      have HT1 := Lib.hid (HTn.out.go A1)
      have TK := Lib.hid (TA.out _ (kk, tt, p) z HB1.out hmem)
      have BX := BoxT.new wk (.int .i64 kk) (.string tt) (.int .i64 z)
      have BXH := Lib.hid BX
      have W3 := Lib.hid (wnat (n := i) (by have := HLEN.out; omega))
      have HLT := Lib.hid hlt
      have hii : (i : Int) < (L.length : Int) := by omega
      cases hb : isT (kk, tt, p)
      · rw [hb] at TK
        have HR : Hid (x = (⟨#[]⟩, 1)) := by
          show _ = _
          rw [HX.out]
          unfold textT
          rw [if_neg]
          rw [Bool.not_eq_true, List.all_eq_false]
          exact ⟨_, hmem, by rw [hb]; decide⟩
        clear A1 hte hmem hb hi hlt BX
        go_wp2_with fail
        refine TK.out.mono ?_; rintro e w3 ⟨rfl, hb3⟩
        have HB3 := Lib.hid (bstep HB1.out hb3); clear hb3
        go_wp2_with fail
        refine bodyPost_ret (v := .tuple #[.string ⟨#[]⟩, .int .i64 1]) (by simp [results, Tryd.f14, go_sem]) rfl ⟨by rw [HR.out], HB3.out⟩
      · rw [hb] at TK
        have HAL2 : Hid ((L.take (i + 1)).all isT = true) := by
          show _ = _
          rw [List.take_add_one, List.getElem?_eq_getElem hlt, List.all_append, HAL.out, ← hte]
          show (true && ((kk, tt, p) :: []).all isT) = true
          rw [List.all_cons, hb]; rfl
        clear A1 hte hmem hb hi hlt BX
        go_wp2_with fail
        refine TK.out.mono ?_; rintro e w3 ⟨rfl, hb3⟩
        have HB3 := Lib.hid (bstep HB1.out hb3)
        have HT3 := Lib.hid (HT1.out.go hb3); clear hb3
        go_wp2_with fail
        go_roundw
        case rel => exact ⟨i + 1, by first | exact congrArg (Value.int .i64) W3.out | go_num, HLT.out, HAL2, HT3, HB3⟩
        case measure => have := HLT.out; first | (rw [W3.out]; simp [intOf]; omega) | (simp [intOf]; omega)
    · have hin : i = L.length := by omega
      subst hin
      have hall : L.all isT = true := by have h9 := HAL.out; rw [List.take_length] at h9; exact h9
      have HALL := Lib.hid hall
      have hii : ¬ (L.length : Int) < (L.length : Int) := by omega
      have hl2 := HLEN.out
      have h2000 : decide (2000 < (L.length : Int)) = false := decide_eq_false (by omega)
      have hmk := fun w => make_strs w L.length (by omega)
      have hjl := joined_len hall
      have HJL := Lib.hid hjl
      have HR9 := Lib.hid (Row9.new wk L.length)
      have HA9 := Lib.hid (below_alloc wk (.cells (madeCells #[.string ⟨#[]⟩] L.length) 9))
      clear hlt hi hall hjl HAL
      have HB0 := Lib.hid (bstep HBn.out HA9.out)
      have HT0' := Lib.hid (HTn.out.go HA9.out)
      have HGW : Hid (w.heap.size ≤ wk.heap.size) := HBn.out.size
      go_wp2_with fail
      clear hmk h2000 hii hl2
      go_loopw [28] (fun v28 wr => ∃ i : Nat, v28 = .int .i64 (i : Int) ∧ i ≤ L.length ∧ Hid (TokO wr (.slice oT L.length cT) L) ∧ Hid (Row9 wr wk.heap.size L.length ((L.take i).map wrT)) ∧ Hid (Below w.heap.size w wr)) (fun v28 _ => L.length - (intOf v28).toNat)
      case atStart => exact ⟨0, rfl, Nat.zero_le _, HT0', HR9, HB0⟩
      case round =>
        obtain ⟨i, rfl, hi, HTm, HRm, HBm⟩ := hrel
        clear HT0' HR9 HB0 HTn HBn HA9
        rename World => wz
        by_cases hlt : i < L.length
        · obtain ⟨gT, off, rfl⟩ : ∃ g off, oT = some ⟨g, off, none⟩ := by
            obtain ⟨o', c', e', h'⟩ := HTm.out
            injection e' with e1 e2 e3
            subst e1
            obtain ⟨g, off, rfl, h2⟩ := h' (by omega)
            exact ⟨g, off, rfl⟩
          obtain ⟨x0, x1, z, x2⟩ := HTm.out.cells hlt
          have hmem : L[i] ∈ L := List.getElem_mem hlt
          have hmap : (L.take (i + 1)).map wrT = (L.take i).map wrT ++ [wrT L[i]] := by
            rw [List.take_add_one, List.getElem?_eq_getElem hlt, List.map_append]; rfl
          obtain ⟨t, hte⟩ : ∃ t, t = L[i] := ⟨_, rfl⟩
          rw [← hte] at x0 x1 hmem hmap
          obtain ⟨kk, tt, p⟩ := t
          simp only [] at x0 x1
          have A1 := below_alloc wz (.cells #[.int .i64 kk, .string tt, .int .i64 z] 36)
          have HB1 := Lib.hid (bstep HBm.out A1)
          have HT1 := Lib.hid (HTm.out.go A1)
          have HR1 := Lib.hid (HRm.out.go A1)
          have WK := Lib.hid (WA.out _ (kk, tt, p) z HB1.out hmem)
          have HMAP := Lib.hid hmap
          have hln : ((L.take i).map wrT).length = i := by rw [List.length_map, List.length_take]; omega
          have HLN := Lib.hid hln
          have W3 := Lib.hid (wnat (n := i) (by have := HLEN.out; omega))
          have HLT := Lib.hid hlt
          have hii : (i : Int) < (L.length : Int) := by omega
          clear A1 hte hmem hi hlt hmap hln
          go_wp2_with fail
          refine WK.out.mono ?_; rintro e w3 ⟨rfl, hb3⟩
          have HB3 := Lib.hid (bstep HB1.out hb3)
          have HT3 := Lib.hid (HT1.out.go hb3)
          have HR3 := Lib.hid (HR1.out.go hb3); clear hb3 HB1 HT1 HR1
          obtain ⟨u, hu⟩ := HR3.out.cell HLT.out
          have hfz := HR3.out.free i
          have HR4 : Hid (Row9 (w3.setCell ⟨wk.heap.size, i, none⟩ (.string (wrT (kk, tt, p)))) wk.heap.size L.length ((L.take (i + 1)).map wrT)) := by
            have h9 := HR3.out.set (by rw [HLN.out]; exact HLT.out) (wrT (kk, tt, p))
            rw [HLN.out] at h9
            show Row9 _ _ _ _
            rw [HMAP.out]; exact h9
          have HB4 : Hid (Below w.heap.size w (w3.setCell ⟨wk.heap.size, i, none⟩ (.string (wrT (kk, tt, p))))) := HB3.out.setCell (p := ⟨wk.heap.size, i, none⟩) HGW.out _
          have HT4 := Lib.hid (HT0.out.go HB4.out)
          go_wp2_with fail
          go_roundw
          case rel => exact ⟨i + 1, by first | exact congrArg (Value.int .i64) W3.out | go_num, HLT.out, HT4, HR4, HB4⟩
          case measure => have := HLT.out; first | (rw [W3.out]; simp [intOf]; omega) | (simp [intOf]; omega)
        · have hin : i = L.length := by omega
          subst hin
          have hrow : Row9 wz wk.heap.size L.length (L.map wrT) := by have h9 := HRm.out; rw [List.take_length] at h9; exact h9
          have hii : ¬ (L.length : Int) < (L.length : Int) := by omega
          have hjm : (L.map wrT).map (fun x : ByteArray => x.data.toList) = L.map fun t => (wrT t).data.toList := by rw [List.map_map]; rfl
          have JN : Hid (Calls Tryd.prog 26 #[.slice (some ⟨wk.heap.size, 0, none⟩) L.length L.length, .string ⟨#[32]⟩] wz fun e w' => e = .returned (.string (joinedT L)) ∧ Below wz.heap.size wz w') := by
            have h1 := HJL.out
            have h2 := HLEN.out
            have := Tryd.strings_Join wk.heap.size 0 L.length (L.map wrT) ⟨#[32]⟩ wz (fun j x hj => by
              obtain ⟨cur, c1, c2, c3⟩ := hrow
              rw [cell_of_row _ _ _ _ _ _ c1, Nat.zero_add]
              obtain ⟨hj1, hj2⟩ := List.getElem?_eq_some_iff.1 hj
              have h9 := c3 j hj1
              rw [hj2] at h9
              simpa using h9) hrow.lt (by rw [List.length_map]; omega) (by rw [List.length_map]; exact Nat.le_refl _) (by rw [hjm]; show (Lib.join (L.map fun t => (wrT t).data.toList) [32]).length ≤ _; omega)
            rw [List.length_map, hjm] at this
            exact this
          obtain ⟨J, hJ⟩ : ∃ J, J = joinedT L := ⟨_, rfl⟩
          rw [← hJ] at JN
          have HXX : Hid (x = if 8000 < J.size then (⟨#[]⟩, 2) else (J, 0)) := by
            show _ = _
            rw [HX.out, hJ]
            unfold textT
            rw [if_pos HALL.out]
          clear hrow hjm hJ hlt hi HRm
          go_wp2_with fail
          refine JN.out.mono ?_; rintro e w3 ⟨rfl, hb3⟩
          have HB3 := Lib.hid (bstep HBm.out hb3); clear hb3
          by_cases h8 : 8000 < J.size
          · have t1 : decide (8000 < (J.size : Int)) = true := decide_eq_true (by omega)
            have HR : Hid (x = (⟨#[]⟩, 2)) := by show _ = _; rw [HXX.out, if_pos h8]
            clear h8
            go_wp2_with fail
            refine bodyPost_ret (v := .tuple #[.string ⟨#[]⟩, .int .i64 2]) (by simp [results, Tryd.f14, go_sem]) rfl ⟨by rw [HR.out], HB3.out⟩
          · have t1 : decide (8000 < (J.size : Int)) = false := decide_eq_false (by omega)
            have HR : Hid (x = (J, 0)) := by show _ = _; rw [HXX.out, if_neg h8]
            clear h8
            go_wp2_with fail
            refine bodyPost_ret (v := .tuple #[.string J, .int .i64 0]) (by simp [results, Tryd.f14, go_sem]) rfl ⟨by rw [HR.out], HB3.out⟩
end Go.Proofs.YtegobakoflbnfaaDoor
