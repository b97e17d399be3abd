import Derived.Test.YtlkdahgfnfdakaaReadB
namespace Go.Proofs.Ytlkdahgfnfdakaa
open Go.RowKit Go.Shelf WN LM

abbrev Q3 := Bool × Nat × Nat
/-- v is a slice that holds the strings l -/
def Strs (w : World) (v : Value) (l : List ByteArray) : Prop :=
  ∃ oa cap, v = .slice oa l.length cap ∧ ∀ i, (hi : i < l.length) → ∃ b off, oa = some ⟨b, off, none⟩ ∧ w.cell? ⟨b, off + i, none⟩ = some (.string l[i])
theorem Strs.go {w w' : World} {v : Value} {l : List ByteArray} (h : Strs w v l) (hb : Below w.heap.size w w') : Strs w' v l := by
  obtain ⟨oa, cap, rfl, hc⟩ := h
  refine ⟨oa, cap, rfl, fun i hi => ?_⟩
  obtain ⟨b, off, rfl, h1⟩ := hc i hi
  exact ⟨b, off, rfl, (hb.cell (p := ⟨b, off + i, none⟩) (block_lt_of_cell h1)).trans h1⟩

def noInt : Value → Prop
  | .int _ _ => False
  | _ => True
/-- the first k numbers of a row of numbers -/
def Numsat (w : World) (cur : Array Value) (l : List Q3) (k : Nat) : Prop :=
  ∀ i, i < k → (hi : i < l.length) → ∃ vn vd, cur[i * 3]? = some (.bool l[i].1) ∧ cur[i * 3 + 1]? = some vn ∧ cur[i * 3 + 2]? = some vd ∧ Num w vn l[i].2.1 ∧ Num w vd l[i].2.2
/-- block g is a row of n numbers, of which k stand there -/
def NRow (w : World) (g n : Nat) (l : List Q3) (k : Nat) : Prop :=
  ∃ cur, w.heap[g]? = some (.cells cur 55 (0, 0)) ∧ cur.size = 3 * n ∧ (∀ x ∈ cur, noInt x) ∧ Numsat w cur l k
theorem NRow.lt {w : World} {g n k : Nat} {l : List Q3} (h : NRow w g n l k) : g < w.heap.size := by
  obtain ⟨cur, h1, _⟩ := h; exact lt_of_block h1
theorem NRow.go {w w' : World} {g n k : Nat} {l : List Q3} (h : NRow w g n l k) (hb : Below w.heap.size w w') : NRow w' g n l k := by
  obtain ⟨cur, h1, h2, h3, h4⟩ := h
  refine ⟨cur, (hb.block g (lt_of_block h1)).trans h1, h2, h3, fun i hi hl => ?_⟩
  obtain ⟨vn, vd, e1, e2, e3, e4, e5⟩ := h4 i hi hl
  exact ⟨vn, vd, e1, e2, e3, e4.go hb, e5.go hb⟩
theorem Num.off {W W' : World} {v : Value} {n g : Nat} {cur : Array Value} {t : TypeId} {z : Nat × Nat} (h : Num W v n) (hg : W.heap[g]? = some (.cells cur t z)) (hn : ∀ x ∈ cur, noInt x) (hoff : ∀ b, b ≠ g → W'.heap[b]? = W.heap[b]?) : Num W' v n := by
  obtain ⟨l, ⟨oa, ca, rfl, hc, hcell⟩, hl⟩ := h
  refine ⟨l, ⟨oa, ca, rfl, hc, fun i hi => ?_⟩, hl⟩
  obtain ⟨b, off, rfl, e⟩ := hcell i hi
  refine ⟨b, off, rfl, ?_⟩
  have hne : b ≠ g := by
    rintro rfl
    unfold World.cell? at e
    rw [hg] at e
    have e' : cur[off + i]? = some (.int .u32 (l[i] : Nat)) := by simpa using e
    exact hn _ (Array.mem_of_getElem? e')
  unfold World.cell?
  rw [hoff b hne]
  exact e
theorem three_off (W : World) (g a b c : Nat) (x y z : Value) : ∀ k, k ≠ g → (((W.setCell ⟨g, a, none⟩ x).setCell ⟨g, b, none⟩ y).setCell ⟨g, c, none⟩ z).heap[k]? = W.heap[k]? := fun k hk => by
  rw [heap_setCell_other _ _ _ _ hk, heap_setCell_other _ _ _ _ hk, heap_setCell_other _ _ _ _ hk]
theorem three_at {w w' : World} {B g a b c : Nat} {x y z : Value} (h : Below B w w') (hg : B ≤ g) : Below B w (((w'.setCell ⟨g, a, none⟩ x).setCell ⟨g, b, none⟩ y).setCell ⟨g, c, none⟩ z) :=
  ((h.setCell (p := ⟨g, a, none⟩) hg _).setCell (p := ⟨g, b, none⟩) hg _).setCell (p := ⟨g, c, none⟩) hg _
theorem noInt_set {cur : Array Value} (h : ∀ x ∈ cur, noInt x) (i : Nat) {v : Value} (hv : noInt v) : ∀ x ∈ cur.setIfInBounds i v, noInt x := by
  intro x hx
  rcases Array.mem_or_eq_of_mem_setIfInBounds hx with h1 | rfl
  · exact h x h1
  · exact hv
/-- one more number is stored -/
theorem NRow.store {w : World} {g n k : Nat} {l : List Q3} (h : NRow w g n l k) (hk : k < n) {s : Bool} {o1 o2 : Option Addr} {k1 c1 k2 c2 N D : Nat} (hl : l[k]? = some (s, N, D)) (hN : Num w (.slice o1 k1 c1) N) (hD : Num w (.slice o2 k2 c2) D) :
    NRow (((w.setCell ⟨g, k * 3, none⟩ (.bool s)).setCell ⟨g, k * 3 + 1, none⟩ (.slice o1 k1 c1)).setCell ⟨g, k * 3 + 2, none⟩ (.slice o2 k2 c2)) g n l (k + 1) := by
  obtain ⟨cur, h1, h2, h3, h4⟩ := h
  have e1 := heap_setCell_same w g (k * 3) cur 55 (.bool s) h1
  have e2 := heap_setCell_same _ g (k * 3 + 1) _ 55 (.slice o1 k1 c1) e1
  have e3 := heap_setCell_same _ g (k * 3 + 2) _ 55 (.slice o2 k2 c2) e2
  have hoff := three_off w g (k * 3) (k * 3 + 1) (k * 3 + 2) (.bool s) (.slice o1 k1 c1) (.slice o2 k2 c2)
  refine ⟨_, e3, by simp [h2], noInt_set (noInt_set (noInt_set h3 (k * 3) (v := .bool s) trivial) (k * 3 + 1) (v := .slice o1 k1 c1) trivial) (k * 3 + 2) (v := .slice o2 k2 c2) trivial, fun i hi hil => ?_⟩
  rcases Nat.lt_or_ge i k with hik | hik
  · obtain ⟨vn, vd, g1, g2, g3, g4, g5⟩ := h4 i hik hil
    refine ⟨vn, vd, ?_, ?_, ?_, g4.off h1 h3 hoff, g5.off h1 h3 hoff⟩
    · rw [Array.getElem?_setIfInBounds_ne (by omega), Array.getElem?_setIfInBounds_ne (by omega), Array.getElem?_setIfInBounds_ne (by omega)]; exact g1
    · rw [Array.getElem?_setIfInBounds_ne (by omega), Array.getElem?_setIfInBounds_ne (by omega), Array.getElem?_setIfInBounds_ne (by omega)]; exact g2
    · rw [Array.getElem?_setIfInBounds_ne (by omega), Array.getElem?_setIfInBounds_ne (by omega), Array.getElem?_setIfInBounds_ne (by omega)]; exact g3
  · obtain rfl : i = k := by omega
    have e : l[i] = (s, N, D) := by
      rw [List.getElem?_eq_getElem hil] at hl; exact Option.some.inj hl
    rw [e]
    refine ⟨.slice o1 k1 c1, .slice o2 k2 c2, ?_, ?_, ?_, hN.off h1 h3 hoff, hD.off h1 h3 hoff⟩
    · rw [Array.getElem?_setIfInBounds_ne (by omega), Array.getElem?_setIfInBounds_ne (by omega), Array.getElem?_setIfInBounds_self_of_lt (by rw [h2]; omega)]
    · rw [Array.getElem?_setIfInBounds_ne (by omega), Array.getElem?_setIfInBounds_self_of_lt (by simp [h2]; omega)]
    · rw [Array.getElem?_setIfInBounds_self_of_lt (by simp [h2]; omega)]
theorem NRow.cells {w : World} {g n k : Nat} {l : List Q3} (h : NRow w g n l k) {i : Nat} (hi : i < n) :
    ∃ x y z, w.cell? ⟨g, i * 3, none⟩ = some x ∧ w.cell? ⟨g, i * 3 + 1, none⟩ = some y ∧ w.cell? ⟨g, i * 3 + 2, none⟩ = some z ∧ w.frozen? ⟨g, i * 3, none⟩ = false ∧ w.frozen? ⟨g, i * 3 + 1, none⟩ = false ∧ w.frozen? ⟨g, i * 3 + 2, none⟩ = false := by
  obtain ⟨cur, h1, h2, h3, h4⟩ := h
  refine ⟨cur[i * 3]'(by omega), cur[i * 3 + 1]'(by omega), cur[i * 3 + 2]'(by omega), ?_, ?_, ?_, frozen_of_row w g _ _ _ h1, frozen_of_row w g _ _ _ h1, frozen_of_row w g _ _ _ h1⟩
  · rw [cell_of_row w g _ _ _ _ h1]; simp
  · rw [cell_of_row w g _ _ _ _ h1]; simp
  · rw [cell_of_row w g _ _ _ _ h1]; simp
/-- a number of the row -/
theorem NRow.get {w : World} {g n k : Nat} {l : List Q3} (h : NRow w g n l k) {i : Nat} (hi : i < k) (hl : i < l.length) :
    ∃ o1 k1 c1 o2 k2 c2, w.cell? ⟨g, i * 3, none⟩ = some (.bool l[i].1) ∧ w.cell? ⟨g, i * 3 + 1, none⟩ = some (.slice o1 k1 c1) ∧ w.cell? ⟨g, i * 3 + 2, none⟩ = some (.slice o2 k2 c2) ∧ Num w (.slice o1 k1 c1) l[i].2.1 ∧ Num w (.slice o2 k2 c2) l[i].2.2 := by
  obtain ⟨cur, h1, h2, h3, h4⟩ := h
  obtain ⟨vn, vd, e1, e2, e3, e4, e5⟩ := h4 i hi hl
  obtain ⟨o1, k1, c1, rfl⟩ := e4.shape
  obtain ⟨o2, k2, c2, rfl⟩ := e5.shape
  refine ⟨o1, k1, c1, o2, k2, c2, ?_, ?_, ?_, e4, e5⟩
  · rw [cell_of_row w g _ _ _ _ h1]; exact e1
  · rw [cell_of_row w g _ _ _ _ h1]; exact e2
  · rw [cell_of_row w g _ _ _ _ h1]; exact e3
theorem NRow.new (w : World) (n : Nat) (l : List Q3) : NRow (w.alloc (.cells (madeCells #[.bool false, .slice none 0 0, .slice none 0 0] (n * 3)) 55)) w.heap.size n l 0 := by
  refine ⟨_, heap_alloc_new w _, by rw [size_madeCells]; omega, fun x hx => ?_, fun i hi => absurd hi (Nat.not_lt_zero _)⟩
  simp only [madeCells, Array.mem_map, Array.mem_range] at hx
  obtain ⟨j, _, rfl⟩ := hx
  have : j % 3 = 0 ∨ j % 3 = 1 ∨ j % 3 = 2 := by omega
  rcases this with h | h | h <;> simp [h, noInt]

theorem Try.info55 : (Try.prog.info? 55).map (fun i => (i.zero, i.size, i.bytes)) = some (some (.agg #[.bool false, .slice none 0 0, .slice none 0 0]), 3, 56) := by kernel_rfl
theorem make_numbers (w : World) (n : Nat) (hn : n ≤ 1000000000000) :
    (Instr.makeSlice 49 (.int .i64 (n : Int)) (.int .i64 (n : Int))).run Try.prog w = .ok (.slice (some ⟨w.heap.size, 0, none⟩) n n) (w.alloc (.cells (madeCells #[.bool false, .slice none 0 0, .slice none 0 0] (n * 3)) 55)) := by
  obtain ⟨i0, hi, hz0, hz1, hz2⟩ := info_parts Try.info55
  rw [run_make w 49 55 i0 _ Try.underlying49 hi hz0 .i64 .i64 n n (by omega) (by omega) (by rw [hz2]; omega) (by omega), hz1]
  rfl

/-- all texts are read -/
def readAll : List ByteArray → Option (List Q3)
  | [] => some []
  | s :: l => match readQ s.data.toList, readAll l with
    | some q, some qs => some (q :: qs)
    | _, _ => none
/-- what parse returns -/
def ParseOut (w : World) (o : Option (List Q3)) (e : Ending) (w' : World) : Prop :=
  Below w.heap.size w w' ∧ match o with
    | none => e = .returned (.tuple #[.slice none 0 0, .int .i64 1])
    | some qs => ∃ g cap, e = .returned (.tuple #[.slice (some ⟨g, 0, none⟩) qs.length cap, .int .i64 0]) ∧ NRow w' g qs.length qs qs.length
/-- the same, the capacity told -/
def ParseOut2 (w : World) (o : Option (List Q3)) (e : Ending) (w' : World) : Prop :=
  Below w.heap.size w w' ∧ match o with
    | none => e = .returned (.tuple #[.slice none 0 0, .int .i64 1])
    | some qs => ∃ g, e = .returned (.tuple #[.slice (some ⟨g, 0, none⟩) qs.length qs.length, .int .i64 0]) ∧ NRow w' g qs.length qs qs.length

theorem NRow.ext {w : World} {g n k : Nat} {l l' : List Q3} (h : NRow w g n l k) (he : ∀ i, i < k → l'[i]? = l[i]?) : NRow w g n l' k := by
  obtain ⟨cur, h1, h2, h3, h4⟩ := h
  refine ⟨cur, h1, h2, h3, fun i hi hl => ?_⟩
  have e := he i hi
  rw [List.getElem?_eq_getElem hl] at e
  have hl' : i < l.length := (List.getElem?_eq_some_iff.1 e.symm).1
  have e2 : l'[i] = l[i] := by rw [List.getElem?_eq_getElem hl'] at e; exact Option.some.inj e
  rw [e2]; exact h4 i hi hl'
theorem readAll_some : ∀ (L : List ByteArray) (qs : List Q3), qs.length = L.length → (∀ j (h : j < L.length) (h' : j < qs.length), readQ L[j].data.toList = some qs[j]) → readAll L = some qs
  | [], qs, hl, _ => by rw [List.length_eq_zero_iff.1 hl]; rfl
  | s :: L, [], hl, _ => by simp at hl
  | s :: L, q :: qs, hl, h => by
    have h0 := h 0 (by simp) (by simp)
    have h1 := readAll_some L qs (by simpa using hl) (fun j hj hj' => h (j + 1) (by simpa using hj) (by simpa using hj'))
    simp only [List.getElem_cons_zero] at h0
    rw [readAll, h0, h1]
theorem readAll_none : ∀ (L : List ByteArray) (j : Nat) (h : j < L.length), readQ L[j].data.toList = none → readAll L = none
  | s :: L, 0, h, hn => by
    simp only [List.getElem_cons_zero] at hn
    rw [readAll, hn]
  | s :: L, j + 1, h, hn => by
    have := readAll_none L j (by simpa using h) (by simpa using hn)
    rw [readAll, this]
    cases readQ s.data.toList <;> rfl

def ParseI (L : List ByteArray) (w : World) (i : Nat) (W : World) : Prop :=
  ∃ qs : List Q3, qs.length = i ∧ (∀ j (h : j < L.length) (h' : j < qs.length), readQ L[j].data.toList = some qs[j]) ∧ NRow W w.heap.size L.length qs i ∧ Below w.heap.size w W

set_option maxRecDepth 100000 in
set_option maxHeartbeats 1000000 in
theorem parse_cap {w : World} {v : Value} {L : List ByteArray} (hv : Strs w v L) (hn : L.length ≤ 1000000000000) (hs : ∀ s ∈ L, s.size ≤ 140737488355328) : Calls Try.prog 54 #[v] w (ParseOut2 w (readAll L)) := by
  obtain ⟨oa, cap, rfl, hcell⟩ := hv
  have HC := Lib.hid hcell; have HS := Lib.hid hs; clear hcell hs
  have hmk := fun w => make_numbers w L.length hn
  have hr0 := Lib.hid (NRow.new w L.length [])
  have hb0 := Lib.hid (below_alloc w (.cells (madeCells #[.bool false, .slice none 0 0, .slice none 0 0] (L.length * 3)) 55))
  go_enter Try.func54, Try.ntmps54
  go_wp2_with fail
  generalize w.alloc (.cells (madeCells #[.bool false, .slice none 0 0, .slice none 0 0] (L.length * 3)) 55) = w1 at *
  clear hmk
  go_loopw [14] (fun vi wr => ∃ i : Nat, i ≤ L.length ∧ vi = .int .i64 i ∧ Hid (ParseI L w i wr)) (fun vi _ => L.length - (intOf vi).toNat)
  case atStart => exact ⟨0, Nat.zero_le _, rfl, [], rfl, fun j h h' => absurd h' (Nat.not_lt_zero _), hr0.out, hb0.out⟩
  case round =>
    clear hr0 hb0
    obtain ⟨i, hi, rfl, hinv⟩ := hrel
    by_cases hlt : i < L.length
    · obtain ⟨b, off, rfl, hc⟩ := HC.out i hlt
      obtain ⟨qs, hq1, hq2, hq3, hq4⟩ := hinv.out
      have c0 := (hq4.cell (p := ⟨b, off + i, none⟩) (block_lt_of_cell hc)).trans hc
      have HSI := HS.out L[i] (List.getElem_mem hlt)
      have HQ2 := Lib.hid hq2; have HQ3 := Lib.hid hq3; have HQ4 := Lib.hid hq4; have HQ1 := Lib.hid hq1
      have HNO : Hid (readQ L[i].data.toList = none → readAll L = none) := readAll_none L i hlt
      have HLI : Hid (L[i]? = some L[i]) := List.getElem?_eq_getElem hlt
      have HYES : Hid (∀ q, readQ L[i].data.toList = some q → ∀ j (h : j < L.length) (h' : j < (qs ++ [q]).length), readQ L[j].data.toList = some (qs ++ [q])[j]) := fun q hq j h h' => by
        by_cases hj : j < qs.length
        · rw [List.getElem_append_left hj]; exact hq2 j h hj
        · have : j = i := by rw [List.length_append] at h'; simp at h'; omega
          subst this
          rw [List.getElem_append_right (by omega)]
          simpa using hq
      clear hinv hc hq1 hq2 hq3 hq4
      generalize L[i] = si at *
      go_wp2_with fail
      refine (read_num si _ HSI).mono ?_; rintro e w2 ⟨v2, hb2, hm⟩
      cases hq : readQ si.data.toList with
      | none =>
        rw [hq] at hm
        obtain ⟨rfl, rfl⟩ := hm
        have HR : Hid (∀ e w', ParseOut2 w none e w' → ParseOut2 w (readAll L) e w') := fun e w' h => by rw [HNO.out hq]; exact h
        have HB2 := Lib.hid (bstep HQ4.out hb2)
        clear hq hb2 c0
        go_wp2_with fail
        go_ret2
        refine HR.out _ _ ⟨HB2.out.trans ((below_alloc _ _).mono (by have := HB2.out.size; omega)), rfl⟩
      | some q =>
        rw [hq] at hm
        obtain ⟨s, N, D⟩ := q
        obtain ⟨rfl, hf⟩ := hm
        obtain ⟨o1, k1, c1', o2, k2, c2', rfl, hN, hD⟩ := hf.box
        have HB2 := Lib.hid (bstep HQ4.out hb2)
        have HY := Lib.hid (HYES.out _ hq)
        have HR2 := Lib.hid (HQ3.out.go hb2)
        have HN := Lib.hid hN; have HD := Lib.hid hD
        have bb := below_alloc w2 (.cells #[.bool s, .slice o1 k1 c1', .slice o2 k2 c2'] 55)
        have HR3 := Lib.hid (HR2.out.go bb); have HB3 := Lib.hid (HB2.out.trans (bb.mono (by have := HB2.out.size; omega)))
        have HN3 := Lib.hid (HN.out.go bb); have HD3 := Lib.hid (HD.out.go bb)
        have bx := Box3.new w2 (.bool s) (.slice o1 k1 c1') (.slice o2 k2 c2')
        have BX := Lib.hid bx
        clear hq hb2 hf hN hD c0 HNO HYES HQ3 HQ2 bb bx HR2 HN HD
        obtain ⟨x, y, z, c0, c1, c2, f0, f1, f2⟩ := HR3.out.cells hlt
        obtain ⟨d0, d1, d2⟩ := Box3.cells BX.out
        go_wp2_with fail
        go_roundw
        case rel =>
          refine ⟨i + 1, hlt, by go_num, qs ++ [(s, N, D)], by rw [List.length_append, HQ1.out]; rfl, HY.out, ?_, three_at HB3.out (Nat.le_refl _)⟩
          exact NRow.store (HR3.out.ext (fun j hj => by rw [List.getElem?_append_left (by rw [HQ1.out]; exact hj)])) hlt (by rw [List.getElem?_append_right (by rw [HQ1.out]; exact Nat.le_refl _), HQ1.out, Nat.sub_self]; rfl) HN3.out HD3.out
        case measure => simp [intOf]; omega
    · obtain rfl : i = L.length := by omega
      obtain ⟨qs, hq1, hq2, hq3, hq4⟩ := hinv.out
      have HR : Hid (∀ e w', ParseOut2 w (some qs) e w' → ParseOut2 w (readAll L) e w') := fun e w' h => by rw [readAll_some L qs hq1 hq2]; exact h
      have HQ3 := Lib.hid hq3; have HQ4 := Lib.hid hq4; have HQ1 := Lib.hid hq1
      clear hinv hq1 hq2 hq3 hq4 hlt
      go_wp2_with fail
      go_ret2
      refine HR.out _ _ ⟨HQ4.out, w.heap.size, ?_, ?_⟩
      · rw [HQ1.out]; rfl
      · rw [HQ1.out]; exact HQ3.out
theorem parse_num {w : World} {v : Value} {L : List ByteArray} (hv : Strs w v L) (hn : L.length ≤ 1000000000000) (hs : ∀ s ∈ L, s.size ≤ 140737488355328) : Calls Try.prog 54 #[v] w (ParseOut w (readAll L)) := by
  refine (parse_cap hv hn hs).mono ?_
  rintro e w' ⟨h1, h2⟩
  refine ⟨h1, ?_⟩
  cases hr : readAll L with
  | none => rw [hr] at h2; exact h2
  | some qs =>
    rw [hr] at h2
    obtain ⟨g, h3, h4⟩ := h2
    exact ⟨g, _, h3, h4⟩
end Go.Proofs.Ytlkdahgfnfdakaa
