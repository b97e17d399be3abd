/- Rows of numbers in memory, and slices that hold lists of numbers. -/
import Derived.Test.YtlkdahgfnfdakaaProg
import Derived.WalkKit
import Derived.Handy
import Derived.Lib.Hide
import Derived.IntWalk
namespace Go.Proofs.Ytlkdahgfnfdakaa
open Go.RowKit

theorem u32_eq {a b : Int} (h : a = b) : Value.int .u32 a = Value.int .u32 b := by rw [h]
theorem i64_eq {a b : Int} (h : a = b) : Value.int .i64 a = Value.int .i64 b := by rw [h]
theorem u64_eq {a b : Int} (h : a = b) : Value.int .u64 a = Value.int .u64 b := by rw [h]
theorem u8_eq {a b : Int} (h : a = b) : Value.int .u8 a = Value.int .u8 b := by rw [h]

/-- cells of numbers -/
def ns (k : IntKind) (l : List Nat) : Array Value := (l.map fun (x : Nat) => Value.int k (x : Int)).toArray
theorem ns_size (k : IntKind) (l : List Nat) : (ns k l).size = l.length := by simp [ns]
theorem ns_get (k : IntKind) (l : List Nat) (i : Nat) : (ns k l)[i]? = (l[i]?).map fun (x : Nat) => Value.int k (x : Int) := by simp [ns]
theorem ns_set (k : IntKind) (l : List Nat) (i x : Nat) : (ns k l).setIfInBounds i (.int k (x : Int)) = ns k (l.set i x) := by
  apply Array.ext_getElem?
  intro j
  rw [Array.getElem?_setIfInBounds, ns_get, ns_size]
  by_cases h : i = j
  · subst h
    by_cases hi : i < l.length
    · simp [hi, ns_get]
    · simp [hi, ns_get]
  · simp [h, ns_get]
theorem ns_zeros (k : IntKind) (n : Nat) : madeCells #[Value.int k 0] n = ns k (List.replicate n 0) := by
  apply Array.toList_inj.1
  rw [toList_madeCells_one]; simp [ns]
theorem ns_snoc (k : IntKind) (l : List Nat) (x : Nat) : (ns k l).push (.int k (x : Int)) = ns k (l ++ [x]) := by simp [ns]

/-- block g holds the numbers l -/
def Row (w : World) (g : Nat) (k : IntKind) (t : TypeId) (l : List Nat) : Prop := w.heap[g]? = some (.cells (ns k l) t (0, 0))

theorem Row.new (w : World) (k : IntKind) (t : TypeId) (l : List Nat) : Row (w.alloc (.cells (ns k l) t)) w.heap.size k t l := heap_alloc_new w _
theorem Row.lt {w : World} {g : Nat} {k : IntKind} {t : TypeId} {l : List Nat} (h : Row w g k t l) : g < w.heap.size := lt_of_block h
theorem Row.cell {w : World} {g : Nat} {k : IntKind} {t : TypeId} {l : List Nat} (h : Row w g k t l) (i : Nat) (hi : i < l.length) : w.cell? ⟨g, i, none⟩ = some (.int k (l[i]'hi : Nat)) := by
  rw [cell_of_row w g i _ _ _ h, ns_get]; simp [hi]
theorem Row.free {w : World} {g : Nat} {k : IntKind} {t : TypeId} {l : List Nat} (h : Row w g k t l) (i : Nat) : w.frozen? ⟨g, i, none⟩ = false := frozen_of_row w g i _ _ h
theorem Row.set {w : World} {g : Nat} {k : IntKind} {t : TypeId} {l : List Nat} (h : Row w g k t l) (i x : Nat) : Row (w.setCell ⟨g, i, none⟩ (.int k (x : Int))) g k t (l.set i x) := by
  unfold Row
  rw [heap_setCell_same w g i _ t _ h, ns_set]
theorem Row.alloc {w : World} {g : Nat} {k : IntKind} {t : TypeId} {l : List Nat} (h : Row w g k t l) (o : Obj) : Row (w.alloc o) g k t l := (heap_alloc_old w o h.lt).trans h
theorem Row.drew {w : World} {g : Nat} {k : IntKind} {t : TypeId} {l : List Nat} (h : Row w g k t l) : Row w.drew g k t l := h
theorem Row.other {w : World} {g : Nat} {k : IntKind} {t : TypeId} {l : List Nat} (h : Row w g k t l) (a : Addr) (v : Value) (ha : g ≠ a.block) : Row (w.setCell a v) g k t l :=
  (heap_setCell_other w a g v ha).trans h
theorem Row.below {w w' : World} {g : Nat} {k : IntKind} {t : TypeId} {l : List Nat} (h : Row w g k t l) {B : Nat} (hb : Below B w w') (hg : g < B) : Row w' g k t l := (hb.block g hg).trans h

/-- v is a slice that holds the numbers l -/
def Rep (w : World) (k : IntKind) (v : Value) (l : List Nat) : Prop :=
  ∃ oa cap, v = .slice oa l.length cap ∧ l.length ≤ cap ∧ ∀ i, (hi : i < l.length) → ∃ b off, oa = some ⟨b, off, none⟩ ∧ w.cell? ⟨b, off + i, none⟩ = some (.int k (l[i]'hi : Nat))

theorem Rep.nil (w : World) (k : IntKind) : Rep w k (.slice none 0 0) [] := ⟨none, 0, rfl, by simp, fun i hi => by simp at hi⟩
theorem Rep.mk {w : World} {k : IntKind} {l : List Nat} {b off cap : Nat} (hc : l.length ≤ cap) (h : ∀ i, (hi : i < l.length) → w.cell? ⟨b, off + i, none⟩ = some (.int k (l[i]'hi : Nat))) :
    Rep w k (.slice (some ⟨b, off, none⟩) l.length cap) l := ⟨_, _, rfl, hc, fun i hi => ⟨b, off, rfl, h i hi⟩⟩
theorem Rep.row {w : World} {g : Nat} {k : IntKind} {t : TypeId} {l : List Nat} (h : Row w g k t l) (n cap : Nat) (hn : n ≤ l.length) (hc : n ≤ cap) : Rep w k (.slice (some ⟨g, 0, none⟩) n cap) (l.take n) := by
  have e : (l.take n).length = n := by simp; omega
  refine ⟨_, _, by rw [e], by rw [e]; exact hc, fun i hi => ⟨g, 0, rfl, ?_⟩⟩
  rw [Nat.zero_add, h.cell i (by omega)]; simp
theorem Rep.rowAll {w : World} {g : Nat} {k : IntKind} {t : TypeId} {l : List Nat} (h : Row w g k t l) (cap : Nat) (hc : l.length ≤ cap) : Rep w k (.slice (some ⟨g, 0, none⟩) l.length cap) l := by
  have := Rep.row h l.length cap (Nat.le_refl _) hc
  rwa [List.take_length] at this
theorem Rep.lt {w : World} {k : IntKind} {oa : Option Addr} {n cap : Nat} {l : List Nat} (h : Rep w k (.slice oa n cap) l) (i : Nat) (hi : i < l.length) : ∃ b off, oa = some ⟨b, off, none⟩ ∧ b < w.heap.size := by
  obtain ⟨oa', cap', he, hc, hcell⟩ := h
  cases he
  obtain ⟨b, off, rfl, hcl⟩ := hcell i hi
  exact ⟨b, off, rfl, block_lt_of_cell hcl⟩
theorem Rep.below {w w' : World} {k : IntKind} {v : Value} {l : List Nat} (h : Rep w k v l) {B : Nat} (hb : Below B w w') (hB : w.heap.size ≤ B) : Rep w' k v l := by
  obtain ⟨oa, cap, rfl, hc, hcell⟩ := h
  refine ⟨oa, cap, rfl, hc, fun i hi => ?_⟩
  obtain ⟨b, off, rfl, hcl⟩ := hcell i hi
  exact ⟨b, off, rfl, (hb.cell (p := ⟨b, off + i, none⟩) (Nat.lt_of_lt_of_le (block_lt_of_cell hcl) hB)).trans hcl⟩

theorem Try.info117 : (Try.prog.info? 117).map (fun i => (i.zero, i.size, i.bytes)) = some (some (.int .u32 0), 1, 4) := by kernel_rfl
theorem Try.info3 : (Try.prog.info? 3).map (fun i => (i.zero, i.size, i.bytes)) = some (some (.int .i64 0), 1, 8) := by kernel_rfl
theorem Try.info5 : (Try.prog.info? 5).map (fun i => (i.zero, i.size, i.bytes)) = some (some (.int .u8 0), 1, 1) := by kernel_rfl

theorem quo_u64 (P b : Int) (h0 : 0 ≤ P) (hb : 0 < b) (hP : P ≤ 9000000000000000000) (w : World) :
    (Op.intDiv .quo .u64 P b).run Try.prog w = .ok (.int .u64 (P / b)) w := by
  have hne : ¬ b = 0 := by omega
  have hq : P.tdiv b = P / b := Int.tdiv_eq_ediv_of_nonneg h0
  have h1 : P / b ≤ P := Int.ediv_le_self b h0
  have h2 : 0 ≤ P / b := Int.ediv_nonneg h0 (by omega)
  have hw : IntKind.u64.wrap (P / b) = P / b := IntWalk.u64_in _ ⟨h2, by omega⟩
  simp [Op.intDiv, go_sem, hne, hq, hw]
theorem rem_u64 (P b : Int) (h0 : 0 ≤ P) (hb : 0 < b) (hP : P ≤ 9000000000000000000) (w : World) :
    (Op.intDiv .rem .u64 P b).run Try.prog w = .ok (.int .u64 (P % b)) w := by
  have hne : ¬ b = 0 := by omega
  have hq : P.tmod b = P % b := Int.tmod_eq_emod_of_nonneg h0
  have h1 : P % b < b := Int.emod_lt_of_pos _ hb
  have h2 : 0 ≤ P % b := Int.emod_nonneg _ (by omega)
  have h3 : P % b ≤ P := by
    have := Int.emod_add_mul_ediv P b
    have h4 : 0 ≤ b * (P / b) := Int.mul_nonneg (by omega) (Int.ediv_nonneg h0 (by omega))
    omega
  have hw : IntKind.u64.wrap (P % b) = P % b := IntWalk.u64_in _ ⟨h2, by omega⟩
  simp [Op.intDiv, go_sem, hne, hq, hw]

/-- make of words -/
theorem make_words (w : World) (l c : Int) (h0 : 0 ≤ l) (hlc : l ≤ c) (hc : c ≤ 1000000000000) :
    (Instr.makeSlice 53 (.int .i64 l) (.int .i64 c)).run Try.prog w = .ok (.slice (some ⟨w.heap.size, 0, none⟩) l.toNat c.toNat) (w.alloc (.cells (ns .u32 (List.replicate c.toNat 0)) 117)) := by
  obtain ⟨i0, hi, hz0, hz1, hz2⟩ := info_parts Try.info117
  rw [run_make w 53 117 i0 _ Try.underlying53 hi hz0 .i64 .i64 l c h0 hlc (by rw [hz2]; omega) (by omega), hz1, Nat.mul_one]
  show Result.ok _ (w.alloc (.cells (madeCells #[Value.int .u32 0] c.toNat) 117)) = _
  rw [ns_zeros]

/-- make of ints -/
theorem make_ints (w : World) (l c : Int) (h0 : 0 ≤ l) (hlc : l ≤ c) (hc : c ≤ 1000000000000) :
    (Instr.makeSlice 58 (.int .i64 l) (.int .i64 c)).run Try.prog w = .ok (.slice (some ⟨w.heap.size, 0, none⟩) l.toNat c.toNat) (w.alloc (.cells (ns .i64 (List.replicate c.toNat 0)) 3)) := by
  obtain ⟨i0, hi, hz0, hz1, hz2⟩ := info_parts Try.info3
  rw [run_make w 58 3 i0 _ Try.underlying58 hi hz0 .i64 .i64 l c h0 hlc (by rw [hz2]; omega) (by omega), hz1, Nat.mul_one]
  show Result.ok _ (w.alloc (.cells (madeCells #[Value.int .i64 0] c.toNat) 3)) = _
  rw [ns_zeros]

/-- a row of numbers, as the laws of append say it -/
def nl (k : IntKind) (l : List Nat) : List Value := l.map fun (x : Nat) => Value.int k (x : Int)
theorem ns_toList (k : IntKind) (l : List Nat) : (ns k l).toList = nl k l := by simp [ns, nl]
theorem nl_append (k : IntKind) (l m : List Nat) : nl k (l ++ m) = nl k l ++ nl k m := by simp [nl]
theorem nl_length (k : IntKind) (l : List Nat) : (nl k l).length = l.length := by simp [nl]
theorem nl_take (k : IntKind) (l : List Nat) (n : Nat) : nl k (l.take n) = (nl k l).take n := by simp [nl]
theorem Row.own {w : World} {g : Nat} {k : IntKind} {t : TypeId} {l : List Nat} (h : Row w g k t l) {base : Nat} (hb : base ≤ g) (n : Nat) (hn : n ≤ l.length) (hm : l.length ≤ maxLen) :
    w.ownsRow base t 1 (.slice (some ⟨g, 0, none⟩) n l.length) n (nl k (l.take n)) :=
  ⟨by rw [nl_length, List.length_take]; omega, .inr ⟨g, l.length, ns k l, rfl, hb, h, hn, hm, by rw [ns_size]; omega, by rw [ns_toList, nl_take, Nat.mul_one]⟩⟩
theorem Rep.own {w : World} {base : Nat} {t : TypeId} {v : Value} {n : Nat} {k : IntKind} {l : List Nat} (h : w.ownsRow base t 1 v n (nl k l)) : Rep w k v l := by
  have hl := h.1
  rw [nl_length, Nat.mul_one] at hl
  subst hl
  rcases h.2 with ⟨rfl, h0⟩ | ⟨g, cap, cur, rfl, _, hg, hc, _, hs, ht⟩
  · have : l = [] := List.eq_nil_of_length_eq_zero h0
    subst this; exact Rep.nil w k
  · refine Rep.mk hc fun i hi => ?_
    rw [Nat.zero_add, cell_of_row w g i _ _ _ hg, ← Array.getElem?_toList]
    have : (nl k l)[i]? = some (.int k (l[i] : Nat)) := by simp [nl, hi]
    rw [← this, ← ht, List.getElem?_take, if_pos (by omega)]

end Go.Proofs.Ytlkdahgfnfdakaa
