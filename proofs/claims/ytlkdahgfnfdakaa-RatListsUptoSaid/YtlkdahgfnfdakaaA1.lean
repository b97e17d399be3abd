/- Numbers as lists of digits to a base, the lowest one first. Rows of numbers in memory, and slices that hold lists of numbers. 'for at, word := range a.down() { .. }': the words of a slice, from the highest one on: one law for all such loops. -/
import Derived.Test.YtlkdahgfnfdakaaProg
import Derived.WalkKit
import Derived.Handy
import Derived.Lib.Hide
import Derived.IntWalk
import Derived.RangeFuncNested
import Derived.RangeFuncBound
import Derived.RangeFuncCalls
import Derived.RangeFuncLeaves
import Derived.Shelf.Abstract
import Derived.Shelf.RegionOpen
import Derived.OwnWalkIn
import Derived.TacticsInMore
import Derived.LoopNIn
import Derived.LoopIn
namespace Go.Proofs.Ytlkdahgfnfdakaa.WN

def val (B : Nat) : List Nat → Nat
  | [] => 0
  | d :: ds => d + B * val B ds

def Digs (B : Nat) (l : List Nat) : Prop := ∀ d ∈ l, d < B

/-- no highest digit 0 -/
def Top (l : List Nat) : Prop := l.getLast? ≠ some 0

def Canon (B : Nat) (l : List Nat) : Prop := Digs B l ∧ Top l

@[simp] theorem val_nil (B : Nat) : val B [] = 0 := rfl
@[simp] theorem val_cons (B d : Nat) (l : List Nat) : val B (d :: l) = d + B * val B l := rfl

theorem val_append (B : Nat) (l m : List Nat) : val B (l ++ m) = val B l + B ^ l.length * val B m := by
  induction l with
  | nil => simp
  | cons d l ih =>
    simp only [List.cons_append, val_cons, ih, List.length_cons, Nat.pow_succ]
    rw [Nat.mul_add, Nat.add_assoc]
    congr 2
    rw [← Nat.mul_assoc, Nat.mul_comm B]

theorem val_snoc (B : Nat) (l : List Nat) (d : Nat) : val B (l ++ [d]) = val B l + B ^ l.length * d := by
  rw [val_append]; simp

theorem Digs.nil (B : Nat) : Digs B [] := fun _ h => nomatch h
theorem Digs.cons {B d : Nat} {l : List Nat} (h : d < B) (hl : Digs B l) : Digs B (d :: l) := fun x hx => by
  rcases List.mem_cons.1 hx with rfl | hx
  · exact h
  · exact hl x hx
theorem Digs.append {B : Nat} {l m : List Nat} (h : Digs B l) (k : Digs B m) : Digs B (l ++ m) := fun x hx => by
  rcases List.mem_append.1 hx with hx | hx
  · exact h x hx
  · exact k x hx
theorem Digs.snoc {B d : Nat} {l : List Nat} (hl : Digs B l) (h : d < B) : Digs B (l ++ [d]) := hl.append (.cons h (.nil B))
theorem Digs.take {B : Nat} {l : List Nat} (h : Digs B l) (n : Nat) : Digs B (l.take n) := fun x hx => h x (List.mem_of_mem_take hx)
theorem Digs.drop {B : Nat} {l : List Nat} (h : Digs B l) (n : Nat) : Digs B (l.drop n) := fun x hx => h x (List.mem_of_mem_drop hx)
theorem Digs.get {B : Nat} {l : List Nat} (h : Digs B l) (i : Nat) (hi : i < l.length) : l[i] < B := h _ (List.getElem_mem hi)
theorem Digs.getD {B : Nat} {l : List Nat} (h : Digs B l) (i : Nat) (hB : 0 < B) : l.getD i 0 < B := by
  rw [List.getD_eq_getElem?_getD]
  by_cases hi : i < l.length
  · simp [hi]; exact h.get i hi
  · simp [List.getElem?_eq_none (Nat.le_of_not_lt hi)]; exact hB

theorem val_lt {B : Nat} (hB : 0 < B) {l : List Nat} (h : Digs B l) : val B l < B ^ l.length := by
  induction l with
  | nil => simp
  | cons d l ih =>
    have h1 := h d (by simp)
    have h2 := ih (fun x hx => h x (by simp [hx]))
    simp only [val_cons, List.length_cons, Nat.pow_succ]
    have : B * val B l + B ≤ B * B ^ l.length := by
      rw [← Nat.mul_succ]; exact Nat.mul_le_mul_left B h2
    rw [Nat.mul_comm (B ^ l.length)]
    omega

theorem Top.nil : Top [] := by simp [Top]
theorem Top.append {l m : List Nat} (h : Top m) (hm : m ≠ []) : Top (l ++ m) := by
  unfold Top at *
  rw [List.getLast?_append]
  cases hx : m.getLast? with
  | none => simp at hx; exact absurd hx hm
  | some x => simpa [hx] using h
theorem top_snoc {l : List Nat} {d : Nat} (h : d ≠ 0) : Top (l ++ [d]) := by simp [Top, h]

theorem pow_le_val {B : Nat} {l : List Nat} (h : Top l) (hl : l ≠ []) : B ^ (l.length - 1) ≤ val B l := by
  obtain ⟨m, d, rfl⟩ : ∃ m d, l = m ++ [d] := ⟨l.dropLast, l.getLast hl, (by rw [List.dropLast_concat_getLast])⟩
  have hd : d ≠ 0 := by simpa [Top] using h
  rw [val_snoc]
  simp only [List.length_append, List.length_cons, List.length_nil, Nat.zero_add, Nat.add_sub_cancel]
  have : B ^ m.length * 1 ≤ B ^ m.length * d := Nat.mul_le_mul_left _ (by omega)
  omega

theorem val_pos {B : Nat} (hB : 0 < B) {l : List Nat} (h : Top l) (hl : l ≠ []) : 0 < val B l :=
  Nat.lt_of_lt_of_le (Nat.pow_pos hB) (pow_le_val h hl)

theorem val_eq_zero {B : Nat} (hB : 0 < B) {l : List Nat} (h : Top l) : val B l = 0 ↔ l = [] := by
  constructor
  · intro h0
    by_cases hl : l = []
    · exact hl
    · have := val_pos hB h hl; omega
  · rintro rfl; rfl

theorem Top.tail {d : Nat} {l : List Nat} (h : Top (d :: l)) : Top l := by
  unfold Top at *
  cases l with
  | nil => simp
  | cons e l => simpa [List.getLast?_cons_cons] using h

theorem canon_unique {B : Nat} {l m : List Nat} (hl : Canon B l) (hm : Canon B m) (h : val B l = val B m) : l = m := by
  induction l generalizing m with
  | nil =>
    cases m with
    | nil => rfl
    | cons e m =>
      have hB : 0 < B := by have := hm.1 e (by simp); omega
      have := val_pos (B := B) hB hm.2 (by simp)
      rw [← h] at this; simp at this
  | cons d l ih =>
    have hB : 0 < B := by have := hl.1 d (by simp); omega
    cases m with
    | nil =>
      have := val_pos (B := B) hB hl.2 (by simp)
      rw [h] at this; simp at this
    | cons e m =>
      have h1 := hl.1 d (by simp)
      have h2 := hm.1 e (by simp)
      simp only [val_cons] at h
      have hde : d = e := by
        have : (d + B * val B l) % B = (e + B * val B m) % B := by rw [h]
        simpa [Nat.add_mul_mod_self_left, Nat.mod_eq_of_lt h1, Nat.mod_eq_of_lt h2] using this
      subst hde
      have hv : val B l = val B m := Nat.eq_of_mul_eq_mul_left hB (by omega)
      rw [ih (m := m) ⟨fun x hx => hl.1 x (by simp [hx]), hl.2.tail⟩ ⟨fun x hx => hm.1 x (by simp [hx]), hm.2.tail⟩ hv]

/-- the digits without noughts at the end -/
def trim (l : List Nat) : List Nat := (l.reverse.dropWhile (· == 0)).reverse

theorem trim_snoc_zero (l : List Nat) : trim (l ++ [0]) = trim l := by simp [trim]
theorem trim_snoc_ne {l : List Nat} {d : Nat} (h : d ≠ 0) : trim (l ++ [d]) = l ++ [d] := by simp [trim, h]
theorem trim_nil : trim [] = [] := rfl

theorem trim_spec (B : Nat) (l : List Nat) : ∃ k, l = trim l ++ List.replicate k 0 := by
  obtain ⟨r, hr⟩ : ∃ r, r = l.reverse := ⟨_, rfl⟩
  have hl : l = r.reverse := by simp [hr]
  subst hl
  unfold trim
  simp only [List.reverse_reverse]
  clear hr
  induction r with
  | nil => exact ⟨0, rfl⟩
  | cons d r ih =>
    by_cases h : d = 0
    · subst h
      obtain ⟨k, hk⟩ := ih
      refine ⟨k + 1, ?_⟩
      simp only [List.reverse_cons, List.dropWhile_cons, beq_self_eq_true, if_true]
      rw [List.replicate_succ', ← List.append_assoc, ← hk]
    · exact ⟨0, by simp [List.dropWhile_cons, h]⟩

theorem val_replicate_zero (B k : Nat) : val B (List.replicate k 0) = 0 := by
  induction k with
  | zero => rfl
  | succ k ih => simp [List.replicate_succ, ih]

theorem val_trim (B : Nat) (l : List Nat) : val B (trim l) = val B l := by
  obtain ⟨k, hk⟩ := trim_spec B l
  conv => rhs; rw [hk]
  rw [val_append, val_replicate_zero]; simp

theorem top_trim (l : List Nat) : Top (trim l) := by
  unfold Top trim
  rw [List.getLast?_reverse]
  intro h
  have := List.head?_dropWhile_not (· == 0) l.reverse
  rw [h] at this
  simp at this

theorem trim_length_le (l : List Nat) : (trim l).length ≤ l.length := by
  obtain ⟨k, hk⟩ := trim_spec 1 l
  have := congrArg List.length hk
  simp at this; omega

theorem trim_eq_take (l : List Nat) : trim l = l.take (trim l).length := by
  obtain ⟨k, hk⟩ := trim_spec 1 l
  conv => rhs; arg 2; rw [hk]
  simp

theorem digs_trim {B : Nat} {l : List Nat} (h : Digs B l) : Digs B (trim l) := by
  rw [trim_eq_take]; exact h.take _

theorem canon_trim {B : Nat} {l : List Nat} (h : Digs B l) : Canon B (trim l) := ⟨digs_trim h, top_trim l⟩

/-- the digits of a number -/
def ofNatAux (B : Nat) : Nat → Nat → List Nat
  | 0, _ => []
  | k + 1, n => if n = 0 then [] else n % B :: ofNatAux B k (n / B)
def ofNat (B n : Nat) : List Nat := ofNatAux B n n

theorem ofNatAux_spec {B : Nat} (hB : 2 ≤ B) : ∀ k n, n ≤ k → Canon B (ofNatAux B k n) ∧ val B (ofNatAux B k n) = n := by
  intro k
  induction k with
  | zero => intro n hn; obtain rfl : n = 0 := by omega
            exact ⟨⟨Digs.nil B, Top.nil⟩, rfl⟩
  | succ k ih =>
    intro n hn
    unfold ofNatAux
    by_cases h : n = 0
    · simp only [h, if_true]; exact ⟨⟨Digs.nil B, Top.nil⟩, rfl⟩
    · simp only [h, if_false]
      have hlt : n / B < n := Nat.div_lt_self (by omega) (by omega)
      obtain ⟨⟨h1, h2⟩, h3⟩ := ih (n / B) (by omega)
      refine ⟨⟨.cons (Nat.mod_lt _ (by omega)) h1, ?_⟩, ?_⟩
      · by_cases he : ofNatAux B k (n / B) = []
        · rw [he] at h3 ⊢
          simp only [val_nil] at h3
          have : n < B := by
            rcases Nat.lt_or_ge n B with h' | h'
            · exact h'
            · have := Nat.div_pos h' (by omega); omega
          simp [Top, Nat.mod_eq_of_lt this, h]
        · exact Top.append (l := [n % B]) h2 he
      · rw [val_cons, h3]; exact Nat.mod_add_div n B

theorem ofNat_canon {B : Nat} (hB : 2 ≤ B) (n : Nat) : Canon B (ofNat B n) := (ofNatAux_spec hB n n (Nat.le_refl _)).1
theorem val_ofNat {B : Nat} (hB : 2 ≤ B) (n : Nat) : val B (ofNat B n) = n := (ofNatAux_spec hB n n (Nat.le_refl _)).2

theorem ofNat_unique {B : Nat} (hB : 2 ≤ B) {l : List Nat} (h : Canon B l) {n : Nat} (hv : val B l = n) : l = ofNat B n :=
  canon_unique h (ofNat_canon hB n) (by rw [hv, val_ofNat hB])

theorem len_le_of_lt {B : Nat} (hB : 2 ≤ B) {l : List Nat} (h : Top l) {k : Nat} (hv : val B l < B ^ k) : l.length ≤ k := by
  by_cases hl : l = []
  · simp [hl]
  · have h1 := pow_le_val (B := B) h hl
    have : B ^ (l.length - 1) < B ^ k := by omega
    have := (Nat.pow_lt_pow_iff_right (by omega)).1 this
    omega

theorem val_take_drop (B : Nat) (l : List Nat) (k : Nat) (hk : k ≤ l.length) : val B l = val B (l.take k) + B ^ k * val B (l.drop k) := by
  conv => lhs; rw [← List.take_append_drop k l]
  rw [val_append, List.length_take, Nat.min_eq_left hk]

theorem val_take_succ (B : Nat) (l : List Nat) (k : Nat) (hk : k < l.length) : val B (l.take (k + 1)) = val B (l.take k) + B ^ k * l[k] := by
  rw [List.take_succ_eq_append_getElem hk, val_snoc, List.length_take, Nat.min_eq_left (by omega)]

theorem val_drop (B : Nat) (l : List Nat) (k : Nat) (hk : k < l.length) : val B (l.drop k) = l[k] + B * val B (l.drop (k + 1)) := by
  rw [List.drop_eq_getElem_cons hk]; rfl

theorem trim_zeros {l : List Nat} (h : ∀ j (hj : j < l.length), l[j] = 0) : trim l = [] := by
  have e : l = List.replicate l.length 0 := List.eq_replicate_iff.2 ⟨rfl, fun x hx => by
    obtain ⟨j, hj, rfl⟩ := List.getElem_of_mem hx
    exact h j hj⟩
  rw [e]
  generalize l.length = n
  induction n with
  | zero => rfl
  | succ n ih => rw [List.replicate_succ', trim_snoc_zero, ih]

theorem trim_top {l : List Nat} {m : Nat} (hm : m < l.length) (h : ∀ j (hj : j < l.length), m < j → l[j] = 0) (h0 : l[m] ≠ 0) : trim l = l.take (m + 1) := by
  have e : l = l.take (m + 1) ++ List.replicate (l.length - (m + 1)) 0 := by
    conv => lhs; rw [← List.take_append_drop (m + 1) l]
    congr 1
    refine List.eq_replicate_iff.2 ⟨by simp, fun x hx => ?_⟩
    obtain ⟨j, hj, rfl⟩ := List.getElem_of_mem hx
    rw [List.getElem_drop]
    exact h _ _ (by omega)
  conv => lhs; rw [e]
  generalize l.length - (m + 1) = n
  induction n with
  | zero =>
    rw [List.replicate_zero, List.append_nil, List.take_succ_eq_append_getElem hm, trim_snoc_ne h0]
  | succ n ih => rw [List.replicate_succ', ← List.append_assoc, trim_snoc_zero, ih]

theorem val_take_next (B : Nat) (l : List Nat) (k : Nat) : val B (l.take (k + 1)) = val B (l.take k) + B ^ k * (l[k]?.getD 0) := by
  by_cases hk : k < l.length
  · rw [val_take_succ _ _ _ hk]; simp [hk]
  · rw [List.take_of_length_le (by omega), List.take_of_length_le (by omega), List.getElem?_eq_none (by omega)]; simp

theorem Digs.set {B : Nat} {l : List Nat} (h : Digs B l) (i x : Nat) (hx : x < B) : Digs B (l.set i x) := fun y hy => by
  rcases List.mem_or_eq_of_mem_set hy with hy | rfl
  · exact h y hy
  · exact hx

theorem take_set (l : List Nat) (k x : Nat) : (l.set k x).take k = l.take k := by
  rw [List.take_set_of_le (Nat.le_refl _)]

end Go.Proofs.Ytlkdahgfnfdakaa.WN

namespace Go.Proofs.Ytlkdahgfnfdakaa
open Go.RowKit

theorem u32_eq {a b : Int} (h : a = b) : Value.int .u32 a = Value.int .u32 b := by rw [h]
theorem i64_eq {a b : Int} (h : a = b) : Value.int .i64 a = Value.int .i64 b := by rw [h]
theorem u64_eq {a b : Int} (h : a = b) : Value.int .u64 a = Value.int .u64 b := by rw [h]
theorem u8_eq {a b : Int} (h : a = b) : Value.int .u8 a = Value.int .u8 b := by rw [h]

/-- cells of numbers -/
def ns (k : IntKind) (l : List Nat) : Array Value := (l.map fun (x : Nat) => Value.int k (x : Int)).toArray
theorem ns_size (k : IntKind) (l : List Nat) : (ns k l).size = l.length := by simp [ns]
theorem ns_get (k : IntKind) (l : List Nat) (i : Nat) : (ns k l)[i]? = (l[i]?).map fun (x : Nat) => Value.int k (x : Int) := by simp [ns]
theorem ns_set (k : IntKind) (l : List Nat) (i x : Nat) : (ns k l).setIfInBounds i (.int k (x : Int)) = ns k (l.set i x) := by
  apply Array.ext_getElem?
  intro j
  rw [Array.getElem?_setIfInBounds, ns_get, ns_size]
  by_cases h : i = j
  · subst h
    by_cases hi : i < l.length
    · simp [hi, ns_get]
    · simp [hi, ns_get]
  · simp [h, ns_get]
theorem ns_zeros (k : IntKind) (n : Nat) : madeCells #[Value.int k 0] n = ns k (List.replicate n 0) := by
  apply Array.toList_inj.1
  rw [toList_madeCells_one]; simp [ns]
theorem ns_snoc (k : IntKind) (l : List Nat) (x : Nat) : (ns k l).push (.int k (x : Int)) = ns k (l ++ [x]) := by simp [ns]

/-- block g holds the numbers l -/
def Row (w : World) (g : Nat) (k : IntKind) (t : TypeId) (l : List Nat) : Prop := w.heap[g]? = some (.cells (ns k l) t (0, 0))

theorem Row.new (w : World) (k : IntKind) (t : TypeId) (l : List Nat) : Row (w.alloc (.cells (ns k l) t)) w.heap.size k t l := heap_alloc_new w _
theorem Row.lt {w : World} {g : Nat} {k : IntKind} {t : TypeId} {l : List Nat} (h : Row w g k t l) : g < w.heap.size := lt_of_block h
theorem Row.cell {w : World} {g : Nat} {k : IntKind} {t : TypeId} {l : List Nat} (h : Row w g k t l) (i : Nat) (hi : i < l.length) : w.cell? ⟨g, i, none⟩ = some (.int k (l[i]'hi : Nat)) := by
  rw [cell_of_row w g i _ _ _ h, ns_get]; simp [hi]
theorem Row.free {w : World} {g : Nat} {k : IntKind} {t : TypeId} {l : List Nat} (h : Row w g k t l) (i : Nat) : w.frozen? ⟨g, i, none⟩ = false := frozen_of_row w g i _ _ h
theorem Row.set {w : World} {g : Nat} {k : IntKind} {t : TypeId} {l : List Nat} (h : Row w g k t l) (i x : Nat) : Row (w.setCell ⟨g, i, none⟩ (.int k (x : Int))) g k t (l.set i x) := by
  unfold Row
  rw [heap_setCell_same w g i _ t _ h, ns_set]
theorem Row.alloc {w : World} {g : Nat} {k : IntKind} {t : TypeId} {l : List Nat} (h : Row w g k t l) (o : Obj) : Row (w.alloc o) g k t l := (heap_alloc_old w o h.lt).trans h
theorem Row.drew {w : World} {g : Nat} {k : IntKind} {t : TypeId} {l : List Nat} (h : Row w g k t l) : Row w.drew g k t l := h
theorem Row.other {w : World} {g : Nat} {k : IntKind} {t : TypeId} {l : List Nat} (h : Row w g k t l) (a : Addr) (v : Value) (ha : g ≠ a.block) : Row (w.setCell a v) g k t l :=
  (heap_setCell_other w a g v ha).trans h
theorem Row.below {w w' : World} {g : Nat} {k : IntKind} {t : TypeId} {l : List Nat} (h : Row w g k t l) {B : Nat} (hb : Below B w w') (hg : g < B) : Row w' g k t l := (hb.block g hg).trans h

/-- v is a slice that holds the numbers l -/
def Rep (w : World) (k : IntKind) (v : Value) (l : List Nat) : Prop :=
  ∃ oa cap, v = .slice oa l.length cap ∧ l.length ≤ cap ∧ ∀ i, (hi : i < l.length) → ∃ b off, oa = some ⟨b, off, none⟩ ∧ w.cell? ⟨b, off + i, none⟩ = some (.int k (l[i]'hi : Nat))

theorem Rep.nil (w : World) (k : IntKind) : Rep w k (.slice none 0 0) [] := ⟨none, 0, rfl, by simp, fun i hi => by simp at hi⟩
theorem Rep.mk {w : World} {k : IntKind} {l : List Nat} {b off cap : Nat} (hc : l.length ≤ cap) (h : ∀ i, (hi : i < l.length) → w.cell? ⟨b, off + i, none⟩ = some (.int k (l[i]'hi : Nat))) :
    Rep w k (.slice (some ⟨b, off, none⟩) l.length cap) l := ⟨_, _, rfl, hc, fun i hi => ⟨b, off, rfl, h i hi⟩⟩
theorem Rep.row {w : World} {g : Nat} {k : IntKind} {t : TypeId} {l : List Nat} (h : Row w g k t l) (n cap : Nat) (hn : n ≤ l.length) (hc : n ≤ cap) : Rep w k (.slice (some ⟨g, 0, none⟩) n cap) (l.take n) := by
  have e : (l.take n).length = n := by simp; omega
  refine ⟨_, _, by rw [e], by rw [e]; exact hc, fun i hi => ⟨g, 0, rfl, ?_⟩⟩
  rw [Nat.zero_add, h.cell i (by omega)]; simp
theorem Rep.rowAll {w : World} {g : Nat} {k : IntKind} {t : TypeId} {l : List Nat} (h : Row w g k t l) (cap : Nat) (hc : l.length ≤ cap) : Rep w k (.slice (some ⟨g, 0, none⟩) l.length cap) l := by
  have := Rep.row h l.length cap (Nat.le_refl _) hc
  rwa [List.take_length] at this
theorem Rep.lt {w : World} {k : IntKind} {oa : Option Addr} {n cap : Nat} {l : List Nat} (h : Rep w k (.slice oa n cap) l) (i : Nat) (hi : i < l.length) : ∃ b off, oa = some ⟨b, off, none⟩ ∧ b < w.heap.size := by
  obtain ⟨oa', cap', he, hc, hcell⟩ := h
  cases he
  obtain ⟨b, off, rfl, hcl⟩ := hcell i hi
  exact ⟨b, off, rfl, block_lt_of_cell hcl⟩
theorem Rep.below {w w' : World} {k : IntKind} {v : Value} {l : List Nat} (h : Rep w k v l) {B : Nat} (hb : Below B w w') (hB : w.heap.size ≤ B) : Rep w' k v l := by
  obtain ⟨oa, cap, rfl, hc, hcell⟩ := h
  refine ⟨oa, cap, rfl, hc, fun i hi => ?_⟩
  obtain ⟨b, off, rfl, hcl⟩ := hcell i hi
  exact ⟨b, off, rfl, (hb.cell (p := ⟨b, off + i, none⟩) (Nat.lt_of_lt_of_le (block_lt_of_cell hcl) hB)).trans hcl⟩

theorem Try.info117 : (Try.prog.info? 117).map (fun i => (i.zero, i.size, i.bytes)) = some (some (.int .u32 0), 1, 4) := by kernel_rfl
theorem Try.info3 : (Try.prog.info? 3).map (fun i => (i.zero, i.size, i.bytes)) = some (some (.int .i64 0), 1, 8) := by kernel_rfl
theorem Try.info5 : (Try.prog.info? 5).map (fun i => (i.zero, i.size, i.bytes)) = some (some (.int .u8 0), 1, 1) := by kernel_rfl

theorem quo_u64 (P b : Int) (h0 : 0 ≤ P) (hb : 0 < b) (hP : P ≤ 9000000000000000000) (w : World) :
    (Op.intDiv .quo .u64 P b).run Try.prog w = .ok (.int .u64 (P / b)) w := by
  have hne : ¬ b = 0 := by omega
  have hq : P.tdiv b = P / b := Int.tdiv_eq_ediv_of_nonneg h0
  have h1 : P / b ≤ P := Int.ediv_le_self b h0
  have h2 : 0 ≤ P / b := Int.ediv_nonneg h0 (by omega)
  have hw : IntKind.u64.wrap (P / b) = P / b := IntWalk.u64_in _ ⟨h2, by omega⟩
  simp [Op.intDiv, go_sem, hne, hq, hw]
theorem rem_u64 (P b : Int) (h0 : 0 ≤ P) (hb : 0 < b) (hP : P ≤ 9000000000000000000) (w : World) :
    (Op.intDiv .rem .u64 P b).run Try.prog w = .ok (.int .u64 (P % b)) w := by
  have hne : ¬ b = 0 := by omega
  have hq : P.tmod b = P % b := Int.tmod_eq_emod_of_nonneg h0
  have h1 : P % b < b := Int.emod_lt_of_pos _ hb
  have h2 : 0 ≤ P % b := Int.emod_nonneg _ (by omega)
  have h3 : P % b ≤ P := by
    have := Int.emod_add_mul_ediv P b
    have h4 : 0 ≤ b * (P / b) := Int.mul_nonneg (by omega) (Int.ediv_nonneg h0 (by omega))
    omega
  have hw : IntKind.u64.wrap (P % b) = P % b := IntWalk.u64_in _ ⟨h2, by omega⟩
  simp [Op.intDiv, go_sem, hne, hq, hw]

/-- make of words -/
theorem make_words (w : World) (l c : Int) (h0 : 0 ≤ l) (hlc : l ≤ c) (hc : c ≤ 1000000000000) :
    (Instr.makeSlice 53 (.int .i64 l) (.int .i64 c)).run Try.prog w = .ok (.slice (some ⟨w.heap.size, 0, none⟩) l.toNat c.toNat) (w.alloc (.cells (ns .u32 (List.replicate c.toNat 0)) 117)) := by
  obtain ⟨i0, hi, hz0, hz1, hz2⟩ := info_parts Try.info117
  rw [run_make w 53 117 i0 _ Try.underlying53 hi hz0 .i64 .i64 l c h0 hlc (by rw [hz2]; omega) (by omega), hz1, Nat.mul_one]
  show Result.ok _ (w.alloc (.cells (madeCells #[Value.int .u32 0] c.toNat) 117)) = _
  rw [ns_zeros]

/-- make of ints -/
theorem make_ints (w : World) (l c : Int) (h0 : 0 ≤ l) (hlc : l ≤ c) (hc : c ≤ 1000000000000) :
    (Instr.makeSlice 58 (.int .i64 l) (.int .i64 c)).run Try.prog w = .ok (.slice (some ⟨w.heap.size, 0, none⟩) l.toNat c.toNat) (w.alloc (.cells (ns .i64 (List.replicate c.toNat 0)) 3)) := by
  obtain ⟨i0, hi, hz0, hz1, hz2⟩ := info_parts Try.info3
  rw [run_make w 58 3 i0 _ Try.underlying58 hi hz0 .i64 .i64 l c h0 hlc (by rw [hz2]; omega) (by omega), hz1, Nat.mul_one]
  show Result.ok _ (w.alloc (.cells (madeCells #[Value.int .i64 0] c.toNat) 3)) = _
  rw [ns_zeros]

/-- a row of numbers, as the laws of append say it -/
def nl (k : IntKind) (l : List Nat) : List Value := l.map fun (x : Nat) => Value.int k (x : Int)
theorem ns_toList (k : IntKind) (l : List Nat) : (ns k l).toList = nl k l := by simp [ns, nl]
theorem nl_append (k : IntKind) (l m : List Nat) : nl k (l ++ m) = nl k l ++ nl k m := by simp [nl]
theorem nl_length (k : IntKind) (l : List Nat) : (nl k l).length = l.length := by simp [nl]
theorem nl_take (k : IntKind) (l : List Nat) (n : Nat) : nl k (l.take n) = (nl k l).take n := by simp [nl]
theorem Row.own {w : World} {g : Nat} {k : IntKind} {t : TypeId} {l : List Nat} (h : Row w g k t l) {base : Nat} (hb : base ≤ g) (n : Nat) (hn : n ≤ l.length) (hm : l.length ≤ maxLen) :
    w.ownsRow base t 1 (.slice (some ⟨g, 0, none⟩) n l.length) n (nl k (l.take n)) :=
  ⟨by rw [nl_length, List.length_take]; omega, .inr ⟨g, l.length, ns k l, rfl, hb, h, hn, hm, by rw [ns_size]; omega, by rw [ns_toList, nl_take, Nat.mul_one]⟩⟩
theorem Rep.own {w : World} {base : Nat} {t : TypeId} {v : Value} {n : Nat} {k : IntKind} {l : List Nat} (h : w.ownsRow base t 1 v n (nl k l)) : Rep w k v l := by
  have hl := h.1
  rw [nl_length, Nat.mul_one] at hl
  subst hl
  rcases h.2 with ⟨rfl, h0⟩ | ⟨g, cap, cur, rfl, _, hg, hc, _, hs, ht⟩
  · have : l = [] := List.eq_nil_of_length_eq_zero h0
    subst this; exact Rep.nil w k
  · refine Rep.mk hc fun i hi => ?_
    rw [Nat.zero_add, cell_of_row w g i _ _ _ hg, ← Array.getElem?_toList]
    have : (nl k l)[i]? = some (.int k (l[i] : Nat)) := by simp [nl, hi]
    rw [← this, ← ht, List.getElem?_take, if_pos (by omega)]

end Go.Proofs.Ytlkdahgfnfdakaa

namespace Go.Proofs.Ytlkdahgfnfdakaa
open Go.RowKit Go.Shelf
attribute [local go_sem] Oper.semAt_some

/-- What the loop's own records turn: nothing below B, no cells, nothing of the streams. -/
structure Turn (B : Nat) (W W' : World) : Prop where
  below : Below B W W'
  cells : ∀ (i : Nat) (cs : Array Value) (t : TypeId) (fr : Nat × Nat), W.heap[i]? = some (.cells cs t fr) → W'.heap[i]? = some (.cells cs t fr)

theorem Turn.trans {B : Nat} {X Y Z : World} (h : Turn B X Y) (k : Turn B Y Z) : Turn B X Z := ⟨h.below.trans k.below, fun i cs t fr hi => k.cells i cs t fr (h.cells i cs t fr hi)⟩
theorem Turn.alloc {B : Nat} (W : World) (hB : B ≤ W.heap.size) (o : Obj) : Turn B W (W.alloc o) :=
  ⟨(Below.refl B W).alloc hB o, fun i _ _ _ hi => (heap_alloc_old W o (lt_of_block hi)).trans hi⟩
theorem Turn.put {B : Nat} {W : World} {l : Nat} {o : Obj} (o' : Obj) (hl : B ≤ l) (h : W.heap[l]? = some o) (ho : o.isCells = false) : Turn B W (W.putObj l o') := by
  have hlt : l < W.heap.size := lt_of_block h
  refine ⟨(Below.refl B W).grown (grownBy_putObj' W l o') (by omega) (fun k e => by cases e; exact hl), fun i cs t fr hi => ?_⟩
  rw [World.putObj_heap_other (fun e => by subst e; rw [h] at hi; cases hi; cases ho)]; exact hi
theorem Turn.cell {B : Nat} {W W' : World} (h : Turn B W W') {a : Addr} {v : Value} (hc : W.cell? a = some v) : W'.cell? a = some v := by
  unfold World.cell? at hc ⊢
  cases ho : W.heap[a.block]? with
  | none => simp [ho] at hc
  | some o =>
    cases o with
    | cells cs t fr => rw [h.cells _ _ _ _ ho]; simpa [ho] using hc
    | _ => simp [ho] at hc
theorem Row.turn {B : Nat} {W W' : World} (h : Turn B W W') {g : Nat} {k : IntKind} {t : TypeId} {l : List Nat} (hr : Row W g k t l) : Row W' g k t l := h.cells _ _ _ _ hr
theorem Rep.turn {B : Nat} {W W' : World} (h : Turn B W W') {k : IntKind} {v : Value} {l : List Nat} (hr : Rep W k v l) : Rep W' k v l := by
  obtain ⟨oa, cap, rfl, hc, hcell⟩ := hr
  refine ⟨oa, cap, rfl, hc, fun i hi => ?_⟩
  obtain ⟨b, off, rfl, hcl⟩ := hcell i hi
  exact ⟨b, off, rfl, h.cell hcl⟩

set_option maxHeartbeats 1000000 in
theorem down_any (oa : Option Addr) (n c : Nat) (w : World) :
    Calls Try.prog 129 #[.slice oa n c] w fun e w' => e = .returned (.func (.func 136) #[] #[.pointer (some ⟨w.heap.size, 0, none⟩)]) ∧ w' = w.alloc (.cells #[.slice oa n c] 53) := by
  go_enter Try.func129, Try.ntmps129
  go_wp2
  go_ret
  exact ⟨rfl, rfl⟩

/-- what the iterator reads when k rounds are over -/
def Reads (D : Nat) (oa : Option Addr) (len cap : Nat) (k : Nat) (W : World) : Prop :=
  W.cell? ⟨D, 0, none⟩ = some (.slice oa len cap) ∧ (k < len → ∃ (b off : Nat) (x : Int), oa = some ⟨b, off, none⟩ ∧ W.cell? ⟨b, off + (len - 1 - k), none⟩ = some (.int .u32 x))

set_option maxRecDepth 100000 in
set_option maxHeartbeats 1000000 in
theorem down1_in (n : Nat) (l D : Nat) (oa : Option Addr) (len cap : Nat) (hlen : len ≤ 1000000000000) (J : Nat → World → Prop) (Jx : World → Prop)
    (hRd : ∀ k W, J k W → Reads D oa len cap k W)
    (hY : ∀ k (b off : Nat) (x : Int) W, J k W → k < len → oa = some ⟨b, off, none⟩ → W.cell? ⟨b, off + (len - 1 - k), none⟩ = some (.int .u32 x) →
      YieldAt Fence.wide (n - 1) Try.prog l #[.int .i64 ((len - 1 - k : Nat) : Int), .int .u32 x] W fun e W' => (e = .returned (.bool true) ∧ J (k + 1) W') ∨ (e = .returned (.bool false) ∧ Jx W'))
    (W : World) (h0 : J 0 W) :
    CallsIn Fence.wide n Try.prog 136 #[.func (.yield l) #[] #[], .pointer (some ⟨D, 0, none⟩)] W fun e W' => (∃ v, e = .returned v) ∧ (J len W' ∨ Jx W') := by
  refine callsIn_of_wp Try.func136 rfl trivial ?_ rfl
  simp only [Try.ntmps136, List.size_toArray, List.length_cons, List.length_nil, Nat.reduceAdd, Nat.reduceSub, Array.replicate_succ, Array.replicate_zero, List.push_toArray, List.append_toArray, List.nil_append, List.cons_append]
  have hb0 := (hRd 0 W h0).1
  gi_wp2
  clear hb0
  gi_loopw [3] (fun p wr => ∃ k : Nat, k ≤ len ∧ p = .int .i64 ((len : Int) - 1 - k) ∧ J k wr) (fun p wr => (intOf p + 1).toNat)
  case atStart => exact ⟨0, Nat.zero_le _, by congr 1; omega, h0⟩
  case round =>
    obtain ⟨k, hk, rfl, hJ⟩ := hrel
    obtain ⟨hb, hr⟩ := hRd k wr hJ
    by_cases hlt : k < len
    · obtain ⟨b, off, x, rfl, hc⟩ := hr hlt
      obtain ⟨fn, tmps, assign, body, hy, hR⟩ := hY k b off x wr hJ hlt rfl hc
      have e1 : ((len - 1 - k : Nat) : Int) = (len : Int) - 1 - k := by omega
      rw [e1] at hy
      clear e1 hr
      gi_wp2
      refine ⟨fun h => by simp [Fence.wide] at h, hR.mono ?_⟩
      rintro e W3 (⟨rfl, hJ3⟩ | ⟨rfl, hJx3⟩)
      · gi_wp2
        go_roundw
        case rel => exact ⟨k + 1, hlt, i64_eq (by omega), hJ3⟩
        case measure => simp [intOf]; omega
      · gi_wp2
        refine bodyPost_ret (results_none rfl _ _ _) rfl ?_
        exact ⟨⟨_, rfl⟩, .inr hJx3⟩
    · gi_wp2
      go_end0
      obtain rfl : k = len := by omega
      exact ⟨⟨_, rfl⟩, .inl hJ⟩
/-- A region without 'defer' is walked in a round as elsewhere. -/
theorem op_round {F : Fence} {n : Nat} {P : Program} {ops : Array Oper} {Q : Exit → Act → World → Prop} (l : Nat) (hro : F.round = none) (hnd : ops.toList.all (fun o => match o.op with | .defer _ => false | _ => true) = true)
    {K K' : Act → World → Prop} (hK : ∀ a w, K a w → K' a w) (i : Nat) (a : Act) (w : World) (h : wpOpIn F n P ops Q i K a w) : wpOpIn (F.inRound l) n P ops Q i K' a w := by
  have h := wpOpIn_mono hK h
  unfold wpOpIn at *
  cases ho : ops[i]? with
  | none => simpa [ho] using h
  | some o =>
    have hd : ∀ c, o.op ≠ .defer c := fun c hc => by
      have hm : o ∈ ops.toList := Array.mem_toList_iff.2 (Array.mem_of_getElem? ho)
      have := List.all_eq_true.1 hnd o hm
      simp [hc] at this
    simp only [ho] at h ⊢
    split
    · rename_i hw
      simp only [hw, if_true] at h
      unfold Oper.wpIn at *
      rw [Oper.semAt_eq _ _ _ hd] at h ⊢
      exact h
    · rename_i hw
      simp only [hw] at h
      exact h
theorem any_round {F : Fence} {n : Nat} {P : Program} {ops : Array Oper} {Q : Exit → Act → World → Prop} {md : Region.Mode} (l : Nat) (hro : F.round = none)
    (hnd : ops.toList.all (fun o => match o.op with | .defer _ => false | _ => true) = true) : ∀ (fuel : Nat) (listed : Array Bool) (a : Act) (w : World),
    wpAnyIn F n P md ops Q fuel listed a w → wpAnyIn (F.inRound l) n P md ops Q fuel listed a w
  | 0, _, _, _, h => h
  | fuel + 1, listed, a, w, h => ⟨h.1, fun i hi => op_round l hro hnd (fun a w => any_round l hro hnd fuel _ a w) i a w (h.2 i hi)⟩
theorem region_round {F : Fence} {n : Nat} {P : Program} {ops : Array Oper} {Q : Exit → Act → World → Prop} (l : Nat) (hro : F.round = none) (hm : P.follows .mixedOrders = true)
    (hnd : ops.toList.all (fun o => match o.op with | .defer _ => false | _ => true) = true) {id : Nat} {a : Act} {w : World}
    (h : wpAnyIn F n P .any ops Q ops.size (Array.replicate ops.size false) a w.drew) : (Code.region id ops true).wpIn (F.inRound l) n P Q a w :=
  wpIn_region_any hm (any_round l hro hnd _ _ _ _ h)

/-- it goes on -/
def OnlyNormal (R : Act → World → Prop) : Exit → Act → World → Prop
  | .normal, a, w => R a w
  | _, _, _ => False
theorem OnlyNormal.elim {R : Act → World → Prop} {Q : Exit → Act → World → Prop} (h : ∀ a w, R a w → Q .normal a w) : ∀ e a w, OnlyNormal R e a w → Q e a w := fun e a w he => by
  cases e <;> first | exact h a w he | exact False.elim he

/-- how a round may be left -/
def DownPost (I : Nat → World → Prop) (Ix : Code → World → Prop) (k : Nat) (W : World) : Exit → Act → World → Prop
  | .normal, _, W' => KeepsOthers W W' ∧ I (k + 1) W'
  | .ret, _, W' => KeepsOthers W W' ∧ Ix .ret W'
  | .exit id, _, W' => KeepsOthers W W' ∧ Ix (.exit id) W'
  | .goto t, _, W' => KeepsOthers W W' ∧ Ix (.goto t) W'
  | .panic _, _, _ => False
  | .outgrown, _, _ => False

theorem run_toRecord {W : World} {l : Nat} {r : Loop} (j : Option Code) (h : W.heap[l]? = some (.loop r)) :
    (Instr.endRound l j).run Try.prog W = .ok (.bool j.isNone) (W.putObj l (.loop { r with state := if j.isNone then .ready else .done, pending := j })) := run_endRound j h

/-- THE LOOP OVER 'a.down()': I k: what holds when k rounds are over. -/
theorem wpIn_down (n : Nat) {g : Operand} {ps : Array Tmp} {assign body : Code} {Q : Exit → Act → World → Prop} {a : Act} {w : World}
    (D : Nat) (oa : Option Addr) (len cap : Nat) (hlen : len ≤ 1000000000000)
    (hg : a.eval g = .func (.func 136) #[] #[.pointer (some ⟨D, 0, none⟩)]) (hps : ps.size = 2)
    (I : Nat → World → Prop) (Ix : Code → World → Prop)
    (hI : ∀ k W W', I k W → Turn w.heap.size W W' → I k W') (hIx : ∀ c W W', Ix c W → Turn w.heap.size W W' → Ix c W')
    (hRd : ∀ k W, I k W → Reads D oa len cap k W) (h0 : I 0 w) (a₁ : Nat → Int → Act)
    (hassign : ∀ l k x W (K : Act → World → Prop), K (a₁ k x) W →
      assign.wpIn (Fence.wide.inRound l) (n - 1 - 1) Try.prog (Exit.then K (fun _ _ _ => False)) { tmps := (ps.zip #[.int .i64 ((len - 1 - k : Nat) : Int), .int .u32 x]).foldl (fun t (p, v) => t.setIfInBounds p v) a.tmps, defers := [] } W)
    (hbody : ∀ l k b off x W, I k W → k < len → oa = some ⟨b, off, none⟩ → W.cell? ⟨b, off + (len - 1 - k), none⟩ = some (.int .u32 x) →
      body.wpIn (Fence.wide.inRound l) (n - 1 - 1) Try.prog (DownPost I Ix k W) (a₁ k x) W)
    (hdone : ∀ E W, w.heap.size ≤ E → I len W → W.heap[E]? = some (.deferred (some [])) → Q .normal { a with defers := { target := .collected E, args := #[] } :: a.defers } W)
    (hstop : ∀ E c W, w.heap.size ≤ E → Ix c W → W.heap[E]? = some (.deferred (some [])) → c.wpIn Fence.wide n Try.prog Q { a with defers := { target := .collected E, args := #[] } :: a.defers } W) :
    (Code.rangeFunc g ps assign body).wpIn Fence.wide n Try.prog Q a w := by
  refine wpIn_rangeFunc fun fn _ => ?_
  let rc : LoopState → Option Code → Loop := fun st pe => { state := st, pending := pe, fn := fn, tmps := a.tmps, params := ps, assign := assign, body := body, defers := w.heap.size }
  obtain ⟨L, hL⟩ : ∃ L, L = w.heap.size + 1 := ⟨_, rfl⟩
  obtain ⟨V, hV⟩ : ∃ V, V = (w.alloc (.deferred (some []))).alloc (.loop (rc .ready none)) := ⟨_, rfl⟩
  have tV : Turn w.heap.size w V := by
    rw [hV]; exact (Turn.alloc w (Nat.le_refl _) _).trans (Turn.alloc _ (by simp) _)
  have lV : V.heap[L]? = some (.loop (rc .ready none)) := by
    rw [hV, hL]; have := heap_alloc_new (w.alloc (.deferred (some []))) (.loop (rc .ready none)); rwa [World.size_alloc] at this
  have dV : V.heap[w.heap.size]? = some (.deferred (some [])) := by
    rw [hV]; exact (Below.heap_alloc _ _ _ (by simp)).trans (heap_alloc_new w _)
  -- the state of the loop's record, between two rounds
  let J : Nat → World → Prop := fun k W => I k W ∧ W.heap[L]? = some (.loop (rc .ready none)) ∧ W.heap[w.heap.size]? = some (.deferred (some []))
  let Jx : World → Prop := fun W => ∃ c, Ix c W ∧ W.heap[L]? = some (.loop (rc .done (some c))) ∧ W.heap[w.heap.size]? = some (.deferred (some []))
  refine ⟨L, [{ target := .collected w.heap.size, args := #[] }], V, { target := .fn (.func 136) #[.pointer (some ⟨D, 0, none⟩)], args := #[.func (.yield L) #[] #[]] }, V, 136,
    #[.func (.yield L) #[] #[]] ++ #[.pointer (some ⟨D, 0, none⟩)], V, ?_, ?_, ?_, ?_, fun _ => by simp_all [Fence.wide], ?_⟩
  · rw [hV, hL]; exact run_enterLoop_outer _ _ _ _ _
  · simp only [resolve, hg]; simp [go_sem]
  · intro _ _; trivial
  · have eg := enters_of (P := Try.prog) Try.func136 (by kernel_rfl) rfl
    simp [invoke, go_sem, eg]
  · refine (down1_in (n - 1) L D oa len cap hlen J Jx (fun k W h => hRd k W h.1) ?_ V ⟨hI _ _ _ h0 tV, lV, dV⟩).mono ?_
    · rintro k b off x W ⟨hi, hl, hd⟩ hk hoa hc
      have hLlt := lt_of_block hl
      have hy := run_yield (P := Try.prog) (args := #[.int .i64 ((len - 1 - k : Nat) : Int), .int .u32 x]) hl (by simp [rc, hps])
      refine ⟨fn, _, assign, body, hy, roundIn_of_wpIn trivial (hassign L k x W _ ⟨_, run_beginRound hl rfl, ?_⟩)⟩
      have t2 : Turn w.heap.size W (W.putObj L (.loop { rc .ready none with state := .busy })) := Turn.put _ (by omega) hl rfl
      have l2 : (W.putObj L (.loop { rc .ready none with state := .busy })).heap[L]? = some (.loop { rc .ready none with state := .busy }) := World.putObj_heap_same hLlt
      have d2 : (W.putObj L (.loop { rc .ready none with state := .busy })).heap[w.heap.size]? = some (.deferred (some [])) := (World.putObj_heap_other (by omega)).trans hd
      generalize W.putObj L (.loop { rc .ready none with state := .busy }) = W2 at *
      refine wpIn_mono (hbody L k b off x W2 (hI _ _ _ hi t2) hk hoa (t2.cell hc)) ?_
      have fin : ∀ (j : Option Code) (W3 : World), KeepsOthers W2 W3 → ∃ W4, (Instr.endRound L j).run Try.prog W3 = .ok (.bool j.isNone) W4 ∧ Turn w.heap.size W3 W4 ∧
          W4.heap[L]? = some (.loop (rc (if j.isNone then .ready else .done) j)) ∧ W4.heap[w.heap.size]? = some (.deferred (some [])) := fun j W3 h3 => by
        have l3 := h3.same _ _ l2 rfl
        exact ⟨_, run_endRound j l3, Turn.put _ (by omega) l3 rfl, World.putObj_heap_same (lt_of_block l3), (World.putObj_heap_other (by omega)).trans (h3.same _ _ d2 rfl)⟩
      rintro e a3 W3 hp
      cases e with
      | normal =>
        obtain ⟨h3, hi3⟩ := hp
        obtain ⟨W4, r4, t4, l4, d4⟩ := fin none W3 h3
        exact ⟨_, _, r4, .inl ⟨rfl, hI _ _ _ hi3 t4, l4, d4⟩⟩
      | ret =>
        obtain ⟨h3, hi3⟩ := hp
        obtain ⟨W4, r4, t4, l4, d4⟩ := fin (some .ret) W3 h3
        exact ⟨_, _, r4, .inr ⟨rfl, .ret, hIx _ _ _ hi3 t4, l4, d4⟩⟩
      | exit id =>
        obtain ⟨h3, hi3⟩ := hp
        obtain ⟨W4, r4, t4, l4, d4⟩ := fin (some (.exit id)) W3 h3
        exact ⟨_, _, r4, .inr ⟨rfl, .exit id, hIx _ _ _ hi3 t4, l4, d4⟩⟩
      | goto t =>
        obtain ⟨h3, hi3⟩ := hp
        obtain ⟨W4, r4, t4, l4, d4⟩ := fin (some (.goto t)) W3 h3
        exact ⟨_, _, r4, .inr ⟨rfl, .goto t, hIx _ _ _ hi3 t4, l4, d4⟩⟩
      | panic ch => exact hp.elim
      | outgrown => exact hp.elim
    · rintro e W2 ⟨⟨v, rfl⟩, (⟨hi, hl, hd⟩ | ⟨c, hi, hl, hd⟩)⟩
      · have t4 : Turn w.heap.size W2 (W2.putObj L (.loop { rc .ready none with state := .exhausted })) := Turn.put _ (by omega) hl rfl
        exact ⟨none, _, run_endLoop hl (by simp [rc]), hdone _ _ (Nat.le_refl _) (hI _ _ _ hi t4) ((World.putObj_heap_other (by omega)).trans hd)⟩
      · have t4 : Turn w.heap.size W2 (W2.putObj L (.loop { rc .done (some c) with state := .exhausted })) := Turn.put _ (by omega) hl rfl
        exact ⟨some c, _, run_endLoop hl (by simp [rc]), hstop _ c _ (Nat.le_refl _) (hIx _ _ _ hi t4) ((World.putObj_heap_other (by omega)).trans hd)⟩

theorem alloc_at (w : World) (o : Obj) (n : Nat) (h : n = w.heap.size) : (w.alloc o).heap[n]? = some o := by subst h; exact heap_alloc_new w o
theorem alloc_lt (w : World) (o : Obj) (n : Nat) (h : n < w.heap.size) : (w.alloc o).heap[n]? = w.heap[n]? := heap_alloc_old w o h
/-- a variable's own block -/
def Box (W : World) (B t : Nat) (v : Value) : Prop := W.heap[B]? = some (.cells #[v] t (0, 0))
theorem Box.new (w : World) (t : Nat) (v : Value) : Box (w.alloc (.cells #[v] t)) w.heap.size t v := heap_alloc_new w _
theorem Box.cell {W : World} {B t : Nat} {v : Value} (h : Box W B t v) : W.cell? ⟨B, 0, none⟩ = some v := cell_of_one h
theorem Box.free {W : World} {B t : Nat} {v : Value} (h : Box W B t v) : W.frozen? ⟨B, 0, none⟩ = false := free_of_one h
theorem Box.lt {W : World} {B t : Nat} {v : Value} (h : Box W B t v) : B < W.heap.size := lt_of_block h
theorem Box.alloc {W : World} {B t : Nat} {v : Value} (h : Box W B t v) (o : Obj) : Box (W.alloc o) B t v := (heap_alloc_old W o (lt_of_block h)).trans h
theorem Box.turn {C : Nat} {W W' : World} {B t : Nat} {v : Value} (h : Box W B t v) (k : Turn C W W') : Box W' B t v := k.cells _ _ _ _ h
theorem Box.set {W : World} {B t : Nat} {v : Value} (h : Box W B t v) (u : Value) : Box (W.setCell ⟨B, 0, none⟩ u) B t u := one_setCell h
theorem Box.other {W : World} {B t : Nat} {v : Value} (h : Box W B t v) (a : Addr) (u : Value) (ha : B ≠ a.block) : Box (W.setCell a u) B t v := (heap_setCell_other W a B u ha).trans h
theorem Box.below {C : Nat} {W W' : World} {B t : Nat} {v : Value} (h : Box W B t v) (k : Below C W W') (hB : B < C) : Box W' B t v := (k.block B hB).trans h

theorem Rep.take {w : World} {k : IntKind} {oa : Option Addr} {cap : Nat} {l : List Nat} (h : Rep w k (.slice oa l.length cap) l) (n : Nat) (hn : n ≤ l.length) : Rep w k (.slice oa n cap) (l.take n) := by
  obtain ⟨oa', cap', he, hc, hcell⟩ := h
  cases he
  have e : (l.take n).length = n := by simp; omega
  refine ⟨oa, cap, by rw [e], by rw [e]; omega, fun i hi => ?_⟩
  obtain ⟨b, off, rfl, hcl⟩ := hcell i (by omega)
  exact ⟨b, off, rfl, by rw [hcl]; simp⟩

theorem Rep.at' {w wr : World} {k : IntKind} {oa : Option Addr} {n cap : Nat} {l : List Nat} (h : Rep w k (.slice oa n cap) l) (hb : Below w.heap.size w wr) (i : Nat) (hi : i < l.length) :
    ∃ b off, oa = some ⟨b, off, none⟩ ∧ b < w.heap.size ∧ wr.cell? ⟨b, off + i, none⟩ = some (.int k (l[i]'hi : Nat)) := by
  obtain ⟨oa', cap', he, hc, hcell⟩ := h
  cases he
  obtain ⟨b, off, rfl, hcl⟩ := hcell i hi
  exact ⟨b, off, rfl, block_lt_of_cell hcl, (hb.cell (p := ⟨b, off + i, none⟩) (block_lt_of_cell hcl)).trans hcl⟩
theorem Rep.len {w : World} {k : IntKind} {oa : Option Addr} {n cap : Nat} {l : List Nat} (h : Rep w k (.slice oa n cap) l) : l.length = n ∧ n ≤ cap := by
  obtain ⟨oa', cap', he, hc, hcell⟩ := h
  cases he
  exact ⟨rfl, hc⟩
/-- the iterator's reading, of a slice that lay ahead of the loop -/
theorem Rep.reads {w W : World} {D : Nat} {oa : Option Addr} {n cap : Nat} {l : List Nat} (h : Rep w .u32 (.slice oa n cap) l) (hb : Below w.heap.size w W) (hD : Box W D 53 (.slice oa n cap)) (k : Nat) : Reads D oa n cap k W := by
  obtain ⟨rfl, _⟩ := h.len
  refine ⟨hD.cell, fun hk => ?_⟩
  obtain ⟨b, off, rfl, _, hc⟩ := h.at' hb (l.length - 1 - k) (by omega)
  exact ⟨b, off, _, rfl, hc⟩
/-- what the iterator hands over is the list's number -/
theorem Rep.word {w W : World} {oa : Option Addr} {n cap : Nat} {l : List Nat} (h : Rep w .u32 (.slice oa n cap) l) (hb : Below w.heap.size w W) {k b off : Nat} {x : Int} (hk : k < n) (hoa : oa = some ⟨b, off, none⟩)
    (hx : W.cell? ⟨b, off + (n - 1 - k), none⟩ = some (.int .u32 x)) : ∃ y, l[n - 1 - k]? = some y ∧ x = (y : Nat) := by
  obtain ⟨rfl, _⟩ := h.len
  subst hoa
  obtain ⟨b', off', he, _, hc⟩ := h.at' hb (l.length - 1 - k) (by omega)
  cases he
  rw [hx] at hc
  exact ⟨_, List.getElem?_eq_getElem (by omega), by simpa using hc⟩

end Go.Proofs.Ytlkdahgfnfdakaa

namespace Go.Proofs.Ytlkdahgfnfdakaa
open Go.RowKit Go.Shelf WN
attribute [local go_sem] Oper.semAt_some

def TrimOut (w : World) (l : List Nat) (e : Ending) (w' : World) : Prop := ∃ v, e = .returned v ∧ Rep w' .u32 v (trim l) ∧ Below w.heap.size w w'

def TrimI (w : World) (oa : Option Addr) (l : List Nat) (cap : Nat) (k : Nat) (W : World) : Prop :=
  Box W w.heap.size 53 (.slice oa l.length cap) ∧ Box W (w.heap.size + 1) 53 (.slice none 0 0) ∧ Box W (w.heap.size + 1 + 1) 53 (.slice oa l.length cap) ∧
    Rep W .u32 (.slice oa l.length cap) l ∧ Below w.heap.size w W ∧ ∀ j (hj : j < l.length), l.length ≤ j + k → l[j] = 0
def TrimX (w : World) (l : List Nat) (c : Code) (W : World) : Prop := c = .ret ∧ ∃ v, Box W (w.heap.size + 1) 53 v ∧ Rep W .u32 v (trim l) ∧ Below w.heap.size w W

theorem TrimI.reads {w : World} {oa : Option Addr} {l : List Nat} {cap k : Nat} {W : World} (h : TrimI w oa l cap k W) : Reads (w.heap.size + 1 + 1) oa l.length cap k W := by
  obtain ⟨_, _, h3, hr, _, _⟩ := h
  refine ⟨h3.cell, fun hk => ?_⟩
  obtain ⟨oa', cap', he, _, hcell⟩ := hr
  cases he
  obtain ⟨b, off, rfl, hc⟩ := hcell (l.length - 1 - k) (by omega)
  exact ⟨b, off, _, rfl, hc⟩

set_option maxRecDepth 100000 in
set_option maxHeartbeats 1000000 in
theorem trimmed_any (oa : Option Addr) (l : List Nat) (cap : Nat) (hlen : l.length ≤ 1000000000000) (w : World) (hr : Rep w .u32 (.slice oa l.length cap) l) :
    Calls Try.prog 130 #[.slice oa l.length cap] w (TrimOut w l) := by
  refine (callsIn_wide (n := 5)).1 ?_
  refine callsIn_of_wp_marks Try.func130 rfl trivial ?_ rfl
  simp only [Try.ntmps130, List.size_toArray, List.length_cons, List.length_nil, Nat.reduceAdd, Nat.reduceSub, Array.replicate_succ, Array.replicate_zero, List.push_toArray, List.append_toArray, List.nil_append, List.cons_append]
  gi_wp2_with (refine ⟨trivial, ?_⟩; gi_at_call 129; refine (callsIn_wide.2 (down_any _ _ _ _)).mono ?_; rintro e w' ⟨rfl, rfl⟩)
  have b1 : Box (((w.alloc (.cells #[.slice oa l.length cap] 53)).alloc (.cells #[.slice none 0 0] 53)).alloc (.cells #[.slice oa l.length cap] 53)) w.heap.size 53 (.slice oa l.length cap) := ((Box.new w 53 _).alloc _).alloc _
  have b2 : Box (((w.alloc (.cells #[.slice oa l.length cap] 53)).alloc (.cells #[.slice none 0 0] 53)).alloc (.cells #[.slice oa l.length cap] 53)) (w.heap.size + 1) 53 (.slice none 0 0) := by
    have := Box.new (w.alloc (.cells #[.slice oa l.length cap] 53)) 53 (.slice none 0 0); rw [World.size_alloc] at this; exact this.alloc _
  have b3 : Box (((w.alloc (.cells #[.slice oa l.length cap] 53)).alloc (.cells #[.slice none 0 0] 53)).alloc (.cells #[.slice oa l.length cap] 53)) (w.heap.size + 1 + 1) 53 (.slice oa l.length cap) := by
    have := Box.new ((w.alloc (.cells #[.slice oa l.length cap] 53)).alloc (.cells #[.slice none 0 0] 53)) 53 (.slice oa l.length cap); rw [World.size_alloc, World.size_alloc] at this; exact this
  have b4 : Below w.heap.size w (((w.alloc (.cells #[.slice oa l.length cap] 53)).alloc (.cells #[.slice none 0 0] 53)).alloc (.cells #[.slice oa l.length cap] 53)) := (((Below.refl _ w).alloc (Nat.le_refl _) _).alloc (by simp) _).alloc (by simp; omega) _
  have b5 := hr.below b4 (Nat.le_refl _)
  have hsz : (((w.alloc (.cells #[.slice oa l.length cap] 53)).alloc (.cells #[.slice none 0 0] 53)).alloc (.cells #[.slice oa l.length cap] 53)).heap.size = w.heap.size + 1 + 1 + 1 := by simp
  have hcap : l.length ≤ cap := by obtain ⟨_, _, he, hc, _⟩ := hr; cases he; exact hc
  generalize (((w.alloc (.cells #[.slice oa l.length cap] 53)).alloc (.cells #[.slice none 0 0] 53)).alloc (.cells #[.slice oa l.length cap] 53)) = W0 at *
  refine wpIn_down 5 (w.heap.size + 1 + 1) oa l.length cap hlen rfl rfl (TrimI w oa l cap) (TrimX w l) ?hI ?hIx (fun k W h => h.reads) ⟨b1, b2, b3, b5, b4, fun j hj h => by omega⟩
    (fun k x => { tmps := #[.slice oa l.length cap, .pointer (some ⟨w.heap.size, 0, none⟩), .pointer (some ⟨w.heap.size + 1, 0, none⟩), .int .i64 ((l.length - 1 - k : Nat) : Int), .int .u32 x, .slice oa l.length cap,
      .func (.func 136) #[] #[.pointer (some ⟨w.heap.size + 1 + 1, 0, none⟩)], .int .i64 ((l.length - 1 - k : Nat) : Int), .int .u32 x, undef, undef, undef, undef, undef, undef], defers := [] }) ?assign ?body ?done ?stop
  case hI => exact fun k W W' ⟨h1, h2, h3, h4, h5, h6⟩ t => ⟨h1.turn t, h2.turn t, h3.turn t, h4.turn t, h5.trans (t.below.mono (by omega)), h6⟩
  case hIx => exact fun c W W' ⟨h1, v, h2, h3, h4⟩ t => ⟨h1, v, h2.turn t, h3.turn t, h4.trans (t.below.mono (by omega))⟩
  case assign =>
    intro _ k x W K hK
    gi_wp2
    exact hK
  case body =>
    rintro _ k b off x W ⟨h1, h2, h3, h4, h5, h6⟩ hk rfl hx
    have c1 := h1.cell
    have c2 := h2.cell
    have f2 := h2.free
    have hxl : x = (l[l.length - 1 - k]'(by omega) : Nat) := by
      obtain ⟨oa', cap', he, _, hcell⟩ := h4
      cases he
      obtain ⟨b', off', he, hc⟩ := hcell (l.length - 1 - k) (by omega)
      cases he
      rw [hx] at hc
      simpa using hc
    have Hx := Lib.hid hxl; clear hxl hx
    have e1 : ((l.length - 1 - k : Nat) : Int) = (l.length : Int) - 1 - k := by omega
    rw [e1]
    clear e1
    by_cases hz : x = 0
    · have hz' : (x != 0) = false := by rw [hz]; rfl
      have Hz := Lib.hid hz; clear hz
      gi_wp2
      refine ⟨KeepsOthers.refl _, h1, h2, h3, h4, h5, fun j hj hjk => ?_⟩
      rcases Nat.lt_or_ge j (l.length - k) with h | h
      · have : j = l.length - 1 - k := by omega
        subst this
        have := Hx.out; rw [Hz.out] at this; omega
      · exact h6 j hj (by omega)
    · have hz' : (x != 0) = true := by rw [bne_iff_ne]; exact hz
      have Hz := Lib.hid hz; clear hz
      have Hr := Lib.hid hr
      clear hr b5
      gi_wp2
      refine ⟨KeepsOthers.setCell _ _ _, rfl, _, h2.set _, ?_, h5.setCell (p := ⟨w.heap.size + 1, 0, none⟩) (by simp) _⟩
      rw [trim_top (m := l.length - 1 - k) (by omega) (fun j hj h => h6 j hj (by omega)) (fun h => Hz.out (by rw [Hx.out, h]; rfl))]
      exact (Hr.out.below (h5.setCell (p := ⟨w.heap.size + 1, 0, none⟩) (by simp) _) (Nat.le_refl _)).take _ (by omega)
  case done =>
    rintro E W hE ⟨h1, h2, h3, h4, h5, h6⟩ hd
    have c2 := h2.cell
    have f2 := h2.free
    clear hr b5
    gi_wp2
    have hd' := (KeepsOthers.setCell W ⟨w.heap.size + 1, 0, none⟩ (.slice none 0 0)).same E _ hd rfl
    have t := Turn.put (B := w.heap.size) (.deferred none) (by omega) hd' rfl
    have hb := (h2.set (.slice none 0 0)).turn t
    have hc5 := hb.cell
    refine ⟨by simp, .inl ⟨_, _, rfl, run_takeDeferred hd', .slice none 0 0, by simp [results, Try.f130, go_sem, hc5], ?_⟩⟩
    exact ⟨_, rfl, by rw [trim_zeros fun j hj => h6 j hj (by omega)]; exact Rep.nil _ _, (h5.setCell (p := ⟨w.heap.size + 1, 0, none⟩) (by simp) _).trans t.below⟩
  case stop =>
    rintro E c W hE ⟨rfl, v, h2, h3, h4⟩ hd
    gi_wp2
    have t := Turn.put (B := w.heap.size) (.deferred none) (by omega) hd rfl
    have hc5 := (h2.turn t).cell
    refine ⟨by simp, .inl ⟨_, _, rfl, run_takeDeferred hd, v, ?_, ?_⟩⟩
    · obtain ⟨oa', cap', rfl, _⟩ := h3
      simp [results, Try.f130, go_sem, hc5]
    · exact ⟨_, rfl, h3.turn t, h4.trans t.below⟩
end Go.Proofs.Ytlkdahgfnfdakaa

namespace Go.Proofs.Ytlkdahgfnfdakaa
open Go.RowKit WN


/-- the sum's loop, at the head of a round -/
def PlusInv (lx ly : List Nat) (w wr : World) (G k c : Nat) : Prop :=
  ∃ s, s.length = k ∧ Digs 1000000000 s ∧ val 1000000000 s + 1000000000 ^ k * c = val 1000000000 (lx.take k) + val 1000000000 (ly.take k) ∧
    Row wr G .u32 117 (s ++ List.replicate (lx.length + 1 - k) 0) ∧ Below w.heap.size w wr

theorem one_cell (w : World) (x t : Nat) : ∀ j u, (nl .u32 [x])[j]? = some u → (w.alloc (.cells #[.int .u32 (x : Int)] t)).cell? ((⟨w.heap.size, 0, none⟩ : Addr).add j) = some u := by
  intro j u h
  match j, h with
  | 0, h => simp [nl] at h; subst h; simp [Addr.add]
  | j + 1, h => simp [nl] at h

def PlusOut (w : World) (lx ly : List Nat) (e : Ending) (w' : World) : Prop :=
  ∃ v l, e = .returned v ∧ Rep w' .u32 v l ∧ Digs 1000000000 l ∧ (Top lx → Top l) ∧ val 1000000000 l = val 1000000000 lx + val 1000000000 ly ∧ Below w.heap.size w w'

theorem set_next {s : List Nat} {k n : Nat} (hs : s.length = k) (hk : k < n) (x : Nat) : (s ++ List.replicate (n - k) 0).set k x = (s ++ [x]) ++ List.replicate (n - (k + 1)) 0 := by
  subst hs
  obtain ⟨m, hm⟩ : ∃ m, n - s.length = m + 1 := ⟨n - s.length - 1, by omega⟩
  rw [hm, show n - (s.length + 1) = m from by omega, List.replicate_succ, List.set_append_right _ _ (Nat.le_refl _)]
  simp

theorem PlusInv.step {lx ly : List Nat} {w wr : World} {G k c : Nat} (h : PlusInv lx ly w wr G k c) (hG : w.heap.size ≤ G) (hk : k < lx.length) (x y : Nat) (hx : lx[k]? = some x) (hy : ly[k]?.getD 0 = y) :
    PlusInv lx ly w (wr.setCell ⟨G, k, none⟩ (.int .u32 ((x + c + y) % 1000000000 : Nat))) G (k + 1) ((x + c + y) / 1000000000) := by
  obtain ⟨s, hs, hd, hv, hr, hb⟩ := h
  refine ⟨s ++ [(x + c + y) % 1000000000], by simp [hs], hd.snoc (Nat.mod_lt _ (by omega)), ?_, ?_, hb.setCell hG _⟩
  · have e1 : val 1000000000 (lx.take (k + 1)) = val 1000000000 (lx.take k) + 1000000000 ^ k * x := by
      rw [val_take_succ _ _ _ hk]; rw [List.getElem?_eq_getElem hk] at hx; cases hx; rfl
    have e2 : val 1000000000 (ly.take (k + 1)) = val 1000000000 (ly.take k) + 1000000000 ^ k * y := by
      by_cases hky : k < ly.length
      · rw [val_take_succ _ _ _ hky]; rw [List.getElem?_eq_getElem hky] at hy; simp at hy; rw [hy]
      · rw [List.getElem?_eq_none (by omega)] at hy
        simp at hy; subst hy
        rw [List.take_of_length_le (by omega), List.take_of_length_le (by omega)]; simp
    rw [val_snoc, e1, e2, hs, Nat.pow_succ]
    have e3 := Nat.mod_add_div (x + c + y) 1000000000
    generalize hP : 1000000000 ^ k = P at *
    generalize (x + c + y) / 1000000000 = q at *
    generalize (x + c + y) % 1000000000 = r at *
    have e4 : P * (r + 1000000000 * q) = P * (x + c + y) := by rw [e3]
    rw [Nat.mul_add, Nat.mul_add, Nat.mul_add, ← Nat.mul_assoc] at e4
    omega
  · rw [← set_next hs (by omega)]; exact hr.set k _

theorem PlusInv.out {lx ly : List Nat} {w wr : World} {G k c : Nat} (h : PlusInv lx ly w wr G k c) (hk : k = lx.length) (hxy : ly.length ≤ lx.length) (hc : c = 0) (dx : Digs 1000000000 lx) (cap : Nat) (hcap : cap = lx.length + 1):
    PlusOut w lx ly (.returned (.slice (some ⟨G, 0, none⟩) lx.length cap)) wr := by
  subst hk; subst hcap
  obtain ⟨s, hs, hd, hv, hr, hb⟩ := h
  rw [List.take_of_length_le (Nat.le_refl _), List.take_of_length_le hxy, hc] at hv
  refine ⟨_, s, rfl, ?_, hd, ?_, by omega, hb⟩
  · have := Rep.row hr s.length (lx.length + 1) (by simp) (by omega)
    rw [List.take_left] at this
    rwa [hs] at this
  · intro ht
    by_cases h0 : lx = []
    · subst h0
      have : s = [] := List.eq_nil_of_length_eq_zero (by simpa using hs)
      subst this; exact Top.nil
    · have h1 := pow_le_val (B := 1000000000) ht h0
      intro hl
      obtain ⟨m, rfl⟩ : ∃ m, s = m ++ [0] := by
        have hne : s ≠ [] := by intro h; subst h; simp at hl
        refine ⟨s.dropLast, ?_⟩
        have := List.dropLast_concat_getLast hne
        rw [List.getLast?_eq_some_getLast hne] at hl
        rw [Option.some.inj hl] at this; exact this.symm
      rw [val_snoc] at hv
      have h2 := val_lt (B := 1000000000) (by omega) (l := m) (fun x hx => hd x (by simp [hx]))
      simp only [List.length_append, List.length_cons, List.length_nil, Nat.zero_add] at hs
      rw [← hs] at h1
      simp only [Nat.add_sub_cancel] at h1
      omega

theorem PlusInv.own {lx ly : List Nat} {w wr : World} {G k c : Nat} (h : PlusInv lx ly w wr G k c) (hG : w.heap.size ≤ G) (hk : k = lx.length) (hlim : lx.length ≤ 100000000000) :
    ∃ s, s.length = lx.length ∧ Digs 1000000000 s ∧ val 1000000000 s + 1000000000 ^ lx.length * c = val 1000000000 (lx.take lx.length) + val 1000000000 (ly.take lx.length) ∧
      wr.ownsRow w.heap.size 117 1 (.slice (some ⟨G, 0, none⟩) lx.length (lx.length + 1)) lx.length (nl .u32 s) ∧ Below w.heap.size w wr := by
  subst hk
  obtain ⟨s, hs, hd, hv, hr, hb⟩ := h
  have h := Row.own hr hG lx.length (by simp; omega) (by unfold maxLen; simp; omega)
  rw [show (s ++ List.replicate (lx.length + 1 - lx.length) (0 : Nat)).length = lx.length + 1 from by simp [hs], List.take_append_of_le_length (by omega), List.take_of_length_le (by omega)] at h
  exact ⟨s, hs, hd, hv, h, hb⟩

theorem plus_outMore {lx ly : List Nat} {w w' : World} {v : Value} {c n : Nat} {s : List Nat} (hs : s.length = lx.length) (hd : Digs 1000000000 s)
    (hv : val 1000000000 s + 1000000000 ^ lx.length * c = val 1000000000 (lx.take lx.length) + val 1000000000 (ly.take lx.length)) (hc : c ≠ 0) (hc1 : c ≤ 1) (hxy : ly.length ≤ lx.length)
    (ho : w'.ownsRow w.heap.size 117 1 v n (nl .u32 s ++ nl .u32 [c])) (hb : Below w.heap.size w w') : PlusOut w lx ly (.returned v) w' := by
  rw [← nl_append] at ho
  rw [List.take_of_length_le (Nat.le_refl _), List.take_of_length_le hxy] at hv
  refine ⟨v, s ++ [c], rfl, Rep.own ho, hd.snoc (by omega), fun _ => top_snoc hc, ?_, hb⟩
  rw [val_snoc, hs]; exact hv

set_option maxHeartbeats 400000 in
set_option maxRecDepth 100000 in
theorem plus_core (lx ly : List Nat) (hxy : ly.length ≤ lx.length) (hlim : lx.length ≤ 100000000000) (dx : Digs 1000000000 lx) (dy : Digs 1000000000 ly) (vx vy : Value) (w : World)
    (rx : Rep w .u32 vx lx) (ry : Rep w .u32 vy ly) (args : Array Value) (hargs : args = #[vx, vy] ∨ (args = #[vy, vx] ∧ ly.length < lx.length)) :
    Calls Try.prog 116 args w (PlusOut w lx ly) := by
  obtain ⟨ox, cx, rfl, hcx, gx⟩ := rx
  obtain ⟨oy, cy, rfl, hcy, gy⟩ := ry
  have Gx := Lib.hid gx; clear gx
  have Gy := Lib.hid gy; clear gy
  have Dx := Lib.hid dx; clear dx
  have Dy := Lib.hid dy; clear dy
  rcases hargs with rfl | ⟨rfl, hlt⟩
  all_goals
    have hmk := make_words w lx.length (lx.length + 1) (by omega) (by omega) (by omega)
    go_enter Try.func116, Try.ntmps116
    go_wp2
    clear hmk
    go_loopw [6, 24] (fun vc vk wr => ∃ k c : Nat, k ≤ lx.length ∧ vk = .int .i64 k ∧ vc = .int .u32 c ∧ c ≤ 1 ∧ PlusInv lx ly w wr w.heap.size k c) (fun _ vk _ => lx.length - (intOf vk).toNat)
    case atStart => exact ⟨0, 0, Nat.zero_le _, rfl, rfl, by omega, [], rfl, Digs.nil _, by simp, by simpa using Row.new w .u32 117 _, (Below.refl _ _).alloc (Nat.le_refl _) _⟩
    case round =>
      obtain ⟨k, c, hk, rfl, rfl, hc, hinv⟩ := hrel
      have Inv := Lib.hid hinv
      have hr : ∃ s, s.length = k ∧ Row wr w.heap.size .u32 117 (s ++ List.replicate (lx.length + 1 - k) 0) ∧ Below w.heap.size w wr := by
        obtain ⟨s, hs, _, _, hr, hb⟩ := hinv
        exact ⟨s, hs, hr, hb⟩
      clear hinv
      obtain ⟨s, hs, hr, hb⟩ := hr
      have Hs := Lib.hid hs; clear hs
      have Hr := Lib.hid hr; clear hr
      by_cases hlt : k < lx.length
      · obtain ⟨bx, px, rfl, hcell⟩ := Gx.out k hlt
        have hcx' := (hb.cell (p := ⟨bx, px + k, none⟩) (block_lt_of_cell hcell)).trans hcell
        clear hcell
        have hx9 := Dx.out.get k hlt
        have HX : lx[k]? = some (lx[k]) := List.getElem?_eq_getElem hlt
        generalize hX : lx[k] = x at *
        clear hX
        have HX' := Lib.hid HX; clear HX
        have hfr := Hr.out.free k
        have hcl := Hr.out.cell k (by simp [Hs.out]; omega)
        generalize (s ++ List.replicate (lx.length + 1 - k) 0)[k]'_ = old at hcl
        by_cases hly : k < ly.length
        · obtain ⟨by', py, rfl, hcell⟩ := Gy.out k hly
          have hcy' := (hb.cell (p := ⟨by', py + k, none⟩) (block_lt_of_cell hcell)).trans hcell
          clear hcell
          have hy9 := Dy.out.get k hly
          have HY : ly[k]?.getD 0 = ly[k] := by rw [List.getElem?_eq_getElem hly]; rfl
          generalize hY : ly[k] = y at *
          clear hY
          have HY' := Lib.hid HY; clear HY
          have hst := Inv.out.step (Nat.le_refl _) hlt x y HX'.out HY'.out
          have Hst := Lib.hid hst; clear hst
          go_wp2
          go_roundw
          case rel => exact ⟨k + 1, (x + c + y) / 1000000000, hlt, by go_num, u32_eq (by omega), by omega, by
            have := Hst.out
            rwa [show (((x + c + y) % 1000000000 : Nat) : Int) = (↑x + ↑c + ↑y) % 1000000000 from by omega] at this⟩
          case measure => simp [intOf]; omega
        · have HY' : Hid (ly[k]?.getD 0 = 0) := Lib.hid (by rw [List.getElem?_eq_none (by omega)]; rfl)
          have hst := Inv.out.step (Nat.le_refl _) hlt x 0 HX'.out HY'.out
          have Hst := Lib.hid hst; clear hst
          go_wp2
          go_roundw
          case rel => exact ⟨k + 1, (x + c + 0) / 1000000000, hlt, by go_num, u32_eq (by omega), by omega, by
            have := Hst.out
            rwa [show (((x + c + 0) % 1000000000 : Nat) : Int) = (↑x + ↑c) % 1000000000 from by omega] at this⟩
          case measure => simp [intOf]; omega
      · by_cases hc0 : c = 0
        · subst hc0
          go_wp2
          go_ret
          exact Inv.out.out (by omega) hxy rfl Dx.out _ rfl
        · obtain ⟨s', hs', hd', hv', hown, hb'⟩ := Inv.out.own (Nat.le_refl _) (by omega) hlim
          have Hv := Lib.hid hv'; clear hv'
          have Hs' := Lib.hid hs'; clear hs'
          have Hd := Lib.hid hd'; clear hd'
          clear hb' Inv Hr Hs
          obtain ⟨i0, hi, hz0, hz1, hz2⟩ := info_parts Try.info117
          go_wp2_with (at_builtin; refine wpList_append_fits _ rfl (.tmp 52) (.tmp 54) 53 rfl w.heap.size 117 i0 1 Try.underlying53 hi hz1 w.heap.size lx.length (lx.length + 1) _ rfl (hown.alloc _) ⟨wr.heap.size, 0, none⟩ 1 1 (nl .u32 [c]) rfl rfl (one_cell _ _ _) (by intro u hu; simp [nl] at hu; subst hu; rfl) (Nat.le_refl _) ?_; intro w1 hown1 hgrow1)
          go_ret
          exact plus_outMore Hs'.out Hd.out Hv.out hc0 hc hxy hown1 ((hb.alloc hb.size _).grown hgrow1 (by simp; have := hb.size; omega) (fun k hk => by cases hk; exact Nat.le_refl _))
end Go.Proofs.Ytlkdahgfnfdakaa

namespace Go.Proofs.Ytlkdahgfnfdakaa
open Go.RowKit WN

theorem trimmed_n (oa : Option Addr) (l : List Nat) (n cap : Nat) (hlen : n ≤ 1000000000000) (w : World) (hr : Rep w .u32 (.slice oa n cap) l) :
    Calls Try.prog 130 #[.slice oa n cap] w (TrimOut w l) := by
  obtain ⟨rfl, _⟩ := hr.len
  exact trimmed_any oa l cap hlen w hr

def MinusInv (lx ly : List Nat) (w wr : World) (G k c : Nat) : Prop :=
  ∃ s, s.length = k ∧ Digs 1000000000 s ∧ val 1000000000 s + val 1000000000 (ly.take k) = val 1000000000 (lx.take k) + 1000000000 ^ k * c ∧
    Row wr G .u32 117 (s ++ List.replicate (lx.length - k) 0) ∧ Below w.heap.size w wr

theorem MinusInv.step {lx ly : List Nat} {w wr : World} {G k c : Nat} (h : MinusInv lx ly w wr G k c) (hG : w.heap.size ≤ G) (hk : k < lx.length) (x y d c' : Nat) (hx : lx[k]? = some x) (hy : ly[k]?.getD 0 = y)
    (he : x + 1000000000 * c' = d + (c + y)) (hd9 : d < 1000000000) :
    MinusInv lx ly w (wr.setCell ⟨G, k, none⟩ (.int .u32 (d : Nat))) G (k + 1) c' := by
  obtain ⟨s, hs, hd, hv, hr, hb⟩ := h
  refine ⟨s ++ [d], by simp [hs], hd.snoc hd9, ?_, ?_, hb.setCell hG _⟩
  · have e1 : val 1000000000 (lx.take (k + 1)) = val 1000000000 (lx.take k) + 1000000000 ^ k * x := by
      rw [val_take_succ _ _ _ hk]; rw [List.getElem?_eq_getElem hk] at hx; cases hx; rfl
    have e2 : val 1000000000 (ly.take (k + 1)) = val 1000000000 (ly.take k) + 1000000000 ^ k * y := by
      by_cases hky : k < ly.length
      · rw [val_take_succ _ _ _ hky]; rw [List.getElem?_eq_getElem hky] at hy; simp at hy; rw [hy]
      · rw [List.getElem?_eq_none (by omega)] at hy
        simp at hy; subst hy
        rw [List.take_of_length_le (by omega), List.take_of_length_le (by omega)]; simp
    rw [val_snoc, e1, e2, hs, Nat.pow_succ]
    generalize hP : 1000000000 ^ k = P at *
    have e4 : P * (x + 1000000000 * c') = P * (d + (c + y)) := by rw [he]
    rw [Nat.mul_add, Nat.mul_add, Nat.mul_add, ← Nat.mul_assoc] at e4
    omega
  · rw [← set_next hs (by omega)]; exact hr.set k _

def MinusOut (w : World) (lx ly : List Nat) (e : Ending) (w' : World) : Prop :=
  ∃ v l, e = .returned v ∧ Rep w' .u32 v l ∧ Canon 1000000000 l ∧ val 1000000000 l + val 1000000000 ly = val 1000000000 lx ∧ Below w.heap.size w w'

theorem MinusInv.rep {lx ly : List Nat} {w wr : World} {G k c : Nat} (h : MinusInv lx ly w wr G k c) (hk : k = lx.length) (hle : ly.length ≤ lx.length) (hv : val 1000000000 ly ≤ val 1000000000 lx) :
    ∃ s, Rep wr .u32 (.slice (some ⟨G, 0, none⟩) lx.length lx.length) s ∧ Digs 1000000000 s ∧ val 1000000000 s + val 1000000000 ly = val 1000000000 lx ∧ Below w.heap.size w wr := by
  subst hk
  obtain ⟨s, hs, hd, he, hr, hb⟩ := h
  rw [Nat.sub_self, List.replicate_zero, List.append_nil] at hr
  rw [List.take_of_length_le (Nat.le_refl _), List.take_of_length_le hle] at he
  have h1 := val_lt (B := 1000000000) (by omega) hd
  rw [hs] at h1
  have hc : c = 0 := by
    rcases Nat.eq_zero_or_pos c with h | h
    · exact h
    · have : 1000000000 ^ lx.length * 1 ≤ 1000000000 ^ lx.length * c := Nat.mul_le_mul_left _ h
      omega
  subst hc
  have := Rep.rowAll hr lx.length (by omega)
  rw [hs] at this
  exact ⟨s, this, hd, by omega, hb⟩

set_option maxHeartbeats 1000000 in
set_option maxRecDepth 100000 in
theorem minus_core (lx ly : List Nat) (hxy : ly.length ≤ lx.length) (hlim : lx.length ≤ 100000000000) (dx : Digs 1000000000 lx) (dy : Digs 1000000000 ly) (hle : val 1000000000 ly ≤ val 1000000000 lx) (vx vy : Value) (w : World)
    (rx : Rep w .u32 vx lx) (ry : Rep w .u32 vy ly) :
    Calls Try.prog 133 #[vx, vy] w (MinusOut w lx ly) := by
  have Rx := Lib.hid rx
  have Ry := Lib.hid ry
  obtain ⟨ox, cx, rfl, hcx, gx⟩ := rx
  obtain ⟨oy, cy, rfl, hcy, gy⟩ := ry
  clear gx gy
  have Dx := Lib.hid dx; clear dx
  have Dy := Lib.hid dy; clear dy
  have Hle := Lib.hid hle; clear hle
  have hmk := make_words w lx.length lx.length (by omega) (by omega) (by omega)
  go_enter Try.func133, Try.ntmps133
  go_wp2
  clear hmk
  go_loopw [6, 15] (fun vc vk wr => ∃ k c : Nat, k ≤ lx.length ∧ vk = .int .i64 k ∧ vc = .int .u32 c ∧ c ≤ 1 ∧ MinusInv lx ly w wr w.heap.size k c) (fun _ vk _ => lx.length - (intOf vk).toNat)
  case atStart => exact ⟨0, 0, Nat.zero_le _, rfl, rfl, by omega, [], rfl, Digs.nil _, by simp, by simpa using Row.new w .u32 117 _, (Below.refl _ _).alloc (Nat.le_refl _) _⟩
  case round =>
    obtain ⟨k, c, hk, rfl, rfl, hc, hinv⟩ := hrel
    have Inv := Lib.hid hinv
    have hr : ∃ s, s.length = k ∧ Row wr w.heap.size .u32 117 (s ++ List.replicate (lx.length - k) 0) ∧ Below w.heap.size w wr := by
      obtain ⟨s, hs, _, _, hr, hb⟩ := hinv
      exact ⟨s, hs, hr, hb⟩
    clear hinv
    obtain ⟨s, hs, hr, hb⟩ := hr
    have Hs := Lib.hid hs; clear hs
    have Hr := Lib.hid hr; clear hr
    by_cases hlt : k < lx.length
    · obtain ⟨bx, px, rfl, _, hcx'⟩ := Rx.out.at' hb k hlt
      have hx9 := Dx.out.get k hlt
      have HX : Hid (lx[k]? = some (lx[k])) := List.getElem?_eq_getElem hlt
      generalize lx[k] = x at *
      have hfr := Hr.out.free k
      have hcl := Hr.out.cell k (by simp [Hs.out]; omega)
      generalize (s ++ List.replicate (lx.length - k) 0)[k]'_ = old at hcl
      by_cases hly : k < ly.length
      · obtain ⟨by', py, rfl, _, hcy'⟩ := Ry.out.at' hb k hly
        have hy9 := Dy.out.get k hly
        have HY : Hid (ly[k]?.getD 0 = ly[k]) := by show _ = _; rw [List.getElem?_eq_getElem hly]; rfl
        generalize ly[k] = y at *
        by_cases ht : x < c + y
        · have Hst := Lib.hid (Inv.out.step (Nat.le_refl _) hlt x y (x + 1000000000 - (c + y)) 1 HX.out HY.out (by omega) (by omega))
          go_wp2
          go_roundw
          case rel => exact ⟨k + 1, 1, hlt, by go_num, rfl, by omega, by
            have := Hst.out
            rwa [show ((x + 1000000000 - (c + y) : Nat) : Int) = ↑x + 1000000000 - (↑c + ↑y) from by omega] at this⟩
          case measure => simp [intOf]; omega
        · have Hst := Lib.hid (Inv.out.step (Nat.le_refl _) hlt x y (x - (c + y)) 0 HX.out HY.out (by omega) (by omega))
          go_wp2
          go_roundw
          case rel => exact ⟨k + 1, 0, hlt, by go_num, rfl, by omega, by
            have := Hst.out
            rwa [show ((x - (c + y) : Nat) : Int) = ↑x - (↑c + ↑y) from by omega] at this⟩
          case measure => simp [intOf]; omega
      · have HY : Hid (ly[k]?.getD 0 = 0) := by show _ = _; rw [List.getElem?_eq_none (by omega)]; rfl
        by_cases ht : x < c
        · have Hst := Lib.hid (Inv.out.step (Nat.le_refl _) hlt x 0 (x + 1000000000 - c) 1 HX.out HY.out (by omega) (by omega))
          go_wp2
          go_roundw
          case rel => exact ⟨k + 1, 1, hlt, by go_num, rfl, by omega, by
            have := Hst.out
            rwa [show ((x + 1000000000 - c : Nat) : Int) = ↑x + 1000000000 - ↑c from by omega] at this⟩
          case measure => simp [intOf]; omega
        · have Hst := Lib.hid (Inv.out.step (Nat.le_refl _) hlt x 0 (x - c) 0 HX.out HY.out (by omega) (by omega))
          go_wp2
          go_roundw
          case rel => exact ⟨k + 1, 0, hlt, by go_num, rfl, by omega, by
            have := Hst.out
            rwa [show ((x - c : Nat) : Int) = ↑x - ↑c from by omega] at this⟩
          case measure => simp [intOf]; omega
    · obtain ⟨s', hs', hd', hv', hb'⟩ := Inv.out.rep (by omega) hxy Hle.out
      have Hv := Lib.hid hv'; clear hv'
      clear Inv Hr Hs
      go_wp2_with (go_at_call 130; refine (trimmed_n _ s' _ _ (by omega) _ hs').mono ?_; rintro e w1 ⟨v, rfl, hv1, hb1⟩)
      go_ret
      exact ⟨v, _, rfl, hv1, canon_trim hd', by rw [val_trim]; exact Hv.out, hb.trans (hb1.mono hb.size)⟩
end Go.Proofs.Ytlkdahgfnfdakaa

namespace Go.Proofs.Ytlkdahgfnfdakaa
open Go.RowKit WN

theorem isZero_any (l : List Nat) (n cap : Nat) (oa : Option Addr) (w : World) (hn : n ≤ 1000000000000) (hr : Rep w .u32 (.slice oa n cap) l) :
    Calls Try.prog 98 #[.slice oa n cap] w fun e w' => e = .returned (.bool (decide (l = []))) ∧ w = w' := by
  obtain ⟨rfl, _⟩ := hr.len
  clear hr
  have hb : Hid (decide (l = []) = ((l.length : Int) == 0)) := by
    show _ = _
    cases l with
    | nil => rfl
    | cons x l => simp; omega
  go_enter Try.func98, Try.ntmps98
  go_wp2
  go_ret
  exact ⟨by rw [hb.out]; rfl, rfl⟩

theorem one_any (w : World) :
    Calls Try.prog 99 #[] w fun e w' => ∃ v, e = .returned v ∧ Rep w' .u32 v [1] ∧ Below w.heap.size w w' := by
  go_enter Try.func99, Try.ntmps99
  go_wp2
  go_ret
  have h : Row (w.alloc (.cells #[.int .u32 1] 117)) w.heap.size .u32 117 [1] := Row.new w .u32 117 [1]
  exact ⟨_, rfl, Rep.rowAll h 1 (by simp), (Below.refl _ _).alloc (Nat.le_refl _) _⟩

theorem isOne_any (l : List Nat) (n cap : Nat) (oa : Option Addr) (w : World) (hn : n ≤ 1000000000000) (hr : Rep w .u32 (.slice oa n cap) l) :
    Calls Try.prog 96 #[.slice oa n cap] w fun e w' => e = .returned (.bool (decide (l = [1]))) ∧ w = w' := by
  obtain ⟨rfl, _⟩ := hr.len
  by_cases h1 : l.length = 1
  · obtain ⟨x, rfl⟩ : ∃ x, l = [x] := List.length_eq_one_iff.1 h1
    obtain ⟨b, off, rfl, _, hc⟩ := hr.at' (Below.refl _ _) 0 (by simp)
    have hb : Hid (decide ([x] = [1]) = ((x : Int) == 1)) := by show _ = _; by_cases hx : x = 1 <;> simp [hx] <;> omega
    simp only [List.length_cons, List.length_nil, Nat.zero_add, List.getElem_cons_zero, Nat.add_zero] at hc ⊢
    clear hr h1
    go_enter Try.func96, Try.ntmps96
    go_wp2
    go_ret
    exact ⟨by rw [hb.out]; rfl, rfl⟩
  · have hb : Hid (decide (l = [1]) = false) := by show _ = _; simp; intro h; rw [h] at h1; simp at h1
    have ht : ((l.length : Int) == 1) = false := by rw [beq_eq_false_iff_ne]; omega
    clear hr h1
    go_enter Try.func96, Try.ntmps96
    go_wp2
    go_ret
    exact ⟨by rw [hb.out]; rfl, rfl⟩

theorem isOdd_any (l : List Nat) (n cap : Nat) (oa : Option Addr) (w : World) (hn : n ≤ 1000000000000) (hr : Rep w .u32 (.slice oa n cap) l) :
    Calls Try.prog 119 #[.slice oa n cap] w fun e w' => e = .returned (.bool (decide (val 1000000000 l % 2 = 1))) ∧ w = w' := by
  obtain ⟨rfl, _⟩ := hr.len
  cases l with
  | nil =>
    have ht : decide ((0 : Int) < 0) = false := rfl
    simp only [List.length_nil]
    clear hr
    go_enter Try.func119, Try.ntmps119
    go_wp2
    go_ret
    exact ⟨by simp, rfl⟩
  | cons x l =>
    obtain ⟨b, off, rfl, _, hc⟩ := hr.at' (Below.refl _ _) 0 (by simp)
    simp only [List.getElem_cons_zero, Nat.add_zero] at hc ⊢
    have hb : Hid (decide (val 1000000000 (x :: l) % 2 = 1) = ((x : Int) % 2 == 1)) := by
      show _ = _
      rw [val_cons]
      generalize val 1000000000 l = y
      by_cases h : x % 2 = 1
      · have h1 : (x : Int) % 2 = 1 := by omega
        have h2 : (x + 1000000000 * y) % 2 = 1 := by omega
        simp [h1, h2]
      · have h1 : ¬ (x : Int) % 2 = 1 := by omega
        have h2 : ¬ (x + 1000000000 * y) % 2 = 1 := by omega
        simp [h1, h2]
    have hl : 0 < (x :: l).length := by simp
    generalize (x :: l).length = n at *
    clear hr
    go_enter Try.func119, Try.ntmps119
    go_wp2
    go_ret
    exact ⟨by rw [hb.out]; rfl, rfl⟩
end Go.Proofs.Ytlkdahgfnfdakaa

namespace Go.Proofs.Ytlkdahgfnfdakaa
open Go.RowKit WN

def TimesInv (lx ly : List Nat) (w wr : World) (G i : Nat) : Prop :=
  ∃ p, p.length = lx.length + ly.length ∧ Digs 1000000000 p ∧ val 1000000000 (p.take (i + ly.length)) = val 1000000000 (lx.take i) * val 1000000000 ly ∧ Row wr G .u32 117 p ∧ Below w.heap.size w wr

def TimesIn (lx ly : List Nat) (w wr : World) (G i x j c : Nat) : Prop :=
  ∃ p p0 : List Nat, p.length = lx.length + ly.length ∧ Digs 1000000000 p ∧ val 1000000000 (p0.take (i + ly.length)) = val 1000000000 (lx.take i) * val 1000000000 ly ∧
    (∀ t, i + j ≤ t → p[t]? = p0[t]?) ∧ val 1000000000 (p.take (i + j)) + 1000000000 ^ (i + j) * c = val 1000000000 (p0.take (i + j)) + 1000000000 ^ i * (x * val 1000000000 (ly.take j)) ∧
    Row wr G .u32 117 p ∧ Below w.heap.size w wr

theorem TimesInv.begin {lx ly : List Nat} {w wr : World} {G i : Nat} (h : TimesInv lx ly w wr G i) (x : Nat) : TimesIn lx ly w wr G i x 0 0 := by
  obtain ⟨p, hp, hd, hv, hr, hb⟩ := h
  exact ⟨p, p, hp, hd, hv, fun _ _ => rfl, by simp, hr, hb⟩

theorem TimesIn.step {lx ly : List Nat} {w wr : World} {G i x j c : Nat} (h : TimesIn lx ly w wr G i x j c) (hG : w.heap.size ≤ G) (hij : i + j < lx.length + ly.length) (y q d c' : Nat)
    (hq : ∀ p, Row wr G .u32 117 p → p[i + j]?.getD 0 = q) (hy : ly[j]?.getD 0 = y) (he : x * y + q + c = d + 1000000000 * c') (hd9 : d < 1000000000) :
    TimesIn lx ly w (wr.setCell ⟨G, i + j, none⟩ (.int .u32 (d : Nat))) G i x (j + 1) c' := by
  obtain ⟨p, p0, hp, hd, hv, hs, hI, hr, hb⟩ := h
  have hpq := hq p hr
  refine ⟨p.set (i + j) d, p0, by simpa using hp, hd.set _ _ hd9, hv, fun t ht => ?_, ?_, hr.set _ _, hb.setCell hG _⟩
  · rw [List.getElem?_set_ne (by omega)]; exact hs t (by omega)
  · have e1 : val 1000000000 ((p.set (i + j) d).take (i + (j + 1))) = val 1000000000 (p.take (i + j)) + 1000000000 ^ (i + j) * d := by
      rw [← Nat.add_assoc, val_take_next, take_set]
      simp [hp, hij]
    have e2 : val 1000000000 (p0.take (i + (j + 1))) = val 1000000000 (p0.take (i + j)) + 1000000000 ^ (i + j) * q := by
      rw [← Nat.add_assoc, val_take_next, ← hs (i + j) (Nat.le_refl _), hpq]
    have e3 := val_take_next 1000000000 ly j
    rw [hy] at e3
    rw [e1, e2, e3, ← Nat.add_assoc, Nat.pow_succ]
    have e4 : 1000000000 ^ i * (x * (val 1000000000 (ly.take j) + 1000000000 ^ j * y)) = 1000000000 ^ i * (x * val 1000000000 (ly.take j)) + 1000000000 ^ (i + j) * (x * y) := by
      rw [Nat.mul_add, Nat.mul_add, Nat.pow_add, Nat.mul_assoc, Nat.mul_left_comm x]
    rw [e4]
    have e5 : 1000000000 ^ (i + j) * (x * y + q + c) = 1000000000 ^ (i + j) * (d + 1000000000 * c') := by rw [he]
    rw [Nat.mul_add, Nat.mul_add, Nat.mul_add, ← Nat.mul_assoc (1000000000 ^ (i + j)) 1000000000] at e5
    generalize 1000000000 ^ (i + j) * (x * y) = z1 at *
    generalize 1000000000 ^ i * (x * val 1000000000 (ly.take j)) = z2 at *
    generalize 1000000000 ^ (i + j) * 1000000000 * c' = z3 at *
    omega

theorem TimesIn.close {lx ly : List Nat} {w wr : World} {G i x c : Nat} (h : TimesIn lx ly w wr G i x ly.length c) (hG : w.heap.size ≤ G) (hi : i < lx.length) (hx : lx[i]? = some x) (hc : c < 1000000000) :
    TimesInv lx ly w (wr.setCell ⟨G, i + ly.length, none⟩ (.int .u32 (c : Nat))) G (i + 1) := by
  obtain ⟨p, p0, hp, hd, hv, hs, hI, hr, hb⟩ := h
  refine ⟨p.set (i + ly.length) c, by simpa using hp, hd.set _ _ hc, ?_, hr.set _ _, hb.setCell hG _⟩
  rw [Nat.add_right_comm, val_take_next, take_set]
  rw [List.take_length] at hI
  have e1 : (p.set (i + ly.length) c)[i + ly.length]?.getD 0 = c := by simp [hp, hi]
  rw [e1, hI, hv, val_take_next, hx, Option.getD_some, Nat.add_mul, Nat.mul_assoc]

theorem TimesIn.cell {lx ly : List Nat} {w wr : World} {G i x j c : Nat} (h : TimesIn lx ly w wr G i x j c) (hij : i + j < lx.length + ly.length) :
    ∃ q, q < 1000000000 ∧ wr.cell? ⟨G, i + j, none⟩ = some (.int .u32 (q : Nat)) ∧ wr.frozen? ⟨G, i + j, none⟩ = false ∧ (∀ p, Row wr G .u32 117 p → p[i + j]?.getD 0 = q) := by
  obtain ⟨p, p0, hp, hd, hv, hs, hI, hr, hb⟩ := h
  refine ⟨p[i + j], hd.get _ (by omega), hr.cell _ (by omega), hr.free _, fun p' hr' => ?_⟩
  unfold Row at hr hr'
  rw [hr] at hr'
  have e := congrArg (fun o => match o with | some (Obj.cells cs _ _) => cs[i + j]? | _ => none) hr'
  simp only [ns_get] at e
  rw [List.getElem?_eq_getElem (by omega)] at e
  cases h : p'[i + j]? with
  | none => rw [h] at e; simp at e
  | some z => rw [h] at e; simp at e; simp; omega

def TimesOut (w : World) (lx ly : List Nat) (e : Ending) (w' : World) : Prop :=
  ∃ v l, e = .returned v ∧ Rep w' .u32 v l ∧ Canon 1000000000 l ∧ val 1000000000 l = val 1000000000 lx * val 1000000000 ly ∧ Below w.heap.size w w'

theorem TimesInv.rep {lx ly : List Nat} {w wr : World} {G i : Nat} (h : TimesInv lx ly w wr G i) (hi : i = lx.length) :
    ∃ s, Rep wr .u32 (.slice (some ⟨G, 0, none⟩) (lx.length + ly.length) (lx.length + ly.length)) s ∧ Digs 1000000000 s ∧ val 1000000000 s = val 1000000000 lx * val 1000000000 ly ∧ Below w.heap.size w wr := by
  subst hi
  obtain ⟨p, hp, hd, hv, hr, hb⟩ := h
  rw [List.take_of_length_le (by omega), List.take_length] at hv
  have := Rep.rowAll hr (lx.length + ly.length) (by omega)
  rw [hp] at this
  exact ⟨p, this, hd, hv, hb⟩

theorem mul_bound (x y : Nat) (hx : x < 1000000000) (hy : y < 1000000000) : x * y ≤ 999999998000000001 := Nat.le_trans (Nat.mul_le_mul (Nat.le_sub_one_of_lt hx) (Nat.le_sub_one_of_lt hy)) (by decide)

set_option maxHeartbeats 2000000 in
set_option maxRecDepth 100000 in
theorem times_core (lx ly : List Nat) (hlx : lx.length ≤ 100000000000) (hly : ly.length ≤ 100000000000) (cx : Canon 1000000000 lx) (cy : Canon 1000000000 ly) (vx vy : Value) (w : World)
    (rx : Rep w .u32 vx lx) (ry : Rep w .u32 vy ly) :
    Calls Try.prog 108 #[vx, vy] w (TimesOut w lx ly) := by
  have Rx := Lib.hid rx
  have Ry := Lib.hid ry
  obtain ⟨ox, cax, rfl, hcx, gx⟩ := rx
  obtain ⟨oy, cay, rfl, hcy, gy⟩ := ry
  clear gx gy
  have Cx := Lib.hid cx; clear cx
  have Cy := Lib.hid cy; clear cy
  by_cases h1 : lx = [1]
  · have H1 := Lib.hid h1
    have hd1 : decide (lx = [1]) = true := by simp [h1]
    clear h1
    go_enter Try.func108, Try.ntmps108
    go_wp2_with (go_at_call 96; refine (isOne_any lx _ _ _ _ (by omega) Rx.out).mono ?_; rintro e w1 ⟨rfl, rfl⟩; rw [hd1])
    go_ret
    exact ⟨_, ly, rfl, Ry.out, Cy.out, by rw [H1.out]; simp [val], Below.refl _ _⟩
  by_cases h2 : ly = [1]
  · have H2 := Lib.hid h2
    have hd1 : decide (lx = [1]) = false := by simp [h1]
    have hd2 : decide (ly = [1]) = true := by simp [h2]
    clear h1 h2
    go_enter Try.func108, Try.ntmps108
    go_wp2_with fail
    refine (isOne_any lx _ _ _ _ (by omega) Rx.out).mono ?_; rintro e w1 ⟨rfl, rfl⟩; rw [hd1]
    go_wp2_with fail
    refine (isOne_any ly _ _ _ _ (by omega) Ry.out).mono ?_; rintro e w1 ⟨rfl, rfl⟩; rw [hd2]
    go_wp2_with fail
    go_ret
    exact ⟨_, lx, rfl, Rx.out, Cx.out, by rw [H2.out]; simp [val], Below.refl _ _⟩
  have hd1 : decide (lx = [1]) = false := by simp [h1]
  have hd2 : decide (ly = [1]) = false := by simp [h2]
  clear h1 h2
  have hmk := make_words w ((lx.length : Int) + ly.length) ((lx.length : Int) + ly.length) (by omega) (by omega) (by omega)
  go_enter Try.func108, Try.ntmps108
  go_wp2_with fail
  refine (isOne_any lx _ _ _ _ (by omega) Rx.out).mono ?_; rintro e w1 ⟨rfl, rfl⟩; rw [hd1]
  go_wp2_with fail
  refine (isOne_any ly _ _ _ _ (by omega) Ry.out).mono ?_; rintro e w1 ⟨rfl, rfl⟩; rw [hd2]
  go_wp2_with fail
  clear hmk hd1 hd2
  go_loopw [26] (fun vi wr => ∃ i : Nat, i ≤ lx.length ∧ vi = .int .i64 i ∧ TimesInv lx ly w wr w.heap.size i) (fun vi _ => lx.length - (intOf vi).toNat)
  case atStart => exact ⟨0, Nat.zero_le _, rfl, List.replicate (lx.length + ly.length) 0, by simp, fun d hd => by rw [List.eq_of_mem_replicate hd]; omega, by rw [List.take_replicate, val_replicate_zero]; simp, Row.new w .u32 117 _, (Below.refl _ _).alloc (Nat.le_refl _) _⟩
  case round =>
    obtain ⟨i, hi, rfl, hinv⟩ := hrel
    have Inv := Lib.hid hinv; clear hinv
    obtain ⟨wo, rfl⟩ : ∃ wo : World, wo = wr := ⟨_, rfl⟩
    have hbo : Below w.heap.size w wo := by obtain ⟨_, _, _, _, _, hb⟩ := Inv.out; exact hb
    by_cases hlt : i < lx.length
    · obtain ⟨bx, px, rfl, _, hcx'⟩ := Rx.out.at' hbo i hlt
      have hx9 := Cx.out.1.get i hlt
      have HX : Hid (lx[i]? = some (lx[i])) := List.getElem?_eq_getElem hlt
      generalize lx[i] = x at *
      go_wp2
      go_loopw [8, 33] (fun vc vj wr => ∃ j c : Nat, j ≤ ly.length ∧ vj = .int .i64 j ∧ vc = .int .u64 c ∧ c < 1000000000 ∧ TimesIn lx ly w wr w.heap.size i x j c) (fun _ vj _ => ly.length - (intOf vj).toNat)
      case atStart => exact ⟨0, 0, Nat.zero_le _, rfl, rfl, by omega, Inv.out.begin x⟩
      case round =>
        obtain ⟨j, c, hj, rfl, rfl, hc, hinv⟩ := hrel
        have In := Lib.hid hinv; clear hinv
        have hb : Below w.heap.size w wr := by obtain ⟨_, _, _, _, _, _, _, _, hb⟩ := In.out; exact hb
        obtain ⟨q, hq9, hcq, hfq, hq⟩ := In.out.cell (j := j) (by omega)
        have Hq := Lib.hid hq; clear hq
        by_cases hlj : j < ly.length
        · obtain ⟨by', py, rfl, _, hcy'⟩ := Ry.out.at' hb j hlj
          have hy9 := Cy.out.1.get j hlj
          have HY : Hid (ly[j]?.getD 0 = ly[j]) := by show _ = _; rw [List.getElem?_eq_getElem hlj]; rfl
          generalize ly[j] = y at *
          have hm := mul_bound x y hx9 hy9
          have hm1 : (x : Int) * (y : Int) ≤ 999999998000000001 := by rw [← Int.natCast_mul]; omega
          have hm0 : 0 ≤ (x : Int) * (y : Int) := by rw [← Int.natCast_mul]; omega
          have Hst := Lib.hid (In.out.step (Nat.le_refl _) (by omega) y q ((x * y + q + c) % 1000000000) ((x * y + q + c) / 1000000000) Hq.out HY.out (by omega) (by omega))
          clear hcx'
          go_wp2
          go_roundw
          case rel => exact ⟨j + 1, (x * y + q + c) / 1000000000, hlj, by go_num, u64_eq (by have := Int.natCast_mul x y; omega), by omega, by
            have := Hst.out
            rwa [show (((x * y + q + c) % 1000000000 : Nat) : Int) = (↑x * ↑y + ↑q + ↑c) % 1000000000 from by have := Int.natCast_mul x y; omega] at this⟩
          case measure => simp [intOf]; omega
        · obtain rfl : j = ly.length := by omega
          have Hst := Lib.hid (In.out.close (Nat.le_refl _) hlt HX.out hc)
          clear hcx'
          go_wp2
          go_roundw
          case rel => exact ⟨i + 1, hlt, by go_num, Hst.out⟩
          case measure => simp [intOf]; omega
    · obtain ⟨s', hs', hd', hv', hb'⟩ := Inv.out.rep (by omega)
      have Hv := Lib.hid hv'; clear hv'
      clear Inv
      go_wp2_with (go_at_call 130; refine (trimmed_n _ s' _ _ (by omega) _ hs').mono ?_; rintro e w1 ⟨v, rfl, hv1, hb1⟩)
      go_ret
      exact ⟨v, _, rfl, hv1, canon_trim hd', by rw [val_trim]; exact Hv.out, hb'.trans (hb1.mono hb'.size)⟩
end Go.Proofs.Ytlkdahgfnfdakaa

namespace Go.Proofs.Ytlkdahgfnfdakaa
open Go.RowKit Go.Shelf WN
attribute [local go_sem] Oper.semAt_some

def UintI (w : World) (v : Value) (l : List Nat) (k : Nat) (W : World) : Prop :=
  Box W w.heap.size 64 (.int .u64 (val 1000000000 (l.drop (l.length - k)) : Nat)) ∧ Box W (w.heap.size + 1) 53 v ∧ Below w.heap.size w W

theorem val_drop_next {B : Nat} {l : List Nat} {k y : Nat} (hk : k < l.length) (hy : l[l.length - 1 - k]? = some y) : val B (l.drop (l.length - (k + 1))) = y + B * val B (l.drop (l.length - k)) := by
  have h : l.length - 1 - k < l.length := by omega
  rw [show l.length - (k + 1) = l.length - 1 - k from by omega, val_drop _ _ _ h, show l.length - 1 - k + 1 = l.length - k from by omega]
  rw [List.getElem?_eq_getElem h] at hy
  cases hy; rfl

set_option maxRecDepth 100000 in
set_option maxHeartbeats 1000000 in
theorem toUint_any (oa : Option Addr) (l : List Nat) (n cap : Nat) (hlen : n ≤ 2) (hd : Digs 1000000000 l) (w : World) (hr : Rep w .u32 (.slice oa n cap) l) :
    Calls Try.prog 126 #[.slice oa n cap] w fun e w' => e = .returned (.int .u64 (val 1000000000 l : Nat)) ∧ Below w.heap.size w w' := by
  obtain ⟨rfl, _⟩ := hr.len
  have Hr := Lib.hid hr; clear hr
  have Hd := Lib.hid hd; clear hd
  refine (callsIn_wide (n := 5)).1 ?_
  refine callsIn_of_wp_marks Try.func126 rfl trivial ?_ rfl
  simp only [Try.ntmps126, List.size_toArray, List.length_cons, List.length_nil, Nat.reduceAdd, Nat.reduceSub, Array.replicate_succ, Array.replicate_zero, List.push_toArray, List.append_toArray, List.nil_append, List.cons_append]
  gi_wp2_with (refine ⟨trivial, ?_⟩; gi_at_call 129; refine (callsIn_wide.2 (down_any _ _ _ _)).mono ?_; rintro e w' ⟨rfl, rfl⟩)
  have b1 : Box ((w.alloc (.cells #[.int .u64 0] 64)).alloc (.cells #[.slice oa l.length cap] 53)) w.heap.size 64 (.int .u64 0) := (Box.new w 64 _).alloc _
  have b3 : Box ((w.alloc (.cells #[.int .u64 0] 64)).alloc (.cells #[.slice oa l.length cap] 53)) (w.heap.size + 1) 53 (.slice oa l.length cap) := by
    have := Box.new (w.alloc (.cells #[.int .u64 0] 64)) 53 (.slice oa l.length cap); rw [World.size_alloc] at this; exact this
  have b4 : Below w.heap.size w ((w.alloc (.cells #[.int .u64 0] 64)).alloc (.cells #[.slice oa l.length cap] 53)) := ((Below.refl _ w).alloc (Nat.le_refl _) _).alloc (by simp) _
  have hsz : ((w.alloc (.cells #[.int .u64 0] 64)).alloc (.cells #[.slice oa l.length cap] 53)).heap.size = w.heap.size + 1 + 1 := by simp
  generalize ((w.alloc (.cells #[.int .u64 0] 64)).alloc (.cells #[.slice oa l.length cap] 53)) = W0 at *
  refine wpIn_down 5 (w.heap.size + 1) oa l.length cap (by omega) rfl rfl (UintI w (.slice oa l.length cap) l) (fun _ _ => False) ?hI ?hIx (fun k W h => Hr.out.reads h.2.2 h.2.1 k) ⟨by simpa using b1, b3, b4⟩
    (fun k x => { tmps := #[.slice oa l.length cap, undef, .int .u64 0, .pointer (some ⟨w.heap.size, 0, none⟩), undef, .int .u32 x, .slice oa l.length cap,
      .func (.func 136) #[] #[.pointer (some ⟨w.heap.size + 1, 0, none⟩)], .int .i64 ((l.length - 1 - k : Nat) : Int), .int .u32 x, undef, undef, undef, undef, undef, undef], defers := [] }) ?assign ?body ?done ?stop
  case hI => exact fun k W W' ⟨h1, h2, h3⟩ t => ⟨h1.turn t, h2.turn t, h3.trans (t.below.mono (by omega))⟩
  case hIx => exact fun c W W' h t => h
  case assign =>
    intro _ k x W K hK
    gi_wp2
    exact hK
  case body =>
    rintro _ k b off x W ⟨h1, h2, h3⟩ hk hoa hx
    obtain ⟨y, hy, rfl⟩ := Hr.out.word h3 hk hoa hx
    have hy9 : y < 1000000000 := Hd.out y (List.mem_of_getElem? hy)
    have hv := val_drop_next (B := 1000000000) hk hy
    have hlt : val 1000000000 (l.drop (l.length - k)) < 1000000000 ^ (l.drop (l.length - k)).length := val_lt (by omega) (Hd.out.drop _)
    rw [List.length_drop, show l.length - (l.length - k) = k from by omega] at hlt
    have hlt2 : val 1000000000 (l.drop (l.length - k)) < 1000000000 := Nat.lt_of_lt_of_le hlt (by
      have : k = 0 ∨ k = 1 := by omega
      rcases this with rfl | rfl <;> simp)
    clear hlt hy hx hoa
    have hs : Box (W.setCell ⟨w.heap.size, 0, none⟩ (.int .u64 (val 1000000000 (l.drop (l.length - (k + 1))) : Nat))) w.heap.size 64 (.int .u64 (val 1000000000 (l.drop (l.length - (k + 1))) : Nat)) := h1.set _
    have Hs := Lib.hid hs; clear hs
    generalize val 1000000000 (l.drop (l.length - k)) = z at *
    have Hv := Lib.hid hv; clear hv
    have hz : 0 ≤ (z : Int) * 1000000000 := by omega
    have c1 := h1.cell
    have f1 := h1.free
    gi_wp2
    have e : Value.int .u64 (↑z * 1000000000 + ↑y) = .int .u64 (val 1000000000 (l.drop (l.length - (k + 1))) : Nat) := u64_eq (by rw [Hv.out]; omega)
    rw [e]
    exact ⟨KeepsOthers.setCell _ _ _, Hs.out, h2.other _ _ (by simp), h3.setCell (p := ⟨w.heap.size, 0, none⟩) (Nat.le_refl _) _⟩
  case done =>
    rintro E W hE ⟨h1, h2, h3⟩ hd
    have c1 := h1.cell
    gi_wp2
    have t := Turn.put (B := w.heap.size) (.deferred none) (by omega) hd rfl
    refine ⟨by simp, .inl ⟨_, _, rfl, run_takeDeferred hd, _, results_tmp rfl _ _ _, ?_⟩⟩
    exact ⟨by simp, h3.trans t.below⟩
  case stop =>
    rintro E c W hE h hd
    exact h.elim
end Go.Proofs.Ytlkdahgfnfdakaa

namespace Go.Proofs.Ytlkdahgfnfdakaa
open Go.RowKit Go.Shelf WN
attribute [local go_sem] Oper.semAt_some

def cmpN (x y : Nat) : Int := if x < y then -1 else if y < x then 1 else 0

theorem cmpN_len {la lb : List Nat} (ca : Canon 1000000000 la) (cb : Canon 1000000000 lb) (h : la.length < lb.length) : val 1000000000 la < val 1000000000 lb := by
  have h1 := val_lt (B := 1000000000) (by omega) ca.1
  have h2 := pow_le_val (B := 1000000000) cb.2 (by intro e; subst e; simp at h)
  have h3 : 1000000000 ^ la.length ≤ 1000000000 ^ (lb.length - 1) := Nat.pow_le_pow_right (by omega) (by omega)
  omega

theorem cmpN_at {la lb : List Nat} (ca : Digs 1000000000 la) (cb : Digs 1000000000 lb) (hl : la.length = lb.length) {i x y : Nat} (hi : i < la.length) (hx : la[i]? = some x) (hy : lb[i]? = some y)
    (ht : la.drop (i + 1) = lb.drop (i + 1)) (hxy : x < y) : val 1000000000 la < val 1000000000 lb := by
  have hi2 : i < lb.length := hl ▸ hi
  rw [val_take_drop _ la i (by omega), val_take_drop _ lb i (by omega), val_drop _ _ _ hi, val_drop _ _ _ hi2, ht]
  rw [List.getElem?_eq_getElem hi] at hx
  rw [List.getElem?_eq_getElem hi2] at hy
  have hx := Option.some.inj hx
  have hy := Option.some.inj hy
  subst hx; subst hy
  have h1 := val_lt (B := 1000000000) (by omega) (ca.take i)
  rw [List.length_take, Nat.min_eq_left (by omega)] at h1
  generalize 1000000000 ^ i = P at *
  generalize val 1000000000 (lb.drop (i + 1)) = T at *
  generalize la[i] = x at *
  generalize lb[i] = y at *
  have h2 : P * (x + 1) ≤ P * y := Nat.mul_le_mul_left P hxy
  rw [Nat.mul_add, Nat.mul_add]
  rw [Nat.mul_add] at h2
  omega

def CmpOut (w : World) (la lb : List Nat) (e : Ending) (w' : World) : Prop := e = .returned (.int .i64 (cmpN (val 1000000000 la) (val 1000000000 lb))) ∧ Below w.heap.size w w'

def CmpI (w : World) (va vb : Value) (la lb : List Nat) (k : Nat) (W : World) : Prop :=
  Box W w.heap.size 53 vb ∧ Box W (w.heap.size + 1) 3 (.int .i64 0) ∧ Box W (w.heap.size + 1 + 1) 53 va ∧ Below w.heap.size w W ∧ la.drop (la.length - k) = lb.drop (la.length - k)
def CmpX (w : World) (r : Int) (c : Code) (W : World) : Prop := c = .ret ∧ Box W (w.heap.size + 1) 3 (.int .i64 r) ∧ Below w.heap.size w W

set_option maxRecDepth 100000 in
set_option maxHeartbeats 1000000 in
theorem compare_any (oa ob : Option Addr) (la lb : List Nat) (na ca nb cb : Nat) (hla : na ≤ 100000000000) (hlb : nb ≤ 100000000000) (da : Canon 1000000000 la) (db : Canon 1000000000 lb) (w : World)
    (hra : Rep w .u32 (.slice oa na ca) la) (hrb : Rep w .u32 (.slice ob nb cb) lb) :
    Calls Try.prog 118 #[.slice oa na ca, .slice ob nb cb] w (CmpOut w la lb) := by
  have ea := hra.len
  have eb := hrb.len
  have Ha := Lib.hid hra; clear hra
  have Hb := Lib.hid hrb; clear hrb
  have Da := Lib.hid da; clear da
  have Db := Lib.hid db; clear db
  obtain ⟨rfl, _⟩ := ea
  obtain ⟨rfl, _⟩ := eb
  by_cases h1 : la.length < lb.length
  · have hc : Hid (cmpN (val 1000000000 la) (val 1000000000 lb) = -1) := by show _ = _; simp [cmpN, cmpN_len Da.out Db.out h1]
    go_enter Try.func118, Try.ntmps118
    go_wp2
    refine bodyPost_ret (v := .int .i64 (-1)) (by simp [results, Try.f118, go_sem]) rfl ⟨by rw [hc.out], ?_⟩
    exact (((Below.refl _ w).alloc (Nat.le_refl _) _).alloc (by simp) _)
  by_cases h2 : lb.length < la.length
  · have hc : Hid (cmpN (val 1000000000 la) (val 1000000000 lb) = 1) := by
      show _ = _
      have := cmpN_len Db.out Da.out h2
      unfold cmpN; rw [if_neg (by omega), if_pos this]
    go_enter Try.func118, Try.ntmps118
    go_wp2
    refine bodyPost_ret (v := .int .i64 1) (by simp [results, Try.f118, go_sem]) rfl ⟨by rw [hc.out], ?_⟩
    exact (((Below.refl _ w).alloc (Nat.le_refl _) _).alloc (by simp) _)
  refine (callsIn_wide (n := 5)).1 ?_
  refine callsIn_of_wp_marks Try.func118 rfl trivial ?_ rfl
  simp only [Try.ntmps118, List.size_toArray, List.length_cons, List.length_nil, Nat.reduceAdd, Nat.reduceSub, Array.replicate_succ, Array.replicate_zero, List.push_toArray, List.append_toArray, List.nil_append, List.cons_append]
  gi_wp2_with (refine ⟨trivial, ?_⟩; gi_at_call 129; refine (callsIn_wide.2 (down_any _ _ _ _)).mono ?_; rintro e w' ⟨rfl, rfl⟩)
  obtain ⟨W0, hW0⟩ : ∃ W0, W0 = ((w.alloc (.cells #[.slice ob lb.length cb] 53)).alloc (.cells #[.int .i64 0] 3)).alloc (.cells #[.slice oa la.length ca] 53) := ⟨_, rfl⟩
  rw [← hW0]
  have b1 : Box W0 w.heap.size 53 (.slice ob lb.length cb) := by rw [hW0]; exact ((Box.new w 53 _).alloc _).alloc _
  have b2 : Box W0 (w.heap.size + 1) 3 (.int .i64 0) := by
    have := Box.new (w.alloc (.cells #[.slice ob lb.length cb] 53)) 3 (.int .i64 0); rw [World.size_alloc] at this; rw [hW0]; exact this.alloc _
  have b3 : Box W0 (w.heap.size + 1 + 1) 53 (.slice oa la.length ca) := by
    have := Box.new ((w.alloc (.cells #[.slice ob lb.length cb] 53)).alloc (.cells #[.int .i64 0] 3)) 53 (.slice oa la.length ca); rw [World.size_alloc, World.size_alloc] at this; rw [hW0]; exact this
  have b4 : Below w.heap.size w W0 := by rw [hW0]; exact (((Below.refl _ w).alloc (Nat.le_refl _) _).alloc (by simp) _).alloc (by simp; omega) _
  have hsz : W0.heap.size = w.heap.size + 1 + 1 + 1 := by rw [hW0]; simp
  clear hW0
  have hll : la.length = lb.length := by omega
  have hdd : la.drop (la.length - 0) = lb.drop (la.length - 0) := by rw [Nat.sub_zero, List.drop_length, hll, List.drop_length]
  have Hl := Lib.hid hll; clear hll
  refine wpIn_down 5 (w.heap.size + 1 + 1) oa la.length ca (by omega) rfl rfl (CmpI w (.slice oa la.length ca) (.slice ob lb.length cb) la lb) (CmpX w (cmpN (val 1000000000 la) (val 1000000000 lb))) ?hI ?hIx (fun k W h => Ha.out.reads h.2.2.2.1 h.2.2.1 k)
    ⟨b1, b2, b3, b4, hdd⟩
    (fun k x => { tmps := #[.slice oa la.length ca, .slice ob lb.length cb, undef, .pointer (some ⟨w.heap.size, 0, none⟩), .pointer (some ⟨w.heap.size + 1, 0, none⟩), .int .i64 ((la.length - 1 - k : Nat) : Int), .int .u32 x, .slice oa la.length ca,
      .int .i64 la.length, .slice ob lb.length cb, .int .i64 lb.length, .bool false, .slice oa la.length ca, .int .i64 la.length, .slice ob lb.length cb, .int .i64 lb.length, .bool false, .slice oa la.length ca,
      .func (.func 136) #[] #[.pointer (some ⟨w.heap.size + 1 + 1, 0, none⟩)], .int .i64 ((la.length - 1 - k : Nat) : Int), .int .u32 x, undef, undef, undef, undef, undef, undef, undef, undef, undef, undef, undef, undef], defers := [] }) ?assign ?body ?done ?stop
  case hI => exact fun k W W' ⟨h1, h2, h3, h4, h5⟩ t => ⟨h1.turn t, h2.turn t, h3.turn t, h4.trans (t.below.mono (by omega)), h5⟩
  case hIx => exact fun c W W' ⟨h1, h2, h3⟩ t => ⟨h1, h2.turn t, h3.trans (t.below.mono (by omega))⟩
  case assign =>
    intro _ k x W K hK
    gi_wp2
    exact hK
  case body =>
    rintro _ k b off x W ⟨g1, g2, g3, g4, g5⟩ hk hoa hx
    obtain ⟨x, hwx, rfl⟩ := Ha.out.word g4 hk hoa hx
    clear hx hdd
    obtain ⟨b', off', rfl, _, hcy⟩ := Hb.out.at' g4 (la.length - 1 - k) (by have := Hl.out; omega)
    have hy : lb[la.length - 1 - k]? = some (lb[la.length - 1 - k]'(by have := Hl.out; omega)) := List.getElem?_eq_getElem _
    generalize lb[la.length - 1 - k]'_ = y at *
    have Hx := Lib.hid hwx; clear hwx
    have Hy := Lib.hid hy; clear hy
    have Hg := Lib.hid g5; clear g5
    have c1 := g1.cell
    have c2 := g2.cell
    have f2 := g2.free
    clear b1 b2 b3 hoa
    have hib : la.length - 1 - k < lb.length := by have := Hl.out; omega
    have e1 : ((la.length - 1 - k : Nat) : Int) = (la.length : Int) - 1 - k := by omega
    rw [e1]
    clear e1
    have ht : la.drop (la.length - 1 - k + 1) = lb.drop (la.length - 1 - k + 1) := by rw [show la.length - 1 - k + 1 = la.length - k from by omega]; exact Hg.out
    have Ht := Lib.hid ht; clear ht
    by_cases hxy : x < y
    · have hc : Hid (cmpN (val 1000000000 la) (val 1000000000 lb) = -1) := by
        show _ = _
        have := cmpN_at Da.out.1 Db.out.1 Hl.out (by omega) Hx.out Hy.out Ht.out hxy
        unfold cmpN; rw [if_pos this]
      gi_wp2
      exact ⟨KeepsOthers.setCell _ _ _, rfl, by rw [hc.out]; exact g2.set _, g4.setCell (p := ⟨w.heap.size + 1, 0, none⟩) (by simp) _⟩
    by_cases hyx : y < x
    · have hc : Hid (cmpN (val 1000000000 la) (val 1000000000 lb) = 1) := by
        show _ = _
        have := cmpN_at Db.out.1 Da.out.1 Hl.out.symm (by have := Hl.out; omega) Hy.out Hx.out Ht.out.symm hyx
        unfold cmpN; rw [if_neg (by omega), if_pos this]
      gi_wp2
      exact ⟨KeepsOthers.setCell _ _ _, rfl, by rw [hc.out]; exact g2.set _, g4.setCell (p := ⟨w.heap.size + 1, 0, none⟩) (by simp) _⟩
    · gi_wp2
      refine ⟨KeepsOthers.refl _, g1, g2, g3, g4, ?_⟩
      have hxy2 : x = y := by omega
      have hX := Hx.out
      have hY := Hy.out
      rw [show la.length - (k + 1) = la.length - 1 - k from by omega]
      rw [List.getElem?_eq_getElem (by omega)] at hX
      rw [List.getElem?_eq_getElem hib] at hY
      rw [List.drop_eq_getElem_cons (by omega : la.length - 1 - k < la.length), List.drop_eq_getElem_cons hib, Option.some.inj hX, Option.some.inj hY, Ht.out, hxy2]
  case done =>
    rintro E W hE ⟨g1, g2, g3, g4, g5⟩ hd
    have c2 := g2.cell
    have f2 := g2.free
    clear b1 b2 b3 hdd
    have hc : Hid (cmpN (val 1000000000 la) (val 1000000000 lb) = 0) := by
      show _ = _
      rw [Nat.sub_self, List.drop_zero, List.drop_zero] at g5
      rw [g5]; simp [cmpN]
    clear g5
    gi_wp2
    have hd' := (KeepsOthers.setCell W ⟨w.heap.size + 1, 0, none⟩ (.int .i64 0)).same E _ hd rfl
    have t := Turn.put (B := w.heap.size) (.deferred none) (by omega) hd' rfl
    have hc5 := ((g2.set (.int .i64 0)).turn t).cell
    refine ⟨by simp, .inl ⟨_, _, rfl, run_takeDeferred hd', .int .i64 0, by simp [results, Try.f118, go_sem, hc5], ?_⟩⟩
    exact ⟨by rw [hc.out], (g4.setCell (p := ⟨w.heap.size + 1, 0, none⟩) (by simp) _).trans t.below⟩
  case stop =>
    rintro E c W hE ⟨rfl, h2, h3⟩ hd
    gi_wp2
    have t := Turn.put (B := w.heap.size) (.deferred none) (by omega) hd rfl
    have hc5 := (h2.turn t).cell
    refine ⟨by simp, .inl ⟨_, _, rfl, run_takeDeferred hd, _, by simp [results, Try.f118, go_sem, hc5]; rfl, ?_⟩⟩
    exact ⟨rfl, h3.trans t.below⟩
end Go.Proofs.Ytlkdahgfnfdakaa
