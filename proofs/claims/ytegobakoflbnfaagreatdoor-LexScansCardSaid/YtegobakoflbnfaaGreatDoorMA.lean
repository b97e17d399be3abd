/- Mathematics and laws of memory that name no program, out of the texts of the seat YtegobakoflbnfaaGreatDoor. -/
import Derived.Test.YtegobakoflbnfaaGreatDoorProg
import Derived.WalkKit
import Derived.Handy
import Derived.Lib.Hide
import Derived.IntWalk
import Derived.RangeFuncNested
import Derived.RangeFuncBound
import Derived.RangeFuncCalls
import Derived.RangeFuncLeaves
import Derived.Shelf.Abstract
import Derived.Shelf.RegionOpen
import Derived.OwnWalkIn
import Derived.TacticsInMore
import Derived.LoopNIn
import Derived.LoopIn
import Derived.Deep.QuietTactic
import Derived.BigQuiet
import Derived.BigRegionIn
import Derived.Deep.Cut
import Derived.Deep.RegionWith
import Derived.Laws.CopyOwn
import Derived.Deep.RegionHeld
import Derived.StillTail
import Derived.OwnWalk
-- from MA
/- Mathematics and laws of memory that name no program, out of the texts of the seat YtegobakoflbnfaaGreatDoor. -/
/- Numbers as lists of digits to a base, the lowest one first. Rows of numbers in memory, and slices that hold lists of numbers. 'for at, word := range a.down() { .. }': the words of a slice, from the highest one on: one law for all such loops. -/
namespace Go.Proofs.YtegobakoflbnfaaGreatDoor.QA.WN

def val (B : Nat) : List Nat → Nat
  | [] => 0
  | d :: ds => d + B * val B ds

def Digs (B : Nat) (l : List Nat) : Prop := ∀ d ∈ l, d < B

/-- no highest digit 0 -/
def Top (l : List Nat) : Prop := l.getLast? ≠ some 0

def Canon (B : Nat) (l : List Nat) : Prop := Digs B l ∧ Top l

@[simp] theorem val_nil (B : Nat) : val B [] = 0 := rfl
@[simp] theorem val_cons (B d : Nat) (l : List Nat) : val B (d :: l) = d + B * val B l := rfl

theorem val_append (B : Nat) (l m : List Nat) : val B (l ++ m) = val B l + B ^ l.length * val B m := by
  induction l with
  | nil => simp
  | cons d l ih =>
    simp only [List.cons_append, val_cons, ih, List.length_cons, Nat.pow_succ]
    rw [Nat.mul_add, Nat.add_assoc]
    congr 2
    rw [← Nat.mul_assoc, Nat.mul_comm B]

theorem val_snoc (B : Nat) (l : List Nat) (d : Nat) : val B (l ++ [d]) = val B l + B ^ l.length * d := by
  rw [val_append]; simp

theorem Digs.nil (B : Nat) : Digs B [] := fun _ h => nomatch h
theorem Digs.cons {B d : Nat} {l : List Nat} (h : d < B) (hl : Digs B l) : Digs B (d :: l) := fun x hx => by
  rcases List.mem_cons.1 hx with rfl | hx
  · exact h
  · exact hl x hx
theorem Digs.append {B : Nat} {l m : List Nat} (h : Digs B l) (k : Digs B m) : Digs B (l ++ m) := fun x hx => by
  rcases List.mem_append.1 hx with hx | hx
  · exact h x hx
  · exact k x hx
theorem Digs.snoc {B d : Nat} {l : List Nat} (hl : Digs B l) (h : d < B) : Digs B (l ++ [d]) := hl.append (.cons h (.nil B))
theorem Digs.take {B : Nat} {l : List Nat} (h : Digs B l) (n : Nat) : Digs B (l.take n) := fun x hx => h x (List.mem_of_mem_take hx)
theorem Digs.drop {B : Nat} {l : List Nat} (h : Digs B l) (n : Nat) : Digs B (l.drop n) := fun x hx => h x (List.mem_of_mem_drop hx)
theorem Digs.get {B : Nat} {l : List Nat} (h : Digs B l) (i : Nat) (hi : i < l.length) : l[i] < B := h _ (List.getElem_mem hi)
theorem Digs.getD {B : Nat} {l : List Nat} (h : Digs B l) (i : Nat) (hB : 0 < B) : l.getD i 0 < B := by
  rw [List.getD_eq_getElem?_getD]
  by_cases hi : i < l.length
  · simp [hi]; exact h.get i hi
  · simp [List.getElem?_eq_none (Nat.le_of_not_lt hi)]; exact hB

theorem val_lt {B : Nat} (hB : 0 < B) {l : List Nat} (h : Digs B l) : val B l < B ^ l.length := by
  induction l with
  | nil => simp
  | cons d l ih =>
    have h1 := h d (by simp)
    have h2 := ih (fun x hx => h x (by simp [hx]))
    simp only [val_cons, List.length_cons, Nat.pow_succ]
    have : B * val B l + B ≤ B * B ^ l.length := by
      rw [← Nat.mul_succ]; exact Nat.mul_le_mul_left B h2
    rw [Nat.mul_comm (B ^ l.length)]
    omega

theorem Top.nil : Top [] := by simp [Top]
theorem Top.append {l m : List Nat} (h : Top m) (hm : m ≠ []) : Top (l ++ m) := by
  unfold Top at *
  rw [List.getLast?_append]
  cases hx : m.getLast? with
  | none => simp at hx; exact absurd hx hm
  | some x => simpa [hx] using h
theorem top_snoc {l : List Nat} {d : Nat} (h : d ≠ 0) : Top (l ++ [d]) := by simp [Top, h]

theorem pow_le_val {B : Nat} {l : List Nat} (h : Top l) (hl : l ≠ []) : B ^ (l.length - 1) ≤ val B l := by
  obtain ⟨m, d, rfl⟩ : ∃ m d, l = m ++ [d] := ⟨l.dropLast, l.getLast hl, (by rw [List.dropLast_concat_getLast])⟩
  have hd : d ≠ 0 := by simpa [Top] using h
  rw [val_snoc]
  simp only [List.length_append, List.length_cons, List.length_nil, Nat.zero_add, Nat.add_sub_cancel]
  have : B ^ m.length * 1 ≤ B ^ m.length * d := Nat.mul_le_mul_left _ (by omega)
  omega

theorem val_pos {B : Nat} (hB : 0 < B) {l : List Nat} (h : Top l) (hl : l ≠ []) : 0 < val B l :=
  Nat.lt_of_lt_of_le (Nat.pow_pos hB) (pow_le_val h hl)

theorem val_eq_zero {B : Nat} (hB : 0 < B) {l : List Nat} (h : Top l) : val B l = 0 ↔ l = [] := by
  constructor
  · intro h0
    by_cases hl : l = []
    · exact hl
    · have := val_pos hB h hl; omega
  · rintro rfl; rfl

theorem Top.tail {d : Nat} {l : List Nat} (h : Top (d :: l)) : Top l := by
  unfold Top at *
  cases l with
  | nil => simp
  | cons e l => simpa [List.getLast?_cons_cons] using h

theorem canon_unique {B : Nat} {l m : List Nat} (hl : Canon B l) (hm : Canon B m) (h : val B l = val B m) : l = m := by
  induction l generalizing m with
  | nil =>
    cases m with
    | nil => rfl
    | cons e m =>
      have hB : 0 < B := by have := hm.1 e (by simp); omega
      have := val_pos (B := B) hB hm.2 (by simp)
      rw [← h] at this; simp at this
  | cons d l ih =>
    have hB : 0 < B := by have := hl.1 d (by simp); omega
    cases m with
    | nil =>
      have := val_pos (B := B) hB hl.2 (by simp)
      rw [h] at this; simp at this
    | cons e m =>
      have h1 := hl.1 d (by simp)
      have h2 := hm.1 e (by simp)
      simp only [val_cons] at h
      have hde : d = e := by
        have : (d + B * val B l) % B = (e + B * val B m) % B := by rw [h]
        simpa [Nat.add_mul_mod_self_left, Nat.mod_eq_of_lt h1, Nat.mod_eq_of_lt h2] using this
      subst hde
      have hv : val B l = val B m := Nat.eq_of_mul_eq_mul_left hB (by omega)
      rw [ih (m := m) ⟨fun x hx => hl.1 x (by simp [hx]), hl.2.tail⟩ ⟨fun x hx => hm.1 x (by simp [hx]), hm.2.tail⟩ hv]

/-- the digits without noughts at the end -/
def trim (l : List Nat) : List Nat := (l.reverse.dropWhile (· == 0)).reverse

theorem trim_snoc_zero (l : List Nat) : trim (l ++ [0]) = trim l := by simp [trim]
theorem trim_snoc_ne {l : List Nat} {d : Nat} (h : d ≠ 0) : trim (l ++ [d]) = l ++ [d] := by simp [trim, h]
theorem trim_nil : trim [] = [] := rfl

theorem trim_spec (B : Nat) (l : List Nat) : ∃ k, l = trim l ++ List.replicate k 0 := by
  obtain ⟨r, hr⟩ : ∃ r, r = l.reverse := ⟨_, rfl⟩
  have hl : l = r.reverse := by simp [hr]
  subst hl
  unfold trim
  simp only [List.reverse_reverse]
  clear hr
  induction r with
  | nil => exact ⟨0, rfl⟩
  | cons d r ih =>
    by_cases h : d = 0
    · subst h
      obtain ⟨k, hk⟩ := ih
      refine ⟨k + 1, ?_⟩
      simp only [List.reverse_cons, List.dropWhile_cons, beq_self_eq_true, if_true]
      rw [List.replicate_succ', ← List.append_assoc, ← hk]
    · exact ⟨0, by simp [List.dropWhile_cons, h]⟩

theorem val_replicate_zero (B k : Nat) : val B (List.replicate k 0) = 0 := by
  induction k with
  | zero => rfl
  | succ k ih => simp [List.replicate_succ, ih]

theorem val_trim (B : Nat) (l : List Nat) : val B (trim l) = val B l := by
  obtain ⟨k, hk⟩ := trim_spec B l
  conv => rhs; rw [hk]
  rw [val_append, val_replicate_zero]; simp

theorem top_trim (l : List Nat) : Top (trim l) := by
  unfold Top trim
  rw [List.getLast?_reverse]
  intro h
  have := List.head?_dropWhile_not (· == 0) l.reverse
  rw [h] at this
  simp at this

theorem trim_length_le (l : List Nat) : (trim l).length ≤ l.length := by
  obtain ⟨k, hk⟩ := trim_spec 1 l
  have := congrArg List.length hk
  simp at this; omega

theorem trim_eq_take (l : List Nat) : trim l = l.take (trim l).length := by
  obtain ⟨k, hk⟩ := trim_spec 1 l
  conv => rhs; arg 2; rw [hk]
  simp

theorem digs_trim {B : Nat} {l : List Nat} (h : Digs B l) : Digs B (trim l) := by
  rw [trim_eq_take]; exact h.take _

theorem canon_trim {B : Nat} {l : List Nat} (h : Digs B l) : Canon B (trim l) := ⟨digs_trim h, top_trim l⟩

/-- the digits of a number -/
def ofNatAux (B : Nat) : Nat → Nat → List Nat
  | 0, _ => []
  | k + 1, n => if n = 0 then [] else n % B :: ofNatAux B k (n / B)
def ofNat (B n : Nat) : List Nat := ofNatAux B n n

theorem ofNatAux_spec {B : Nat} (hB : 2 ≤ B) : ∀ k n, n ≤ k → Canon B (ofNatAux B k n) ∧ val B (ofNatAux B k n) = n := by
  intro k
  induction k with
  | zero => intro n hn; obtain rfl : n = 0 := by omega
            exact ⟨⟨Digs.nil B, Top.nil⟩, rfl⟩
  | succ k ih =>
    intro n hn
    unfold ofNatAux
    by_cases h : n = 0
    · simp only [h, if_true]; exact ⟨⟨Digs.nil B, Top.nil⟩, rfl⟩
    · simp only [h, if_false]
      have hlt : n / B < n := Nat.div_lt_self (by omega) (by omega)
      obtain ⟨⟨h1, h2⟩, h3⟩ := ih (n / B) (by omega)
      refine ⟨⟨.cons (Nat.mod_lt _ (by omega)) h1, ?_⟩, ?_⟩
      · by_cases he : ofNatAux B k (n / B) = []
        · rw [he] at h3 ⊢
          simp only [val_nil] at h3
          have : n < B := by
            rcases Nat.lt_or_ge n B with h' | h'
            · exact h'
            · have := Nat.div_pos h' (by omega); omega
          simp [Top, Nat.mod_eq_of_lt this, h]
        · exact Top.append (l := [n % B]) h2 he
      · rw [val_cons, h3]; exact Nat.mod_add_div n B

theorem ofNat_canon {B : Nat} (hB : 2 ≤ B) (n : Nat) : Canon B (ofNat B n) := (ofNatAux_spec hB n n (Nat.le_refl _)).1
theorem val_ofNat {B : Nat} (hB : 2 ≤ B) (n : Nat) : val B (ofNat B n) = n := (ofNatAux_spec hB n n (Nat.le_refl _)).2

theorem ofNat_unique {B : Nat} (hB : 2 ≤ B) {l : List Nat} (h : Canon B l) {n : Nat} (hv : val B l = n) : l = ofNat B n :=
  canon_unique h (ofNat_canon hB n) (by rw [hv, val_ofNat hB])

theorem len_le_of_lt {B : Nat} (hB : 2 ≤ B) {l : List Nat} (h : Top l) {k : Nat} (hv : val B l < B ^ k) : l.length ≤ k := by
  by_cases hl : l = []
  · simp [hl]
  · have h1 := pow_le_val (B := B) h hl
    have : B ^ (l.length - 1) < B ^ k := by omega
    have := (Nat.pow_lt_pow_iff_right (by omega)).1 this
    omega

theorem val_take_drop (B : Nat) (l : List Nat) (k : Nat) (hk : k ≤ l.length) : val B l = val B (l.take k) + B ^ k * val B (l.drop k) := by
  conv => lhs; rw [← List.take_append_drop k l]
  rw [val_append, List.length_take, Nat.min_eq_left hk]

theorem val_take_succ (B : Nat) (l : List Nat) (k : Nat) (hk : k < l.length) : val B (l.take (k + 1)) = val B (l.take k) + B ^ k * l[k] := by
  rw [List.take_succ_eq_append_getElem hk, val_snoc, List.length_take, Nat.min_eq_left (by omega)]

theorem val_drop (B : Nat) (l : List Nat) (k : Nat) (hk : k < l.length) : val B (l.drop k) = l[k] + B * val B (l.drop (k + 1)) := by
  rw [List.drop_eq_getElem_cons hk]; rfl

theorem trim_zeros {l : List Nat} (h : ∀ j (hj : j < l.length), l[j] = 0) : trim l = [] := by
  have e : l = List.replicate l.length 0 := List.eq_replicate_iff.2 ⟨rfl, fun x hx => by
    obtain ⟨j, hj, rfl⟩ := List.getElem_of_mem hx
    exact h j hj⟩
  rw [e]
  generalize l.length = n
  induction n with
  | zero => rfl
  | succ n ih => rw [List.replicate_succ', trim_snoc_zero, ih]

theorem trim_top {l : List Nat} {m : Nat} (hm : m < l.length) (h : ∀ j (hj : j < l.length), m < j → l[j] = 0) (h0 : l[m] ≠ 0) : trim l = l.take (m + 1) := by
  have e : l = l.take (m + 1) ++ List.replicate (l.length - (m + 1)) 0 := by
    conv => lhs; rw [← List.take_append_drop (m + 1) l]
    congr 1
    refine List.eq_replicate_iff.2 ⟨by simp, fun x hx => ?_⟩
    obtain ⟨j, hj, rfl⟩ := List.getElem_of_mem hx
    rw [List.getElem_drop]
    exact h _ _ (by omega)
  conv => lhs; rw [e]
  generalize l.length - (m + 1) = n
  induction n with
  | zero =>
    rw [List.replicate_zero, List.append_nil, List.take_succ_eq_append_getElem hm, trim_snoc_ne h0]
  | succ n ih => rw [List.replicate_succ', ← List.append_assoc, trim_snoc_zero, ih]

theorem val_take_next (B : Nat) (l : List Nat) (k : Nat) : val B (l.take (k + 1)) = val B (l.take k) + B ^ k * (l[k]?.getD 0) := by
  by_cases hk : k < l.length
  · rw [val_take_succ _ _ _ hk]; simp [hk]
  · rw [List.take_of_length_le (by omega), List.take_of_length_le (by omega), List.getElem?_eq_none (by omega)]; simp

theorem Digs.set {B : Nat} {l : List Nat} (h : Digs B l) (i x : Nat) (hx : x < B) : Digs B (l.set i x) := fun y hy => by
  rcases List.mem_or_eq_of_mem_set hy with hy | rfl
  · exact h y hy
  · exact hx

theorem take_set (l : List Nat) (k x : Nat) : (l.set k x).take k = l.take k := by
  rw [List.take_set_of_le (Nat.le_refl _)]

end Go.Proofs.YtegobakoflbnfaaGreatDoor.QA.WN

namespace Go.Proofs.YtegobakoflbnfaaGreatDoor.QA
open Go.RowKit

theorem u32_eq {a b : Int} (h : a = b) : Value.int .u32 a = Value.int .u32 b := by rw [h]
theorem i64_eq {a b : Int} (h : a = b) : Value.int .i64 a = Value.int .i64 b := by rw [h]
theorem u64_eq {a b : Int} (h : a = b) : Value.int .u64 a = Value.int .u64 b := by rw [h]
theorem u8_eq {a b : Int} (h : a = b) : Value.int .u8 a = Value.int .u8 b := by rw [h]

/-- cells of numbers -/
def ns (k : IntKind) (l : List Nat) : Array Value := (l.map fun (x : Nat) => Value.int k (x : Int)).toArray
theorem ns_size (k : IntKind) (l : List Nat) : (ns k l).size = l.length := by simp [ns]
theorem ns_get (k : IntKind) (l : List Nat) (i : Nat) : (ns k l)[i]? = (l[i]?).map fun (x : Nat) => Value.int k (x : Int) := by simp [ns]
theorem ns_set (k : IntKind) (l : List Nat) (i x : Nat) : (ns k l).setIfInBounds i (.int k (x : Int)) = ns k (l.set i x) := by
  apply Array.ext_getElem?
  intro j
  rw [Array.getElem?_setIfInBounds, ns_get, ns_size]
  by_cases h : i = j
  · subst h
    by_cases hi : i < l.length
    · simp [hi, ns_get]
    · simp [hi, ns_get]
  · simp [h, ns_get]
theorem ns_zeros (k : IntKind) (n : Nat) : madeCells #[Value.int k 0] n = ns k (List.replicate n 0) := by
  apply Array.toList_inj.1
  rw [toList_madeCells_one]; simp [ns]
theorem ns_snoc (k : IntKind) (l : List Nat) (x : Nat) : (ns k l).push (.int k (x : Int)) = ns k (l ++ [x]) := by simp [ns]

/-- block g holds the numbers l -/
def Row (w : World) (g : Nat) (k : IntKind) (t : TypeId) (l : List Nat) : Prop := w.heap[g]? = some (.cells (ns k l) t (0, 0))

theorem Row.new (w : World) (k : IntKind) (t : TypeId) (l : List Nat) : Row (w.alloc (.cells (ns k l) t)) w.heap.size k t l := heap_alloc_new w _
theorem Row.lt {w : World} {g : Nat} {k : IntKind} {t : TypeId} {l : List Nat} (h : Row w g k t l) : g < w.heap.size := lt_of_block h
theorem Row.cell {w : World} {g : Nat} {k : IntKind} {t : TypeId} {l : List Nat} (h : Row w g k t l) (i : Nat) (hi : i < l.length) : w.cell? ⟨g, i, none⟩ = some (.int k (l[i]'hi : Nat)) := by
  rw [cell_of_row w g i _ _ _ h, ns_get]; simp [hi]
theorem Row.free {w : World} {g : Nat} {k : IntKind} {t : TypeId} {l : List Nat} (h : Row w g k t l) (i : Nat) : w.frozen? ⟨g, i, none⟩ = false := frozen_of_row w g i _ _ h
theorem Row.set {w : World} {g : Nat} {k : IntKind} {t : TypeId} {l : List Nat} (h : Row w g k t l) (i x : Nat) : Row (w.setCell ⟨g, i, none⟩ (.int k (x : Int))) g k t (l.set i x) := by
  unfold Row
  rw [heap_setCell_same w g i _ t _ h, ns_set]
theorem Row.alloc {w : World} {g : Nat} {k : IntKind} {t : TypeId} {l : List Nat} (h : Row w g k t l) (o : Obj) : Row (w.alloc o) g k t l := (heap_alloc_old w o h.lt).trans h
theorem Row.drew {w : World} {g : Nat} {k : IntKind} {t : TypeId} {l : List Nat} (h : Row w g k t l) : Row w.drew g k t l := h
theorem Row.other {w : World} {g : Nat} {k : IntKind} {t : TypeId} {l : List Nat} (h : Row w g k t l) (a : Addr) (v : Value) (ha : g ≠ a.block) : Row (w.setCell a v) g k t l :=
  (heap_setCell_other w a g v ha).trans h
theorem Row.below {w w' : World} {g : Nat} {k : IntKind} {t : TypeId} {l : List Nat} (h : Row w g k t l) {B : Nat} (hb : Below B w w') (hg : g < B) : Row w' g k t l := (hb.block g hg).trans h

/-- v is a slice that holds the numbers l -/
def Rep (w : World) (k : IntKind) (v : Value) (l : List Nat) : Prop :=
  ∃ oa cap, v = .slice oa l.length cap ∧ l.length ≤ cap ∧ ∀ i, (hi : i < l.length) → ∃ b off, oa = some ⟨b, off, none⟩ ∧ w.cell? ⟨b, off + i, none⟩ = some (.int k (l[i]'hi : Nat))

theorem Rep.nil (w : World) (k : IntKind) : Rep w k (.slice none 0 0) [] := ⟨none, 0, rfl, by simp, fun i hi => by simp at hi⟩
theorem Rep.mk {w : World} {k : IntKind} {l : List Nat} {b off cap : Nat} (hc : l.length ≤ cap) (h : ∀ i, (hi : i < l.length) → w.cell? ⟨b, off + i, none⟩ = some (.int k (l[i]'hi : Nat))) :
    Rep w k (.slice (some ⟨b, off, none⟩) l.length cap) l := ⟨_, _, rfl, hc, fun i hi => ⟨b, off, rfl, h i hi⟩⟩
theorem Rep.row {w : World} {g : Nat} {k : IntKind} {t : TypeId} {l : List Nat} (h : Row w g k t l) (n cap : Nat) (hn : n ≤ l.length) (hc : n ≤ cap) : Rep w k (.slice (some ⟨g, 0, none⟩) n cap) (l.take n) := by
  have e : (l.take n).length = n := by simp; omega
  refine ⟨_, _, by rw [e], by rw [e]; exact hc, fun i hi => ⟨g, 0, rfl, ?_⟩⟩
  rw [Nat.zero_add, h.cell i (by omega)]; simp
theorem Rep.rowAll {w : World} {g : Nat} {k : IntKind} {t : TypeId} {l : List Nat} (h : Row w g k t l) (cap : Nat) (hc : l.length ≤ cap) : Rep w k (.slice (some ⟨g, 0, none⟩) l.length cap) l := by
  have := Rep.row h l.length cap (Nat.le_refl _) hc
  rwa [List.take_length] at this
theorem Rep.lt {w : World} {k : IntKind} {oa : Option Addr} {n cap : Nat} {l : List Nat} (h : Rep w k (.slice oa n cap) l) (i : Nat) (hi : i < l.length) : ∃ b off, oa = some ⟨b, off, none⟩ ∧ b < w.heap.size := by
  obtain ⟨oa', cap', he, hc, hcell⟩ := h
  cases he
  obtain ⟨b, off, rfl, hcl⟩ := hcell i hi
  exact ⟨b, off, rfl, block_lt_of_cell hcl⟩
theorem Rep.below {w w' : World} {k : IntKind} {v : Value} {l : List Nat} (h : Rep w k v l) {B : Nat} (hb : Below B w w') (hB : w.heap.size ≤ B) : Rep w' k v l := by
  obtain ⟨oa, cap, rfl, hc, hcell⟩ := h
  refine ⟨oa, cap, rfl, hc, fun i hi => ?_⟩
  obtain ⟨b, off, rfl, hcl⟩ := hcell i hi
  exact ⟨b, off, rfl, (hb.cell (p := ⟨b, off + i, none⟩) (Nat.lt_of_lt_of_le (block_lt_of_cell hcl) hB)).trans hcl⟩

theorem Tryz.info133 : (Tryz.prog.info? 133).map (fun i => (i.zero, i.size, i.bytes)) = some (some (.int .u32 0), 1, 4) := by kernel_rfl
theorem Tryz.info3 : (Tryz.prog.info? 3).map (fun i => (i.zero, i.size, i.bytes)) = some (some (.int .i64 0), 1, 8) := by kernel_rfl
theorem Tryz.info5 : (Tryz.prog.info? 5).map (fun i => (i.zero, i.size, i.bytes)) = some (some (.int .u8 0), 1, 1) := by kernel_rfl

theorem quo_u64 (P b : Int) (h0 : 0 ≤ P) (hb : 0 < b) (hP : P ≤ 9000000000000000000) (w : World) :
    (Op.intDiv .quo .u64 P b).run Tryz.prog w = .ok (.int .u64 (P / b)) w := by
  have hne : ¬ b = 0 := by omega
  have hq : P.tdiv b = P / b := Int.tdiv_eq_ediv_of_nonneg h0
  have h1 : P / b ≤ P := Int.ediv_le_self b h0
  have h2 : 0 ≤ P / b := Int.ediv_nonneg h0 (by omega)
  have hw : IntKind.u64.wrap (P / b) = P / b := IntWalk.u64_in _ ⟨h2, by omega⟩
  simp [Op.intDiv, go_sem, hne, hq, hw]
theorem rem_u64 (P b : Int) (h0 : 0 ≤ P) (hb : 0 < b) (hP : P ≤ 9000000000000000000) (w : World) :
    (Op.intDiv .rem .u64 P b).run Tryz.prog w = .ok (.int .u64 (P % b)) w := by
  have hne : ¬ b = 0 := by omega
  have hq : P.tmod b = P % b := Int.tmod_eq_emod_of_nonneg h0
  have h1 : P % b < b := Int.emod_lt_of_pos _ hb
  have h2 : 0 ≤ P % b := Int.emod_nonneg _ (by omega)
  have h3 : P % b ≤ P := by
    have := Int.emod_add_mul_ediv P b
    have h4 : 0 ≤ b * (P / b) := Int.mul_nonneg (by omega) (Int.ediv_nonneg h0 (by omega))
    omega
  have hw : IntKind.u64.wrap (P % b) = P % b := IntWalk.u64_in _ ⟨h2, by omega⟩
  simp [Op.intDiv, go_sem, hne, hq, hw]

/-- make of ints -/
theorem make_ints (w : World) (l c : Int) (h0 : 0 ≤ l) (hlc : l ≤ c) (hc : c ≤ 1000000000000) :
    (Instr.makeSlice 74 (.int .i64 l) (.int .i64 c)).run Tryz.prog w = .ok (.slice (some ⟨w.heap.size, 0, none⟩) l.toNat c.toNat) (w.alloc (.cells (ns .i64 (List.replicate c.toNat 0)) 3)) := by
  obtain ⟨i0, hi, hz0, hz1, hz2⟩ := info_parts Tryz.info3
  rw [run_make w 74 3 i0 _ Tryz.underlying74 hi hz0 .i64 .i64 l c h0 hlc (by rw [hz2]; omega) (by omega), hz1, Nat.mul_one]
  show Result.ok _ (w.alloc (.cells (madeCells #[Value.int .i64 0] c.toNat) 3)) = _
  rw [ns_zeros]

/-- a row of numbers, as the laws of append say it -/
def nl (k : IntKind) (l : List Nat) : List Value := l.map fun (x : Nat) => Value.int k (x : Int)
theorem ns_toList (k : IntKind) (l : List Nat) : (ns k l).toList = nl k l := by simp [ns, nl]
theorem nl_append (k : IntKind) (l m : List Nat) : nl k (l ++ m) = nl k l ++ nl k m := by simp [nl]
theorem nl_length (k : IntKind) (l : List Nat) : (nl k l).length = l.length := by simp [nl]
theorem nl_take (k : IntKind) (l : List Nat) (n : Nat) : nl k (l.take n) = (nl k l).take n := by simp [nl]
theorem Row.own {w : World} {g : Nat} {k : IntKind} {t : TypeId} {l : List Nat} (h : Row w g k t l) {base : Nat} (hb : base ≤ g) (n : Nat) (hn : n ≤ l.length) (hm : l.length ≤ maxLen) :
    w.ownsRow base t 1 (.slice (some ⟨g, 0, none⟩) n l.length) n (nl k (l.take n)) :=
  ⟨by rw [nl_length, List.length_take]; omega, .inr ⟨g, l.length, ns k l, rfl, hb, h, hn, hm, by rw [ns_size]; omega, by rw [ns_toList, nl_take, Nat.mul_one]⟩⟩
theorem Rep.own {w : World} {base : Nat} {t : TypeId} {v : Value} {n : Nat} {k : IntKind} {l : List Nat} (h : w.ownsRow base t 1 v n (nl k l)) : Rep w k v l := by
  have hl := h.1
  rw [nl_length, Nat.mul_one] at hl
  subst hl
  rcases h.2 with ⟨rfl, h0⟩ | ⟨g, cap, cur, rfl, _, hg, hc, _, hs, ht⟩
  · have : l = [] := List.eq_nil_of_length_eq_zero h0
    subst this; exact Rep.nil w k
  · refine Rep.mk hc fun i hi => ?_
    rw [Nat.zero_add, cell_of_row w g i _ _ _ hg, ← Array.getElem?_toList]
    have : (nl k l)[i]? = some (.int k (l[i] : Nat)) := by simp [nl, hi]
    rw [← this, ← ht, List.getElem?_take, if_pos (by omega)]

end Go.Proofs.YtegobakoflbnfaaGreatDoor.QA

namespace Go.Proofs.YtegobakoflbnfaaGreatDoor.QA
open Go.RowKit Go.Shelf
attribute [local go_sem] Oper.semAt_some

/-- What the loop's own records turn: nothing below B, no cells, nothing of the streams. -/
structure Turn (B : Nat) (W W' : World) : Prop where
  below : Below B W W'
  cells : ∀ (i : Nat) (cs : Array Value) (t : TypeId) (fr : Nat × Nat), W.heap[i]? = some (.cells cs t fr) → W'.heap[i]? = some (.cells cs t fr)

theorem Turn.trans {B : Nat} {X Y Z : World} (h : Turn B X Y) (k : Turn B Y Z) : Turn B X Z := ⟨h.below.trans k.below, fun i cs t fr hi => k.cells i cs t fr (h.cells i cs t fr hi)⟩
theorem Turn.alloc {B : Nat} (W : World) (hB : B ≤ W.heap.size) (o : Obj) : Turn B W (W.alloc o) :=
  ⟨(Below.refl B W).alloc hB o, fun i _ _ _ hi => (heap_alloc_old W o (lt_of_block hi)).trans hi⟩
theorem Turn.put {B : Nat} {W : World} {l : Nat} {o : Obj} (o' : Obj) (hl : B ≤ l) (h : W.heap[l]? = some o) (ho : o.isCells = false) : Turn B W (W.putObj l o') := by
  have hlt : l < W.heap.size := lt_of_block h
  refine ⟨(Below.refl B W).grown (grownBy_putObj' W l o') (by omega) (fun k e => by cases e; exact hl), fun i cs t fr hi => ?_⟩
  rw [World.putObj_heap_other (fun e => by subst e; rw [h] at hi; cases hi; cases ho)]; exact hi
theorem Turn.cell {B : Nat} {W W' : World} (h : Turn B W W') {a : Addr} {v : Value} (hc : W.cell? a = some v) : W'.cell? a = some v := by
  unfold World.cell? at hc ⊢
  cases ho : W.heap[a.block]? with
  | none => simp [ho] at hc
  | some o =>
    cases o with
    | cells cs t fr => rw [h.cells _ _ _ _ ho]; simpa [ho] using hc
    | _ => simp [ho] at hc
theorem Row.turn {B : Nat} {W W' : World} (h : Turn B W W') {g : Nat} {k : IntKind} {t : TypeId} {l : List Nat} (hr : Row W g k t l) : Row W' g k t l := h.cells _ _ _ _ hr
theorem Rep.turn {B : Nat} {W W' : World} (h : Turn B W W') {k : IntKind} {v : Value} {l : List Nat} (hr : Rep W k v l) : Rep W' k v l := by
  obtain ⟨oa, cap, rfl, hc, hcell⟩ := hr
  refine ⟨oa, cap, rfl, hc, fun i hi => ?_⟩
  obtain ⟨b, off, rfl, hcl⟩ := hcell i hi
  exact ⟨b, off, rfl, h.cell hcl⟩

/-- what the iterator reads when k rounds are over -/
def Reads (D : Nat) (oa : Option Addr) (len cap : Nat) (k : Nat) (W : World) : Prop :=
  W.cell? ⟨D, 0, none⟩ = some (.slice oa len cap) ∧ (k < len → ∃ (b off : Nat) (x : Int), oa = some ⟨b, off, none⟩ ∧ W.cell? ⟨b, off + (len - 1 - k), none⟩ = some (.int .u32 x))

/-- A region without 'defer' is walked in a round as elsewhere. -/
theorem op_round {F : Fence} {n : Nat} {P : Program} {ops : Array Oper} {Q : Exit → Act → World → Prop} (l : Nat) (hro : F.round = none) (hnd : ops.toList.all (fun o => match o.op with | .defer _ => false | _ => true) = true)
    {K K' : Act → World → Prop} (hK : ∀ a w, K a w → K' a w) (i : Nat) (a : Act) (w : World) (h : wpOpIn F n P ops Q i K a w) : wpOpIn (F.inRound l) n P ops Q i K' a w := by
  have h := wpOpIn_mono hK h
  unfold wpOpIn at *
  cases ho : ops[i]? with
  | none => simpa [ho] using h
  | some o =>
    have hd : ∀ c, o.op ≠ .defer c := fun c hc => by
      have hm : o ∈ ops.toList := Array.mem_toList_iff.2 (Array.mem_of_getElem? ho)
      have := List.all_eq_true.1 hnd o hm
      simp [hc] at this
    simp only [ho] at h ⊢
    split
    · rename_i hw
      simp only [hw, if_true] at h
      unfold Oper.wpIn at *
      rw [Oper.semAt_eq _ _ _ hd] at h ⊢
      exact h
    · rename_i hw
      simp only [hw] at h
      exact h
theorem any_round {F : Fence} {n : Nat} {P : Program} {ops : Array Oper} {Q : Exit → Act → World → Prop} {md : Region.Mode} (l : Nat) (hro : F.round = none)
    (hnd : ops.toList.all (fun o => match o.op with | .defer _ => false | _ => true) = true) : ∀ (fuel : Nat) (listed : Array Bool) (a : Act) (w : World),
    wpAnyIn F n P md ops Q fuel listed a w → wpAnyIn (F.inRound l) n P md ops Q fuel listed a w
  | 0, _, _, _, h => h
  | fuel + 1, listed, a, w, h => ⟨h.1, fun i hi => op_round l hro hnd (fun a w => any_round l hro hnd fuel _ a w) i a w (h.2 i hi)⟩
theorem region_round {F : Fence} {n : Nat} {P : Program} {ops : Array Oper} {Q : Exit → Act → World → Prop} (l : Nat) (hro : F.round = none) (hm : P.follows .mixedOrders = true)
    (hnd : ops.toList.all (fun o => match o.op with | .defer _ => false | _ => true) = true) {id : Nat} {a : Act} {w : World}
    (h : wpAnyIn F n P .any ops Q ops.size (Array.replicate ops.size false) a w.drew) : (Code.region id ops true).wpIn (F.inRound l) n P Q a w :=
  wpIn_region_any hm (any_round l hro hnd _ _ _ _ h)

/-- it goes on -/
def OnlyNormal (R : Act → World → Prop) : Exit → Act → World → Prop
  | .normal, a, w => R a w
  | _, _, _ => False
theorem OnlyNormal.elim {R : Act → World → Prop} {Q : Exit → Act → World → Prop} (h : ∀ a w, R a w → Q .normal a w) : ∀ e a w, OnlyNormal R e a w → Q e a w := fun e a w he => by
  cases e <;> first | exact h a w he | exact False.elim he

/-- how a round may be left -/
def DownPost (I : Nat → World → Prop) (Ix : Code → World → Prop) (k : Nat) (W : World) : Exit → Act → World → Prop
  | .normal, _, W' => KeepsOthers W W' ∧ I (k + 1) W'
  | .ret, _, W' => KeepsOthers W W' ∧ Ix .ret W'
  | .exit id, _, W' => KeepsOthers W W' ∧ Ix (.exit id) W'
  | .goto t, _, W' => KeepsOthers W W' ∧ Ix (.goto t) W'
  | .panic _, _, _ => False
  | .outgrown, _, _ => False

theorem run_toRecord {W : World} {l : Nat} {r : Loop} (j : Option Code) (h : W.heap[l]? = some (.loop r)) :
    (Instr.endRound l j).run Tryz.prog W = .ok (.bool j.isNone) (W.putObj l (.loop { r with state := if j.isNone then .ready else .done, pending := j })) := run_endRound j h

theorem alloc_at (w : World) (o : Obj) (n : Nat) (h : n = w.heap.size) : (w.alloc o).heap[n]? = some o := by subst h; exact heap_alloc_new w o
theorem alloc_lt (w : World) (o : Obj) (n : Nat) (h : n < w.heap.size) : (w.alloc o).heap[n]? = w.heap[n]? := heap_alloc_old w o h
/-- a variable's own block -/
def Box (W : World) (B t : Nat) (v : Value) : Prop := W.heap[B]? = some (.cells #[v] t (0, 0))
theorem Box.new (w : World) (t : Nat) (v : Value) : Box (w.alloc (.cells #[v] t)) w.heap.size t v := heap_alloc_new w _
theorem Box.cell {W : World} {B t : Nat} {v : Value} (h : Box W B t v) : W.cell? ⟨B, 0, none⟩ = some v := cell_of_one h
theorem Box.free {W : World} {B t : Nat} {v : Value} (h : Box W B t v) : W.frozen? ⟨B, 0, none⟩ = false := free_of_one h
theorem Box.lt {W : World} {B t : Nat} {v : Value} (h : Box W B t v) : B < W.heap.size := lt_of_block h
theorem Box.alloc {W : World} {B t : Nat} {v : Value} (h : Box W B t v) (o : Obj) : Box (W.alloc o) B t v := (heap_alloc_old W o (lt_of_block h)).trans h
theorem Box.turn {C : Nat} {W W' : World} {B t : Nat} {v : Value} (h : Box W B t v) (k : Turn C W W') : Box W' B t v := k.cells _ _ _ _ h
theorem Box.set {W : World} {B t : Nat} {v : Value} (h : Box W B t v) (u : Value) : Box (W.setCell ⟨B, 0, none⟩ u) B t u := one_setCell h
theorem Box.other {W : World} {B t : Nat} {v : Value} (h : Box W B t v) (a : Addr) (u : Value) (ha : B ≠ a.block) : Box (W.setCell a u) B t v := (heap_setCell_other W a B u ha).trans h
theorem Box.below {C : Nat} {W W' : World} {B t : Nat} {v : Value} (h : Box W B t v) (k : Below C W W') (hB : B < C) : Box W' B t v := (k.block B hB).trans h

theorem Rep.take {w : World} {k : IntKind} {oa : Option Addr} {cap : Nat} {l : List Nat} (h : Rep w k (.slice oa l.length cap) l) (n : Nat) (hn : n ≤ l.length) : Rep w k (.slice oa n cap) (l.take n) := by
  obtain ⟨oa', cap', he, hc, hcell⟩ := h
  cases he
  have e : (l.take n).length = n := by simp; omega
  refine ⟨oa, cap, by rw [e], by rw [e]; omega, fun i hi => ?_⟩
  obtain ⟨b, off, rfl, hcl⟩ := hcell i (by omega)
  exact ⟨b, off, rfl, by rw [hcl]; simp⟩

theorem Rep.at' {w wr : World} {k : IntKind} {oa : Option Addr} {n cap : Nat} {l : List Nat} (h : Rep w k (.slice oa n cap) l) (hb : Below w.heap.size w wr) (i : Nat) (hi : i < l.length) :
    ∃ b off, oa = some ⟨b, off, none⟩ ∧ b < w.heap.size ∧ wr.cell? ⟨b, off + i, none⟩ = some (.int k (l[i]'hi : Nat)) := by
  obtain ⟨oa', cap', he, hc, hcell⟩ := h
  cases he
  obtain ⟨b, off, rfl, hcl⟩ := hcell i hi
  exact ⟨b, off, rfl, block_lt_of_cell hcl, (hb.cell (p := ⟨b, off + i, none⟩) (block_lt_of_cell hcl)).trans hcl⟩
theorem Rep.len {w : World} {k : IntKind} {oa : Option Addr} {n cap : Nat} {l : List Nat} (h : Rep w k (.slice oa n cap) l) : l.length = n ∧ n ≤ cap := by
  obtain ⟨oa', cap', he, hc, hcell⟩ := h
  cases he
  exact ⟨rfl, hc⟩
/-- the iterator's reading, of a slice that lay ahead of the loop -/
theorem Rep.reads {w W : World} {D : Nat} {oa : Option Addr} {n cap : Nat} {l : List Nat} (h : Rep w .u32 (.slice oa n cap) l) (hb : Below w.heap.size w W) (hD : Box W D 53 (.slice oa n cap)) (k : Nat) : Reads D oa n cap k W := by
  obtain ⟨rfl, _⟩ := h.len
  refine ⟨hD.cell, fun hk => ?_⟩
  obtain ⟨b, off, rfl, _, hc⟩ := h.at' hb (l.length - 1 - k) (by omega)
  exact ⟨b, off, _, rfl, hc⟩
/-- what the iterator hands over is the list's number -/
theorem Rep.word {w W : World} {oa : Option Addr} {n cap : Nat} {l : List Nat} (h : Rep w .u32 (.slice oa n cap) l) (hb : Below w.heap.size w W) {k b off : Nat} {x : Int} (hk : k < n) (hoa : oa = some ⟨b, off, none⟩)
    (hx : W.cell? ⟨b, off + (n - 1 - k), none⟩ = some (.int .u32 x)) : ∃ y, l[n - 1 - k]? = some y ∧ x = (y : Nat) := by
  obtain ⟨rfl, _⟩ := h.len
  subst hoa
  obtain ⟨b', off', he, _, hc⟩ := h.at' hb (l.length - 1 - k) (by omega)
  cases he
  rw [hx] at hc
  exact ⟨_, List.getElem?_eq_getElem (by omega), by simpa using hc⟩

end Go.Proofs.YtegobakoflbnfaaGreatDoor.QA

namespace Go.Proofs.YtegobakoflbnfaaGreatDoor.QA
open Go.RowKit Go.Shelf WN
attribute [local go_sem] Oper.semAt_some

def TrimOut (w : World) (l : List Nat) (e : Ending) (w' : World) : Prop := ∃ v, e = .returned v ∧ Rep w' .u32 v (trim l) ∧ Below w.heap.size w w'

def TrimI (w : World) (oa : Option Addr) (l : List Nat) (cap : Nat) (k : Nat) (W : World) : Prop :=
  Box W w.heap.size 53 (.slice oa l.length cap) ∧ Box W (w.heap.size + 1) 53 (.slice none 0 0) ∧ Box W (w.heap.size + 1 + 1) 53 (.slice oa l.length cap) ∧
    Rep W .u32 (.slice oa l.length cap) l ∧ Below w.heap.size w W ∧ ∀ j (hj : j < l.length), l.length ≤ j + k → l[j] = 0
def TrimX (w : World) (l : List Nat) (c : Code) (W : World) : Prop := c = .ret ∧ ∃ v, Box W (w.heap.size + 1) 53 v ∧ Rep W .u32 v (trim l) ∧ Below w.heap.size w W

theorem TrimI.reads {w : World} {oa : Option Addr} {l : List Nat} {cap k : Nat} {W : World} (h : TrimI w oa l cap k W) : Reads (w.heap.size + 1 + 1) oa l.length cap k W := by
  obtain ⟨_, _, h3, hr, _, _⟩ := h
  refine ⟨h3.cell, fun hk => ?_⟩
  obtain ⟨oa', cap', he, _, hcell⟩ := hr
  cases he
  obtain ⟨b, off, rfl, hc⟩ := hcell (l.length - 1 - k) (by omega)
  exact ⟨b, off, _, rfl, hc⟩

end Go.Proofs.YtegobakoflbnfaaGreatDoor.QA

namespace Go.Proofs.YtegobakoflbnfaaGreatDoor.QA
open Go.RowKit WN


/-- the sum's loop, at the head of a round -/
def PlusInv (lx ly : List Nat) (w wr : World) (G k c : Nat) : Prop :=
  ∃ s, s.length = k ∧ Digs 1000000000 s ∧ val 1000000000 s + 1000000000 ^ k * c = val 1000000000 (lx.take k) + val 1000000000 (ly.take k) ∧
    Row wr G .u32 133 (s ++ List.replicate (lx.length + 1 - k) 0) ∧ Below w.heap.size w wr

theorem one_cell (w : World) (x t : Nat) : ∀ j u, (nl .u32 [x])[j]? = some u → (w.alloc (.cells #[.int .u32 (x : Int)] t)).cell? ((⟨w.heap.size, 0, none⟩ : Addr).add j) = some u := by
  intro j u h
  match j, h with
  | 0, h => simp [nl] at h; subst h; simp [Addr.add]
  | j + 1, h => simp [nl] at h

def PlusOut (w : World) (lx ly : List Nat) (e : Ending) (w' : World) : Prop :=
  ∃ v l, e = .returned v ∧ Rep w' .u32 v l ∧ Digs 1000000000 l ∧ (Top lx → Top l) ∧ val 1000000000 l = val 1000000000 lx + val 1000000000 ly ∧ Below w.heap.size w w'

theorem set_next {s : List Nat} {k n : Nat} (hs : s.length = k) (hk : k < n) (x : Nat) : (s ++ List.replicate (n - k) 0).set k x = (s ++ [x]) ++ List.replicate (n - (k + 1)) 0 := by
  subst hs
  obtain ⟨m, hm⟩ : ∃ m, n - s.length = m + 1 := ⟨n - s.length - 1, by omega⟩
  rw [hm, show n - (s.length + 1) = m from by omega, List.replicate_succ, List.set_append_right _ _ (Nat.le_refl _)]
  simp

theorem PlusInv.step {lx ly : List Nat} {w wr : World} {G k c : Nat} (h : PlusInv lx ly w wr G k c) (hG : w.heap.size ≤ G) (hk : k < lx.length) (x y : Nat) (hx : lx[k]? = some x) (hy : ly[k]?.getD 0 = y) :
    PlusInv lx ly w (wr.setCell ⟨G, k, none⟩ (.int .u32 ((x + c + y) % 1000000000 : Nat))) G (k + 1) ((x + c + y) / 1000000000) := by
  obtain ⟨s, hs, hd, hv, hr, hb⟩ := h
  refine ⟨s ++ [(x + c + y) % 1000000000], by simp [hs], hd.snoc (Nat.mod_lt _ (by omega)), ?_, ?_, hb.setCell hG _⟩
  · have e1 : val 1000000000 (lx.take (k + 1)) = val 1000000000 (lx.take k) + 1000000000 ^ k * x := by
      rw [val_take_succ _ _ _ hk]; rw [List.getElem?_eq_getElem hk] at hx; cases hx; rfl
    have e2 : val 1000000000 (ly.take (k + 1)) = val 1000000000 (ly.take k) + 1000000000 ^ k * y := by
      by_cases hky : k < ly.length
      · rw [val_take_succ _ _ _ hky]; rw [List.getElem?_eq_getElem hky] at hy; simp at hy; rw [hy]
      · rw [List.getElem?_eq_none (by omega)] at hy
        simp at hy; subst hy
        rw [List.take_of_length_le (by omega), List.take_of_length_le (by omega)]; simp
    rw [val_snoc, e1, e2, hs, Nat.pow_succ]
    have e3 := Nat.mod_add_div (x + c + y) 1000000000
    generalize hP : 1000000000 ^ k = P at *
    generalize (x + c + y) / 1000000000 = q at *
    generalize (x + c + y) % 1000000000 = r at *
    have e4 : P * (r + 1000000000 * q) = P * (x + c + y) := by rw [e3]
    rw [Nat.mul_add, Nat.mul_add, Nat.mul_add, ← Nat.mul_assoc] at e4
    omega
  · rw [← set_next hs (by omega)]; exact hr.set k _

theorem PlusInv.out {lx ly : List Nat} {w wr : World} {G k c : Nat} (h : PlusInv lx ly w wr G k c) (hk : k = lx.length) (hxy : ly.length ≤ lx.length) (hc : c = 0) (dx : Digs 1000000000 lx) (cap : Nat) (hcap : cap = lx.length + 1):
    PlusOut w lx ly (.returned (.slice (some ⟨G, 0, none⟩) lx.length cap)) wr := by
  subst hk; subst hcap
  obtain ⟨s, hs, hd, hv, hr, hb⟩ := h
  rw [List.take_of_length_le (Nat.le_refl _), List.take_of_length_le hxy, hc] at hv
  refine ⟨_, s, rfl, ?_, hd, ?_, by omega, hb⟩
  · have := Rep.row hr s.length (lx.length + 1) (by simp) (by omega)
    rw [List.take_left] at this
    rwa [hs] at this
  · intro ht
    by_cases h0 : lx = []
    · subst h0
      have : s = [] := List.eq_nil_of_length_eq_zero (by simpa using hs)
      subst this; exact Top.nil
    · have h1 := pow_le_val (B := 1000000000) ht h0
      intro hl
      obtain ⟨m, rfl⟩ : ∃ m, s = m ++ [0] := by
        have hne : s ≠ [] := by intro h; subst h; simp at hl
        refine ⟨s.dropLast, ?_⟩
        have := List.dropLast_concat_getLast hne
        rw [List.getLast?_eq_some_getLast hne] at hl
        rw [Option.some.inj hl] at this; exact this.symm
      rw [val_snoc] at hv
      have h2 := val_lt (B := 1000000000) (by omega) (l := m) (fun x hx => hd x (by simp [hx]))
      simp only [List.length_append, List.length_cons, List.length_nil, Nat.zero_add] at hs
      rw [← hs] at h1
      simp only [Nat.add_sub_cancel] at h1
      omega

theorem PlusInv.own {lx ly : List Nat} {w wr : World} {G k c : Nat} (h : PlusInv lx ly w wr G k c) (hG : w.heap.size ≤ G) (hk : k = lx.length) (hlim : lx.length ≤ 100000000000) :
    ∃ s, s.length = lx.length ∧ Digs 1000000000 s ∧ val 1000000000 s + 1000000000 ^ lx.length * c = val 1000000000 (lx.take lx.length) + val 1000000000 (ly.take lx.length) ∧
      wr.ownsRow w.heap.size 133 1 (.slice (some ⟨G, 0, none⟩) lx.length (lx.length + 1)) lx.length (nl .u32 s) ∧ Below w.heap.size w wr := by
  subst hk
  obtain ⟨s, hs, hd, hv, hr, hb⟩ := h
  have h := Row.own hr hG lx.length (by simp; omega) (by unfold maxLen; simp; omega)
  rw [show (s ++ List.replicate (lx.length + 1 - lx.length) (0 : Nat)).length = lx.length + 1 from by simp [hs], List.take_append_of_le_length (by omega), List.take_of_length_le (by omega)] at h
  exact ⟨s, hs, hd, hv, h, hb⟩

theorem plus_outMore {lx ly : List Nat} {w w' : World} {v : Value} {c n : Nat} {s : List Nat} (hs : s.length = lx.length) (hd : Digs 1000000000 s)
    (hv : val 1000000000 s + 1000000000 ^ lx.length * c = val 1000000000 (lx.take lx.length) + val 1000000000 (ly.take lx.length)) (hc : c ≠ 0) (hc1 : c ≤ 1) (hxy : ly.length ≤ lx.length)
    (ho : w'.ownsRow w.heap.size 133 1 v n (nl .u32 s ++ nl .u32 [c])) (hb : Below w.heap.size w w') : PlusOut w lx ly (.returned v) w' := by
  rw [← nl_append] at ho
  rw [List.take_of_length_le (Nat.le_refl _), List.take_of_length_le hxy] at hv
  refine ⟨v, s ++ [c], rfl, Rep.own ho, hd.snoc (by omega), fun _ => top_snoc hc, ?_, hb⟩
  rw [val_snoc, hs]; exact hv

end Go.Proofs.YtegobakoflbnfaaGreatDoor.QA

namespace Go.Proofs.YtegobakoflbnfaaGreatDoor.QA
open Go.RowKit WN

def MinusInv (lx ly : List Nat) (w wr : World) (G k c : Nat) : Prop :=
  ∃ s, s.length = k ∧ Digs 1000000000 s ∧ val 1000000000 s + val 1000000000 (ly.take k) = val 1000000000 (lx.take k) + 1000000000 ^ k * c ∧
    Row wr G .u32 133 (s ++ List.replicate (lx.length - k) 0) ∧ Below w.heap.size w wr

theorem MinusInv.step {lx ly : List Nat} {w wr : World} {G k c : Nat} (h : MinusInv lx ly w wr G k c) (hG : w.heap.size ≤ G) (hk : k < lx.length) (x y d c' : Nat) (hx : lx[k]? = some x) (hy : ly[k]?.getD 0 = y)
    (he : x + 1000000000 * c' = d + (c + y)) (hd9 : d < 1000000000) :
    MinusInv lx ly w (wr.setCell ⟨G, k, none⟩ (.int .u32 (d : Nat))) G (k + 1) c' := by
  obtain ⟨s, hs, hd, hv, hr, hb⟩ := h
  refine ⟨s ++ [d], by simp [hs], hd.snoc hd9, ?_, ?_, hb.setCell hG _⟩
  · have e1 : val 1000000000 (lx.take (k + 1)) = val 1000000000 (lx.take k) + 1000000000 ^ k * x := by
      rw [val_take_succ _ _ _ hk]; rw [List.getElem?_eq_getElem hk] at hx; cases hx; rfl
    have e2 : val 1000000000 (ly.take (k + 1)) = val 1000000000 (ly.take k) + 1000000000 ^ k * y := by
      by_cases hky : k < ly.length
      · rw [val_take_succ _ _ _ hky]; rw [List.getElem?_eq_getElem hky] at hy; simp at hy; rw [hy]
      · rw [List.getElem?_eq_none (by omega)] at hy
        simp at hy; subst hy
        rw [List.take_of_length_le (by omega), List.take_of_length_le (by omega)]; simp
    rw [val_snoc, e1, e2, hs, Nat.pow_succ]
    generalize hP : 1000000000 ^ k = P at *
    have e4 : P * (x + 1000000000 * c') = P * (d + (c + y)) := by rw [he]
    rw [Nat.mul_add, Nat.mul_add, Nat.mul_add, ← Nat.mul_assoc] at e4
    omega
  · rw [← set_next hs (by omega)]; exact hr.set k _

def MinusOut (w : World) (lx ly : List Nat) (e : Ending) (w' : World) : Prop :=
  ∃ v l, e = .returned v ∧ Rep w' .u32 v l ∧ Canon 1000000000 l ∧ val 1000000000 l + val 1000000000 ly = val 1000000000 lx ∧ Below w.heap.size w w'

theorem MinusInv.rep {lx ly : List Nat} {w wr : World} {G k c : Nat} (h : MinusInv lx ly w wr G k c) (hk : k = lx.length) (hle : ly.length ≤ lx.length) (hv : val 1000000000 ly ≤ val 1000000000 lx) :
    ∃ s, Rep wr .u32 (.slice (some ⟨G, 0, none⟩) lx.length lx.length) s ∧ Digs 1000000000 s ∧ val 1000000000 s + val 1000000000 ly = val 1000000000 lx ∧ Below w.heap.size w wr := by
  subst hk
  obtain ⟨s, hs, hd, he, hr, hb⟩ := h
  rw [Nat.sub_self, List.replicate_zero, List.append_nil] at hr
  rw [List.take_of_length_le (Nat.le_refl _), List.take_of_length_le hle] at he
  have h1 := val_lt (B := 1000000000) (by omega) hd
  rw [hs] at h1
  have hc : c = 0 := by
    rcases Nat.eq_zero_or_pos c with h | h
    · exact h
    · have : 1000000000 ^ lx.length * 1 ≤ 1000000000 ^ lx.length * c := Nat.mul_le_mul_left _ h
      omega
  subst hc
  have := Rep.rowAll hr lx.length (by omega)
  rw [hs] at this
  exact ⟨s, this, hd, by omega, hb⟩

end Go.Proofs.YtegobakoflbnfaaGreatDoor.QA

namespace Go.Proofs.YtegobakoflbnfaaGreatDoor.QA
open Go.RowKit WN

end Go.Proofs.YtegobakoflbnfaaGreatDoor.QA

namespace Go.Proofs.YtegobakoflbnfaaGreatDoor.QA
open Go.RowKit WN

def TimesInv (lx ly : List Nat) (w wr : World) (G i : Nat) : Prop :=
  ∃ p, p.length = lx.length + ly.length ∧ Digs 1000000000 p ∧ val 1000000000 (p.take (i + ly.length)) = val 1000000000 (lx.take i) * val 1000000000 ly ∧ Row wr G .u32 133 p ∧ Below w.heap.size w wr

def TimesIn (lx ly : List Nat) (w wr : World) (G i x j c : Nat) : Prop :=
  ∃ p p0 : List Nat, p.length = lx.length + ly.length ∧ Digs 1000000000 p ∧ val 1000000000 (p0.take (i + ly.length)) = val 1000000000 (lx.take i) * val 1000000000 ly ∧
    (∀ t, i + j ≤ t → p[t]? = p0[t]?) ∧ val 1000000000 (p.take (i + j)) + 1000000000 ^ (i + j) * c = val 1000000000 (p0.take (i + j)) + 1000000000 ^ i * (x * val 1000000000 (ly.take j)) ∧
    Row wr G .u32 133 p ∧ Below w.heap.size w wr

theorem TimesInv.begin {lx ly : List Nat} {w wr : World} {G i : Nat} (h : TimesInv lx ly w wr G i) (x : Nat) : TimesIn lx ly w wr G i x 0 0 := by
  obtain ⟨p, hp, hd, hv, hr, hb⟩ := h
  exact ⟨p, p, hp, hd, hv, fun _ _ => rfl, by simp, hr, hb⟩

theorem TimesIn.step {lx ly : List Nat} {w wr : World} {G i x j c : Nat} (h : TimesIn lx ly w wr G i x j c) (hG : w.heap.size ≤ G) (hij : i + j < lx.length + ly.length) (y q d c' : Nat)
    (hq : ∀ p, Row wr G .u32 133 p → p[i + j]?.getD 0 = q) (hy : ly[j]?.getD 0 = y) (he : x * y + q + c = d + 1000000000 * c') (hd9 : d < 1000000000) :
    TimesIn lx ly w (wr.setCell ⟨G, i + j, none⟩ (.int .u32 (d : Nat))) G i x (j + 1) c' := by
  obtain ⟨p, p0, hp, hd, hv, hs, hI, hr, hb⟩ := h
  have hpq := hq p hr
  refine ⟨p.set (i + j) d, p0, by simpa using hp, hd.set _ _ hd9, hv, fun t ht => ?_, ?_, hr.set _ _, hb.setCell hG _⟩
  · rw [List.getElem?_set_ne (by omega)]; exact hs t (by omega)
  · have e1 : val 1000000000 ((p.set (i + j) d).take (i + (j + 1))) = val 1000000000 (p.take (i + j)) + 1000000000 ^ (i + j) * d := by
      rw [← Nat.add_assoc, val_take_next, take_set]
      simp [hp, hij]
    have e2 : val 1000000000 (p0.take (i + (j + 1))) = val 1000000000 (p0.take (i + j)) + 1000000000 ^ (i + j) * q := by
      rw [← Nat.add_assoc, val_take_next, ← hs (i + j) (Nat.le_refl _), hpq]
    have e3 := val_take_next 1000000000 ly j
    rw [hy] at e3
    rw [e1, e2, e3, ← Nat.add_assoc, Nat.pow_succ]
    have e4 : 1000000000 ^ i * (x * (val 1000000000 (ly.take j) + 1000000000 ^ j * y)) = 1000000000 ^ i * (x * val 1000000000 (ly.take j)) + 1000000000 ^ (i + j) * (x * y) := by
      rw [Nat.mul_add, Nat.mul_add, Nat.pow_add, Nat.mul_assoc, Nat.mul_left_comm x]
    rw [e4]
    have e5 : 1000000000 ^ (i + j) * (x * y + q + c) = 1000000000 ^ (i + j) * (d + 1000000000 * c') := by rw [he]
    rw [Nat.mul_add, Nat.mul_add, Nat.mul_add, ← Nat.mul_assoc (1000000000 ^ (i + j)) 1000000000] at e5
    generalize 1000000000 ^ (i + j) * (x * y) = z1 at *
    generalize 1000000000 ^ i * (x * val 1000000000 (ly.take j)) = z2 at *
    generalize 1000000000 ^ (i + j) * 1000000000 * c' = z3 at *
    omega

theorem TimesIn.close {lx ly : List Nat} {w wr : World} {G i x c : Nat} (h : TimesIn lx ly w wr G i x ly.length c) (hG : w.heap.size ≤ G) (hi : i < lx.length) (hx : lx[i]? = some x) (hc : c < 1000000000) :
    TimesInv lx ly w (wr.setCell ⟨G, i + ly.length, none⟩ (.int .u32 (c : Nat))) G (i + 1) := by
  obtain ⟨p, p0, hp, hd, hv, hs, hI, hr, hb⟩ := h
  refine ⟨p.set (i + ly.length) c, by simpa using hp, hd.set _ _ hc, ?_, hr.set _ _, hb.setCell hG _⟩
  rw [Nat.add_right_comm, val_take_next, take_set]
  rw [List.take_length] at hI
  have e1 : (p.set (i + ly.length) c)[i + ly.length]?.getD 0 = c := by simp [hp, hi]
  rw [e1, hI, hv, val_take_next, hx, Option.getD_some, Nat.add_mul, Nat.mul_assoc]

theorem TimesIn.cell {lx ly : List Nat} {w wr : World} {G i x j c : Nat} (h : TimesIn lx ly w wr G i x j c) (hij : i + j < lx.length + ly.length) :
    ∃ q, q < 1000000000 ∧ wr.cell? ⟨G, i + j, none⟩ = some (.int .u32 (q : Nat)) ∧ wr.frozen? ⟨G, i + j, none⟩ = false ∧ (∀ p, Row wr G .u32 133 p → p[i + j]?.getD 0 = q) := by
  obtain ⟨p, p0, hp, hd, hv, hs, hI, hr, hb⟩ := h
  refine ⟨p[i + j], hd.get _ (by omega), hr.cell _ (by omega), hr.free _, fun p' hr' => ?_⟩
  unfold Row at hr hr'
  rw [hr] at hr'
  have e := congrArg (fun o => match o with | some (Obj.cells cs _ _) => cs[i + j]? | _ => none) hr'
  simp only [ns_get] at e
  rw [List.getElem?_eq_getElem (by omega)] at e
  cases h : p'[i + j]? with
  | none => rw [h] at e; simp at e
  | some z => rw [h] at e; simp at e; simp; omega

def TimesOut (w : World) (lx ly : List Nat) (e : Ending) (w' : World) : Prop :=
  ∃ v l, e = .returned v ∧ Rep w' .u32 v l ∧ Canon 1000000000 l ∧ val 1000000000 l = val 1000000000 lx * val 1000000000 ly ∧ Below w.heap.size w w'

theorem TimesInv.rep {lx ly : List Nat} {w wr : World} {G i : Nat} (h : TimesInv lx ly w wr G i) (hi : i = lx.length) :
    ∃ s, Rep wr .u32 (.slice (some ⟨G, 0, none⟩) (lx.length + ly.length) (lx.length + ly.length)) s ∧ Digs 1000000000 s ∧ val 1000000000 s = val 1000000000 lx * val 1000000000 ly ∧ Below w.heap.size w wr := by
  subst hi
  obtain ⟨p, hp, hd, hv, hr, hb⟩ := h
  rw [List.take_of_length_le (by omega), List.take_length] at hv
  have := Rep.rowAll hr (lx.length + ly.length) (by omega)
  rw [hp] at this
  exact ⟨p, this, hd, hv, hb⟩

end Go.Proofs.YtegobakoflbnfaaGreatDoor.QA

namespace Go.Proofs.YtegobakoflbnfaaGreatDoor.QA
open Go.RowKit Go.Shelf WN
attribute [local go_sem] Oper.semAt_some

def UintI (w : World) (v : Value) (l : List Nat) (k : Nat) (W : World) : Prop :=
  Box W w.heap.size 64 (.int .u64 (val 1000000000 (l.drop (l.length - k)) : Nat)) ∧ Box W (w.heap.size + 1) 53 v ∧ Below w.heap.size w W

theorem val_drop_next {B : Nat} {l : List Nat} {k y : Nat} (hk : k < l.length) (hy : l[l.length - 1 - k]? = some y) : val B (l.drop (l.length - (k + 1))) = y + B * val B (l.drop (l.length - k)) := by
  have h : l.length - 1 - k < l.length := by omega
  rw [show l.length - (k + 1) = l.length - 1 - k from by omega, val_drop _ _ _ h, show l.length - 1 - k + 1 = l.length - k from by omega]
  rw [List.getElem?_eq_getElem h] at hy
  cases hy; rfl

end Go.Proofs.YtegobakoflbnfaaGreatDoor.QA

namespace Go.Proofs.YtegobakoflbnfaaGreatDoor.QA
open Go.RowKit Go.Shelf WN
attribute [local go_sem] Oper.semAt_some

def cmpN (x y : Nat) : Int := if x < y then -1 else if y < x then 1 else 0

theorem cmpN_len {la lb : List Nat} (ca : Canon 1000000000 la) (cb : Canon 1000000000 lb) (h : la.length < lb.length) : val 1000000000 la < val 1000000000 lb := by
  have h1 := val_lt (B := 1000000000) (by omega) ca.1
  have h2 := pow_le_val (B := 1000000000) cb.2 (by intro e; subst e; simp at h)
  have h3 : 1000000000 ^ la.length ≤ 1000000000 ^ (lb.length - 1) := Nat.pow_le_pow_right (by omega) (by omega)
  omega

theorem cmpN_at {la lb : List Nat} (ca : Digs 1000000000 la) (cb : Digs 1000000000 lb) (hl : la.length = lb.length) {i x y : Nat} (hi : i < la.length) (hx : la[i]? = some x) (hy : lb[i]? = some y)
    (ht : la.drop (i + 1) = lb.drop (i + 1)) (hxy : x < y) : val 1000000000 la < val 1000000000 lb := by
  have hi2 : i < lb.length := hl ▸ hi
  rw [val_take_drop _ la i (by omega), val_take_drop _ lb i (by omega), val_drop _ _ _ hi, val_drop _ _ _ hi2, ht]
  rw [List.getElem?_eq_getElem hi] at hx
  rw [List.getElem?_eq_getElem hi2] at hy
  have hx := Option.some.inj hx
  have hy := Option.some.inj hy
  subst hx; subst hy
  have h1 := val_lt (B := 1000000000) (by omega) (ca.take i)
  rw [List.length_take, Nat.min_eq_left (by omega)] at h1
  generalize 1000000000 ^ i = P at *
  generalize val 1000000000 (lb.drop (i + 1)) = T at *
  generalize la[i] = x at *
  generalize lb[i] = y at *
  have h2 : P * (x + 1) ≤ P * y := Nat.mul_le_mul_left P hxy
  rw [Nat.mul_add, Nat.mul_add]
  rw [Nat.mul_add] at h2
  omega

def CmpOut (w : World) (la lb : List Nat) (e : Ending) (w' : World) : Prop := e = .returned (.int .i64 (cmpN (val 1000000000 la) (val 1000000000 lb))) ∧ Below w.heap.size w w'

def CmpI (w : World) (va vb : Value) (la lb : List Nat) (k : Nat) (W : World) : Prop :=
  Box W w.heap.size 53 vb ∧ Box W (w.heap.size + 1) 3 (.int .i64 0) ∧ Box W (w.heap.size + 1 + 1) 53 va ∧ Below w.heap.size w W ∧ la.drop (la.length - k) = lb.drop (la.length - k)
def CmpX (w : World) (r : Int) (c : Code) (W : World) : Prop := c = .ret ∧ Box W (w.heap.size + 1) 3 (.int .i64 r) ∧ Below w.heap.size w W

end Go.Proofs.YtegobakoflbnfaaGreatDoor.QA

-- from A2
/- subtractTimes, addBack, guess: what long division does with a part of the rest. Numbers in memory, and what the functions of words do with them. -/
namespace Go.Proofs.YtegobakoflbnfaaGreatDoor.QA
open Go.RowKit Go.Shelf WN
attribute [local go_sem] Oper.semAt_some

def OverWI (w : World) (va : Value) (l : List Nat) (b : Nat) (k : Nat) (W : World) : Prop :=
  ∃ qs r, qs.length = k ∧ Digs 1000000000 qs ∧ r < b ∧ val 1000000000 (l.drop (l.length - k)) = b * val 1000000000 qs + r ∧
    Row W (w.heap.size + 1) .u32 133 (List.replicate (l.length - k) 0 ++ qs) ∧ Box W w.heap.size 117 (.int .u32 (b : Nat)) ∧ Box W (w.heap.size + 1 + 1) 53 (.slice (some ⟨w.heap.size + 1, 0, none⟩) l.length l.length) ∧
    Box W (w.heap.size + 1 + 1 + 1) 64 (.int .u64 (r : Nat)) ∧ Box W (w.heap.size + 1 + 1 + 1 + 1) 53 va ∧ Below w.heap.size w W

def OverWOut (w : World) (l : List Nat) (b : Nat) (e : Ending) (w' : World) : Prop :=
  ∃ v q, e = .returned (.tuple #[v, .int .u32 (val 1000000000 l % b : Nat)]) ∧ Rep w' .u32 v q ∧ Canon 1000000000 q ∧ val 1000000000 q = val 1000000000 l / b ∧ Below w.heap.size w w'

theorem set_prev {qs : List Nat} {k n : Nat} (hk : k < n) (d : Nat) : (List.replicate (n - k) 0 ++ qs).set (n - 1 - k) d = List.replicate (n - (k + 1)) 0 ++ (d :: qs) := by
  obtain ⟨m, hm⟩ : ∃ m, n - k = m + 1 := ⟨n - k - 1, by omega⟩
  rw [hm, show n - 1 - k = m from by omega, show n - (k + 1) = m from by omega, List.replicate_succ', List.append_assoc, List.set_append_right _ _ (by simp)]
  simp

theorem OverWI.step {w W : World} {va : Value} {l : List Nat} {b k x : Nat} (hk : k < l.length) (hb : 0 < b) (hx : l[l.length - 1 - k]? = some x) (hx9 : x < 1000000000)
    {qs : List Nat} {r : Nat} (h1 : qs.length = k) (h2 : Digs 1000000000 qs) (h3 : r < b) (h4 : val 1000000000 (l.drop (l.length - k)) = b * val 1000000000 qs + r) (h5 : Row W (w.heap.size + 1) .u32 133 (List.replicate (l.length - k) 0 ++ qs))
    (h6 : Box W w.heap.size 117 (.int .u32 (b : Nat))) (h7 : Box W (w.heap.size + 1 + 1) 53 (.slice (some ⟨w.heap.size + 1, 0, none⟩) l.length l.length))
    (h8 : Box W (w.heap.size + 1 + 1 + 1) 64 (.int .u64 (r : Nat))) (h9 : Box W (w.heap.size + 1 + 1 + 1 + 1) 53 va) (h10 : Below w.heap.size w W) :
    OverWI w va l b (k + 1) ((W.setCell ⟨w.heap.size + 1, l.length - 1 - k, none⟩ (.int .u32 ((r * 1000000000 + x) / b : Nat))).setCell ⟨w.heap.size + 1 + 1 + 1, 0, none⟩ (.int .u64 ((r * 1000000000 + x) % b : Nat))) := by
  have hd : (r * 1000000000 + x) / b < 1000000000 := by
    rw [Nat.div_lt_iff_lt_mul hb]
    have : (r + 1) * 1000000000 ≤ b * 1000000000 := Nat.mul_le_mul_right _ h3
    rw [Nat.mul_comm 1000000000]; omega
  refine ⟨(r * 1000000000 + x) / b :: qs, (r * 1000000000 + x) % b, by simp [h1], h2.cons hd, Nat.mod_lt _ hb, ?_, ?_, ?_, ?_, ?_, ?_, ?_⟩
  · rw [val_drop_next hk hx, h4, val_cons]
    have e := Nat.div_add_mod (r * 1000000000 + x) b
    rw [Nat.mul_add, Nat.mul_add, Nat.mul_left_comm]
    generalize 1000000000 * (b * val 1000000000 qs) = z1 at *
    rw [show b * (1000000000 * val 1000000000 qs) = 1000000000 * (b * val 1000000000 qs) from Nat.mul_left_comm _ _ _]
    omega
  · have := (h5.set (l.length - 1 - k) ((r * 1000000000 + x) / b)).other ⟨w.heap.size + 1 + 1 + 1, 0, none⟩ (.int .u64 ((r * 1000000000 + x) % b : Nat)) (by simp <;> omega)
    rwa [set_prev hk] at this
  · exact (h6.other _ _ (by simp <;> omega)).other _ _ (by simp <;> omega)
  · exact (h7.other _ _ (by simp <;> omega)).other _ _ (by simp <;> omega)
  · exact (h8.other _ _ (by simp <;> omega)).set _
  · exact (h9.other _ _ (by simp <;> omega)).other _ _ (by simp <;> omega)
  · exact (h10.setCell (p := ⟨w.heap.size + 1, _, none⟩) (by simp <;> omega) _).setCell (p := ⟨w.heap.size + 1 + 1 + 1, 0, none⟩) (by simp <;> omega) _

end Go.Proofs.YtegobakoflbnfaaGreatDoor.QA

namespace Go.Proofs.YtegobakoflbnfaaGreatDoor.QA
open Go.RowKit WN

/-- block g holds l; of what lay, nothing but block g has turned -/
def Only (w w' : World) (g : Nat) (l : List Nat) : Prop := Row w' g .u32 133 l ∧ w.grownBy w' (some g) ∧ w'.heap.size = w.heap.size

theorem Only.set {w w' : World} {g : Nat} {l : List Nat} (h : Only w w' g l) (i x : Nat) : Only w (w'.setCell ⟨g, i, none⟩ (.int .u32 (x : Nat))) g (l.set i x) :=
  ⟨h.1.set i x, ⟨h.2.1.os, h.2.1.tape, h.2.1.output, by simpa using h.2.1.size, fun k hk hne => (Below.heap_setCell _ _ _ _ (fun e => hne (by rw [e]))).trans (h.2.1.block k hk hne)⟩, by simpa using h.2.2⟩
theorem Only.refl {w : World} {g : Nat} {l : List Nat} (h : Row w g .u32 133 l) : Only w w g l := ⟨h, ⟨rfl, rfl, rfl, Nat.le_refl _, fun _ _ _ => rfl⟩, rfl⟩
theorem Rep.only {w w' : World} {g : Nat} {l m : List Nat} {k : IntKind} {oa : Option Addr} {n cap : Nat} (h : Rep w k (.slice oa n cap) l) (ho : Only w w' g m) (hne : ∀ b off, oa = some ⟨b, off, none⟩ → b ≠ g) (i : Nat) (hi : i < l.length) :
    ∃ b off, oa = some ⟨b, off, none⟩ ∧ b < w.heap.size ∧ w'.cell? ⟨b, off + i, none⟩ = some (.int k (l[i]'hi : Nat)) := by
  obtain ⟨oa', cap', he, hc, hcell⟩ := h
  cases he
  obtain ⟨b, off, rfl, hcl⟩ := hcell i hi
  have hb := block_lt_of_cell hcl
  exact ⟨b, off, rfl, hb, (World.cell?_of_block (ho.2.1.block b hb (by intro e; exact hne b off rfl (Option.some.inj e)))).trans hcl⟩

/-- the digits of l from o on, n of them, as a number -/
def part (l : List Nat) (o n : Nat) : Nat := val 1000000000 ((l.drop o).take n)

theorem part_set {l : List Nat} {o k x : Nat} (h : o + k < l.length) : part (l.set (o + k) x) o k = part l o k ∧ part (l.set (o + k) x) o (k + 1) = part l o k + 1000000000 ^ k * x := by
  have e : ((l.set (o + k) x).drop o).take k = (l.drop o).take k := by
    rw [List.drop_set, if_neg (by omega), Nat.add_sub_cancel_left, take_set]
  refine ⟨by unfold part; rw [e], ?_⟩
  unfold part
  rw [val_take_next, e]
  congr 2
  rw [List.getElem?_drop]; simp [h]

theorem part_succ (l : List Nat) (o k : Nat) : part l o (k + 1) = part l o k + 1000000000 ^ k * (l[o + k]?.getD 0) := by
  unfold part
  rw [val_take_next, List.getElem?_drop]

/-- subtractTimes, at the head of a round -/
def SubInv (l lb : List Nat) (o f : Nat) (w wr : World) (g k c : Nat) : Prop :=
  ∃ m, m.length = l.length ∧ Digs 1000000000 m ∧ (∀ t, t < o ∨ o + k ≤ t → m[t]? = l[t]?) ∧ part m o k + f * val 1000000000 (lb.take k) = part l o k + 1000000000 ^ k * c ∧ Only w wr g m

theorem SubInv.step {l lb : List Nat} {o f : Nat} {w wr : World} {g k c : Nat} (h : SubInv l lb o f w wr g k c) (hk : o + k < l.length) (x y d c' : Nat) (hx : l[o + k]? = some x) (hy : lb[k]?.getD 0 = y)
    (he : x + 1000000000 * c' = d + (c + f * y)) (hd : d < 1000000000) {wn : World} (hset : ∀ m, Only w wr g m → Only w wn g (m.set (o + k) d)) :
    SubInv l lb o f w wn g (k + 1) c' := by
  obtain ⟨m, hm, hdm, hs, hv, ho⟩ := h
  obtain ⟨p1, p2⟩ := part_set (l := m) (x := d) (by omega : o + k < m.length)
  refine ⟨m.set (o + k) d, by simpa using hm, hdm.set _ _ hd, fun t ht => ?_, ?_, hset m ho⟩
  · rw [List.getElem?_set_ne (by omega)]; exact hs t (by omega)
  · rw [p2, part_succ l, hx, Option.getD_some, val_take_next, hy, Nat.pow_succ]
    generalize 1000000000 ^ k = P at *
    have e4 : P * (x + 1000000000 * c') = P * (d + (c + f * y)) := by rw [he]
    rw [Nat.mul_add, Nat.mul_add, Nat.mul_add, ← Nat.mul_assoc] at e4
    rw [Nat.mul_add, ← Nat.mul_assoc f P y, Nat.mul_comm f P, Nat.mul_assoc P f y]
    omega

theorem SubInv.cell {l lb : List Nat} {o f : Nat} {w wr : World} {g k c : Nat} (h : SubInv l lb o f w wr g k c) (hk : o + k < l.length) :
    ∃ x, x < 1000000000 ∧ l[o + k]? = some x ∧ wr.cell? ⟨g, o + k, none⟩ = some (.int .u32 (x : Nat)) ∧ wr.frozen? ⟨g, o + k, none⟩ = false := by
  obtain ⟨m, hm, hdm, hs, hv, ho⟩ := h
  have e := hs (o + k) (.inr (Nat.le_refl _))
  rw [List.getElem?_eq_getElem (by omega)] at e
  exact ⟨m[o + k], hdm.get _ (by omega), e.symm, ho.1.cell _ (by omega), ho.1.free _⟩

def SubOut (l lb : List Nat) (o n f : Nat) (w : World) (g : Nat) (e : Ending) (w' : World) : Prop :=
  ∃ m c, e = .returned (.bool (decide (0 < c))) ∧ m.length = l.length ∧ Digs 1000000000 m ∧ (∀ t, t < o ∨ o + n ≤ t → m[t]? = l[t]?) ∧ part m o n + f * val 1000000000 lb = part l o n + 1000000000 ^ n * c ∧ Only w w' g m

/-- addBack -/
def AddOut (l lb : List Nat) (o n : Nat) (w : World) (g : Nat) (e : Ending) (w' : World) : Prop :=
  ∃ m c, e = .returned (.tuple #[]) ∧ m.length = l.length ∧ Digs 1000000000 m ∧ (∀ t, t < o ∨ o + n ≤ t → m[t]? = l[t]?) ∧ part m o n + 1000000000 ^ n * c = part l o n + val 1000000000 lb ∧ Only w w' g m

def AddInv (l lb : List Nat) (o : Nat) (w wr : World) (g k c : Nat) : Prop :=
  ∃ m, m.length = l.length ∧ Digs 1000000000 m ∧ (∀ t, t < o ∨ o + k ≤ t → m[t]? = l[t]?) ∧ part m o k + 1000000000 ^ k * c = part l o k + val 1000000000 (lb.take k) ∧ Only w wr g m

theorem AddInv.step {l lb : List Nat} {o : Nat} {w wr : World} {g k c : Nat} (h : AddInv l lb o w wr g k c) (hk : o + k < l.length) (x y : Nat) (hx : l[o + k]? = some x) (hy : lb[k]?.getD 0 = y) :
    AddInv l lb o w (wr.setCell ⟨g, o + k, none⟩ (.int .u32 ((x + c + y) % 1000000000 : Nat))) g (k + 1) ((x + c + y) / 1000000000) := by
  obtain ⟨m, hm, hdm, hs, hv, ho⟩ := h
  obtain ⟨p1, p2⟩ := part_set (l := m) (x := (x + c + y) % 1000000000) (by omega : o + k < m.length)
  refine ⟨m.set (o + k) ((x + c + y) % 1000000000), by simpa using hm, hdm.set _ _ (Nat.mod_lt _ (by omega)), fun t ht => ?_, ?_, ho.set _ _⟩
  · rw [List.getElem?_set_ne (by omega)]; exact hs t (by omega)
  · rw [p2, part_succ l, hx, Option.getD_some, val_take_next, hy, Nat.pow_succ]
    have e3 := Nat.mod_add_div (x + c + y) 1000000000
    generalize 1000000000 ^ k = P at *
    generalize (x + c + y) / 1000000000 = q at *
    generalize (x + c + y) % 1000000000 = r at *
    have e4 : P * (r + 1000000000 * q) = P * (x + c + y) := by rw [e3]
    rw [Nat.mul_add, Nat.mul_add, Nat.mul_add, ← Nat.mul_assoc] at e4
    omega

theorem AddInv.cell {l lb : List Nat} {o : Nat} {w wr : World} {g k c : Nat} (h : AddInv l lb o w wr g k c) (hk : o + k < l.length) :
    ∃ x, x < 1000000000 ∧ l[o + k]? = some x ∧ wr.cell? ⟨g, o + k, none⟩ = some (.int .u32 (x : Nat)) ∧ wr.frozen? ⟨g, o + k, none⟩ = false := by
  obtain ⟨m, hm, hdm, hs, hv, ho⟩ := h
  have e := hs (o + k) (.inr (Nat.le_refl _))
  rw [List.getElem?_eq_getElem (by omega)] at e
  exact ⟨m[o + k], hdm.get _ (by omega), e.symm, ho.1.cell _ (by omega), ho.1.free _⟩

end Go.Proofs.YtegobakoflbnfaaGreatDoor.QA

namespace Go.Proofs.YtegobakoflbnfaaGreatDoor.QA
open Go.RowKit WN

/-- the numbers of a guess: P is what is divided, v the divisor; both by their highest digits -/
structure GM (P v top high low p2 : Nat) : Prop where
  M : ∃ M pr vr, 0 < M ∧ P = (top * 1000000000 + p2) * M + pr ∧ pr < M ∧ v = (high * 1000000000 + low) * M + vr ∧ vr < M
  hp2 : p2 < 1000000000
  hlow : low < 1000000000
  hhigh : 0 < high
  hh9 : high < 1000000000
  hlt : P < v * 1000000000

theorem GM.vpos {P v top high low p2 : Nat} (h : GM P v top high low p2) : 0 < v := by
  have := h.hlt
  rcases Nat.eq_zero_or_pos v with h0 | h0
  · subst h0; omega
  · exact h0

theorem GM.top_lt {P v top high low p2 : Nat} (h : GM P v top high low p2) : top < (high + 1) * 1000000000 := by
  obtain ⟨M, pr, vr, hM, hP, hpr, hv, hvr⟩ := h.M
  have h1 := h.hlt
  have h2 := h.hlow
  have e1 : top * 1000000000 * M ≤ P := by rw [hP, Nat.add_mul]; omega
  have e2 : v < (high + 1) * 1000000000 * M := by
    rw [hv]
    have : (high * 1000000000 + low + 1) * M ≤ (high + 1) * 1000000000 * M := Nat.mul_le_mul_right M (by omega)
    rw [Nat.add_mul _ 1, Nat.one_mul] at this
    omega
  have e3 : top * 1000000000 * M < (high + 1) * 1000000000 * M * 1000000000 := by omega
  rw [Nat.mul_right_comm top] at e3
  have e5 : top * M < (high + 1) * 1000000000 * M := Nat.lt_of_mul_lt_mul_right e3
  exact Nat.lt_of_mul_lt_mul_right e5

theorem GM.start {P v top high low p2 : Nat} (h : GM P v top high low p2) : P / v ≤ top / high ∧ top / high ≤ 2000000000 := by
  have hv := h.vpos
  have ht := h.top_lt
  obtain ⟨M, pr, vr, hM, hP, hpr, hvv, hvr⟩ := h.M
  have hp2 := h.hp2
  constructor
  · apply Nat.le_of_lt_succ
    rw [Nat.div_lt_iff_lt_mul hv, Nat.succ_eq_add_one]
    have e1 : top + 1 ≤ (top / high + 1) * high := by
      have := Nat.div_add_mod top high
      have h3 := Nat.mod_lt top h.hhigh
      rw [Nat.add_mul, Nat.mul_comm]; omega
    have e2 : (top + 1) * (1000000000 * M) ≤ (top / high + 1) * high * (1000000000 * M) := Nat.mul_le_mul_right _ e1
    have e3 : (top / high + 1) * (high * 1000000000 * M) ≤ (top / high + 1) * v := Nat.mul_le_mul_left _ (by rw [hvv, Nat.add_mul]; omega)
    have e4 : P < (top + 1) * (1000000000 * M) := by
      rw [hP]
      have : (top * 1000000000 + p2 + 1) * M ≤ ((top + 1) * 1000000000) * M := Nat.mul_le_mul_right M (by omega)
      rw [Nat.mul_assoc (top + 1)] at this
      rw [Nat.add_mul _ 1, Nat.one_mul] at this
      omega
    rw [Nat.mul_assoc (top / high + 1) high, ← Nat.mul_assoc high] at e2
    omega
  · have h1 := h.hhigh
    have : top / high < 2000000001 := by
      rw [Nat.div_lt_iff_lt_mul h1]
      have : (high + 1) * 1000000000 ≤ 2000000001 * high := by omega
      omega
    omega

theorem GM.down {P v top high low p2 word rest : Nat} (h : GM P v top high low p2) (hw : word * high + rest = top) (hq : P / v ≤ word)
    (hc : 1000000000 ≤ word ∨ rest * 1000000000 + p2 < word * low) : P / v ≤ word - 1 ∧ 1 ≤ word := by
  have hv := h.vpos
  obtain ⟨M, pr, vr, hM, hP, hpr, hvv, hvr⟩ := h.M
  rcases hc with hc | hc
  · have : P / v < 1000000000 := by rw [Nat.div_lt_iff_lt_mul hv, Nat.mul_comm]; exact h.hlt
    generalize P / v = q at *
    omega
  · have h1 : P < word * v := by
      have e1 : word * ((high * 1000000000 + low) * M) ≤ word * v := Nat.mul_le_mul_left _ (by rw [hvv]; omega)
      have e2 : top * 1000000000 + p2 + 1 ≤ word * (high * 1000000000 + low) := by
        rw [Nat.mul_add, ← Nat.mul_assoc, ← hw, Nat.add_mul]; omega
      have e3 := Nat.mul_le_mul_right M e2
      rw [Nat.add_mul _ 1, Nat.one_mul, Nat.mul_assoc word] at e3
      omega
    have h2 : P / v < word := by rw [Nat.div_lt_iff_lt_mul hv]; exact h1
    clear h1 hc
    generalize P / v = q at *
    omega

theorem GM.stop {P v top high low p2 word rest : Nat} (h : GM P v top high low p2) (hw : word * high + rest = top) (hw9 : word < 1000000000)
    (hc : 1000000000 ≤ rest ∨ word * low ≤ rest * 1000000000 + p2) : word ≤ P / v + 1 := by
  have hv := h.vpos
  obtain ⟨M, pr, vr, hM, hP, hpr, hvv, hvr⟩ := h.M
  have hlow := h.hlow
  have hh := h.hhigh
  have e1 : word * (high * 1000000000 + low) ≤ top * 1000000000 + p2 := by
    rw [Nat.mul_add, ← Nat.mul_assoc, ← hw, Nat.add_mul]
    rcases hc with hc | hc
    · have : word * low ≤ 1000000000 * 1000000000 := Nat.mul_le_mul (by omega) (by omega)
      omega
    · omega
  rcases Nat.eq_zero_or_pos word with h0 | h0
  · rw [h0]; exact Nat.zero_le _
  obtain ⟨u, rfl⟩ : ∃ u, word = u + 1 := ⟨word - 1, by omega⟩
  have : u ≤ P / v := by
    rw [Nat.le_div_iff_mul_le hv]
    have e2 : u * v ≤ u * ((high * 1000000000 + low + 1) * M) := Nat.mul_le_mul_left _ (by rw [hvv, Nat.add_mul _ 1]; omega)
    have e3 : u * (high * 1000000000 + low + 1) ≤ top * 1000000000 + p2 := by
      rw [Nat.mul_add u _ 1, Nat.mul_one]
      rw [Nat.add_mul u 1] at e1
      generalize u * (high * 1000000000 + low) = z at *
      omega
    have e4 := Nat.mul_le_mul_right M e3
    rw [Nat.mul_assoc] at e4
    omega
  exact Nat.add_le_add_right this 1

theorem drewN_drewN (w : World) (a b : Nat) : (w.drewN a).drewN b = w.drewN (a + b) := by simp [World.drewN, Nat.add_assoc]

def GuessOut (P v : Nat) (w : World) (e : Ending) (w' : World) : Prop := ∃ q q' : Nat, e = .returned (.int .u32 (q : Nat)) ∧ q < 1000000000 ∧ P / v ≤ q ∧ q ≤ P / v + 1 ∧ w' = w.drewN q'

end Go.Proofs.YtegobakoflbnfaaGreatDoor.QA

namespace Go.Proofs.YtegobakoflbnfaaGreatDoor.QA
open Go.RowKit Go.Shelf WN
attribute [local go_sem] Oper.semAt_some

theorem drop_part (l : List Nat) (o n : Nat) : val 1000000000 (l.drop o) = part l o n + 1000000000 ^ n * val 1000000000 (l.drop (o + n)) := by
  unfold part
  by_cases h : n ≤ (l.drop o).length
  · rw [val_take_drop _ (l.drop o) n h, List.drop_drop]
  · rw [List.take_of_length_le (by omega)]
    have : l.drop (o + n) = [] := List.drop_eq_nil_of_le (by simp at h; omega)
    rw [this]; simp

theorem part_lt {l : List Nat} (h : Digs 1000000000 l) (o n : Nat) : part l o n < 1000000000 ^ n := by
  have h1 := val_lt (B := 1000000000) (by omega) ((h.drop o).take n)
  unfold part
  refine Nat.lt_of_lt_of_le h1 (Nat.pow_le_pow_right (by omega) (by simp; omega))

theorem outside {l m : List Nat} {o n : Nat} (hs : ∀ t, t < o ∨ o + n ≤ t → m[t]? = l[t]?) : m.take o = l.take o ∧ m.drop (o + n) = l.drop (o + n) := by
  constructor
  · apply List.ext_getElem?
    intro i
    rw [List.getElem?_take, List.getElem?_take]
    split
    · exact hs i (.inl (by assumption))
    · rfl
  · apply List.ext_getElem?
    intro i
    rw [List.getElem?_drop, List.getElem?_drop]
    exact hs _ (.inr (by omega))

/-- the numbers of one round -/
theorem div_round {q c P v part1 X : Nat} (hv : 0 < v) (hvX : v ≤ X) (hq1 : P / v ≤ q) (hq2 : q ≤ P / v + 1) (h1 : part1 + q * v = P + X * c) (hp : part1 < X) :
    (¬ 0 < c → q = P / v ∧ part1 = P % v) ∧ (0 < c → q = P / v + 1 ∧ c = 1 ∧ ∀ part2 c2, part2 + X * c2 = part1 + v → part2 < X → part2 = P % v) := by
  have hdm := Nat.div_add_mod P v
  have hml := Nat.mod_lt P hv
  have hq : q = P / v ∨ q = P / v + 1 := by omega
  have hXc : ∀ d, 0 < d → X ≤ X * d := fun d hd => Nat.le_mul_of_pos_right X hd
  rw [Nat.mul_comm v] at hdm
  rcases hq with rfl | rfl
  · have : c = 0 := by
      rcases Nat.eq_zero_or_pos c with h | h
      · exact h
      · have := hXc c h; generalize P / v * v = z at *; generalize X * c = y at *; omega
    subst this
    refine ⟨fun _ => ⟨rfl, ?_⟩, fun h => absurd h (by omega)⟩
    rw [Nat.mul_zero, Nat.add_zero] at h1
    generalize P / v * v = z at *; omega
  · rw [Nat.add_mul, Nat.one_mul] at h1
    generalize P / v * v = z at *
    have hc1 : c = 1 := by
      rcases Nat.lt_or_ge 1 c with h | h
      · obtain ⟨d, rfl⟩ : ∃ d, c = d + 2 := ⟨c - 2, by omega⟩
        rw [Nat.mul_add] at h1
        have := hXc
        generalize X * d = y at *
        omega
      · rcases Nat.eq_zero_or_pos c with h0 | h0
        · subst h0; rw [Nat.mul_zero] at h1; omega
        · omega
    subst hc1
    rw [Nat.mul_one] at h1
    refine ⟨fun h => absurd Nat.zero_lt_one h, fun _ => ⟨rfl, rfl, fun part2 c2 h2 h3 => ?_⟩⟩
    rcases Nat.eq_zero_or_pos c2 with h0 | h0
    · subst h0; rw [Nat.mul_zero] at h2; omega
    · rcases Nat.lt_or_ge 1 c2 with h | h
      · obtain ⟨d, rfl⟩ : ∃ d, c2 = d + 2 := ⟨c2 - 2, by omega⟩
        rw [Nat.mul_add] at h2
        generalize X * d = y at *
        omega
      · obtain rfl : c2 = 1 := by omega
        rw [Nat.mul_one] at h2; omega

/-- what long division knows when k rounds are over -/
structure DivNums (la : Nat) (v n Nq k : Nat) (R qs : List Nat) : Prop where
  len : R.length = Nq + n
  digs : Digs 1000000000 R
  qlen : qs.length = k
  qdigs : Digs 1000000000 qs
  sum : la = val 1000000000 R + v * (1000000000 ^ (Nq - k) * val 1000000000 qs)
  top : val 1000000000 (R.drop (Nq - k)) < v

theorem DivNums.P {la v n Nq k : Nat} {R qs : List Nat} (h : DivNums la v n Nq k R qs) (hk : k < Nq) (hv : v < 1000000000 ^ n) :
    part R (Nq - 1 - k) (n + 1) < v * 1000000000 ∧ val 1000000000 (R.drop (Nq - 1 - k + (n + 1))) = 0 := by
  have ht := h.top
  have e1 := drop_part R (Nq - k) n
  have hz : val 1000000000 (R.drop (Nq - k + n)) = 0 := by
    rcases Nat.eq_zero_or_pos (val 1000000000 (R.drop (Nq - k + n))) with h0 | h0
    · exact h0
    · have : 1000000000 ^ n * 1 ≤ 1000000000 ^ n * val 1000000000 (R.drop (Nq - k + n)) := Nat.mul_le_mul_left _ h0
      omega
  rw [hz, Nat.mul_zero, Nat.add_zero] at e1
  have hidx : Nq - 1 - k + (n + 1) = Nq - k + n := by omega
  refine ⟨?_, by rw [hidx]; exact hz⟩
  have hlt : Nq - 1 - k < R.length := by rw [h.len]; omega
  have e2 := drop_part R (Nq - 1 - k) (n + 1)
  rw [hidx, hz, Nat.mul_zero, Nat.add_zero, val_drop _ _ _ hlt, show Nq - 1 - k + 1 = Nq - k from by omega] at e2
  have := h.digs.get _ hlt
  omega

theorem DivNums.next {la v n Nq k : Nat} {R qs : List Nat} (h : DivNums la v n Nq k R qs) (hk : k < Nq) (hv0 : 0 < v) (hv : v < 1000000000 ^ n) {m : List Nat} (hm : m.length = R.length) (hd : Digs 1000000000 m)
    (hs : ∀ t, t < Nq - 1 - k ∨ Nq - 1 - k + (n + 1) ≤ t → m[t]? = R[t]?) (hp : part m (Nq - 1 - k) (n + 1) = part R (Nq - 1 - k) (n + 1) % v) (hq9 : part R (Nq - 1 - k) (n + 1) / v < 1000000000) :
    DivNums la v n Nq (k + 1) m (part R (Nq - 1 - k) (n + 1) / v :: qs) := by
  obtain ⟨hP, hz⟩ := h.P hk hv
  obtain ⟨o1, o2⟩ := outside hs
  have hsum := h.sum
  generalize hPd : part R (Nq - 1 - k) (n + 1) = P at *
  have hlt : Nq - 1 - k ≤ R.length := by rw [h.len]; omega
  have e1 := val_take_drop 1000000000 R (Nq - 1 - k) hlt
  have e2 := val_take_drop 1000000000 m (Nq - 1 - k) (by omega)
  have d1 := drop_part R (Nq - 1 - k) (n + 1)
  have d2 := drop_part m (Nq - 1 - k) (n + 1)
  rw [hz, Nat.mul_zero, Nat.add_zero, hPd] at d1
  rw [o2, hz, Nat.mul_zero, Nat.add_zero, hp] at d2
  rw [d1] at e1
  rw [d2, o1] at e2
  refine ⟨by rw [hm, h.len], hd, by simp [h.qlen], h.qdigs.cons hq9, ?_, ?_⟩
  · rw [hsum, e1, e2, val_cons, show Nq - (k + 1) = Nq - 1 - k from by omega, show Nq - k = Nq - 1 - k + 1 from by omega, Nat.pow_succ]
    have hdm := Nat.div_add_mod P v
    generalize 1000000000 ^ (Nq - 1 - k) = X at *
    have e3 : X * P = v * (X * (P / v)) + X * (P % v) := by
      conv => lhs; rw [← hdm, Nat.mul_add]
      rw [Nat.mul_left_comm]
    rw [e3, Nat.mul_add X, Nat.mul_add v, Nat.mul_assoc X]
    omega
  · rw [show Nq - (k + 1) = Nq - 1 - k from by omega, d2]; exact Nat.mod_lt _ hv0

theorem DivNums.start {la : List Nat} {v n Nq : Nat} (hla : Digs 1000000000 la) (hlen : la.length + 1 = Nq + n) (hn : 1 ≤ n) (hv : 1000000000 ^ (n - 1) ≤ v) : DivNums (val 1000000000 la) v n Nq 0 (la ++ [0]) [] := by
  refine ⟨by simp; omega, hla.snoc (by omega), rfl, Digs.nil _, by rw [val_snoc]; simp, ?_⟩
  rw [Nat.sub_zero, List.drop_append_of_le_length (by omega), val_snoc, Nat.mul_zero, Nat.add_zero]
  have := val_lt (B := 1000000000) (by omega) (hla.drop Nq)
  rw [List.length_drop, show la.length - Nq = n - 1 from by omega] at this
  omega

theorem DivNums.done {la v n Nq : Nat} {R qs : List Nat} (h : DivNums la v n Nq Nq R qs) (hv : 0 < v) : val 1000000000 qs = la / v ∧ val 1000000000 R = la % v := by
  have h1 := h.sum
  have h2 := h.top
  rw [Nat.sub_self, List.drop_zero] at h2
  rw [Nat.sub_self, Nat.pow_zero, Nat.one_mul] at h1
  rw [h1, Nat.add_mul_div_left _ _ hv, Nat.div_eq_of_lt h2, Nat.zero_add, Nat.add_mul_mod_self_left, Nat.mod_eq_of_lt h2]
  exact ⟨rfl, rfl⟩
end Go.Proofs.YtegobakoflbnfaaGreatDoor.QA

namespace Go.Proofs.YtegobakoflbnfaaGreatDoor.QA
open Go.RowKit Go.Shelf WN
attribute [local go_sem] Oper.semAt_some

def DivI (w : World) (vb : Value) (la : Nat) (v n Nq : Nat) (k : Nat) (W : World) : Prop :=
  ∃ R qs, DivNums la v n Nq k R qs ∧ Row W (w.heap.size + 1) .u32 133 R ∧ Row W (w.heap.size + 1 + 1 + 1) .u32 133 (List.replicate (Nq - k) 0 ++ qs) ∧
    Box W w.heap.size 53 vb ∧ Box W (w.heap.size + 1 + 1) 53 (.slice (some ⟨w.heap.size + 1, 0, none⟩) (Nq + n) (Nq + n)) ∧
    Box W (w.heap.size + 1 + 1 + 1 + 1) 53 (.slice (some ⟨w.heap.size + 1 + 1 + 1, 0, none⟩) Nq Nq) ∧ Box W (w.heap.size + 1 + 1 + 1 + 1 + 1) 53 (.slice (some ⟨w.heap.size + 1 + 1 + 1, 0, none⟩) Nq Nq) ∧ Below w.heap.size w W

def DivOut (w : World) (a b : Nat) (e : Ending) (w' : World) : Prop :=
  ∃ vq vr q r, e = .returned (.tuple #[vq, vr]) ∧ Rep w' .u32 vq q ∧ Canon 1000000000 q ∧ val 1000000000 q = a / b ∧ Rep w' .u32 vr r ∧ Canon 1000000000 r ∧ val 1000000000 r = a % b ∧ Below w.heap.size w w'

theorem copy_ns (l : List Nat) : (((ns .u32 (List.replicate (l.length + 1) 0)).toList.take 0 ++ (nl .u32 l ++ (ns .u32 (List.replicate (l.length + 1) 0)).toList.drop (0 + (nl .u32 l).length))).toArray) = ns .u32 (l ++ [0]) := by
  apply Array.toList_inj.1
  simp [ns_toList, nl, List.replicate_succ']

theorem Rep.src {w wr : World} {k : IntKind} {oa : Option Addr} {n cap : Nat} {l : List Nat} (h : Rep w k (.slice oa n cap) l) (hb : Below w.heap.size w wr) {ad : Addr} (ha : oa = some ad) :
    ∀ j v, (nl k l)[j]? = some v → wr.cell? (ad.add j) = some v := by
  intro j v hv
  have hj : j < l.length := by have := (List.getElem?_eq_some_iff.1 hv).1; simpa [nl] using this
  obtain ⟨b, off, he, _, hc⟩ := h.at' hb j hj
  rw [ha] at he
  cases he
  rw [Addr.add_lit, hc, ← hv]
  simp [nl, hj]

theorem gm_of {R lb : List Nat} {o : Nat} (dR : Digs 1000000000 R) (dl : Digs 1000000000 lb) (hn : 2 ≤ lb.length) (ho : o + lb.length < R.length) (hh : lb[lb.length - 1]?.getD 0 ≠ 0) (hlt : part R o (lb.length + 1) < val 1000000000 lb * 1000000000) :
    GM (part R o (lb.length + 1)) (val 1000000000 lb) ((R[o + lb.length]?.getD 0) * 1000000000 + (R[o + (lb.length - 1)]?.getD 0)) (lb[lb.length - 1]?.getD 0) (lb[lb.length - 2]?.getD 0) (R[o + (lb.length - 2)]?.getD 0) := by
  have g9 : ∀ i, R[i]?.getD 0 < 1000000000 := fun i => by have := dR.getD i (by omega); rwa [List.getD_eq_getElem?_getD] at this
  have l9 : ∀ i, lb[i]?.getD 0 < 1000000000 := fun i => by have := dl.getD i (by omega); rwa [List.getD_eq_getElem?_getD] at this
  refine ⟨⟨1000000000 ^ (lb.length - 2), part R o (lb.length - 2), val 1000000000 (lb.take (lb.length - 2)), Nat.pow_pos (by omega), ?_, part_lt dR _ _, ?_, ?_⟩, g9 _, l9 _, by have := hh; omega, l9 _, hlt⟩
  · obtain ⟨m, hm⟩ : ∃ m, lb.length = m + 2 := ⟨lb.length - 2, by omega⟩
    rw [hm, show m + 2 - 2 = m from by omega, show m + 2 - 1 = m + 1 from by omega, part_succ, part_succ, part_succ, show 1000000000 ^ (m + 2) = 1000000000 ^ m * 1000000000 * 1000000000 from by rw [Nat.pow_succ, Nat.pow_succ], Nat.pow_succ 1000000000 m]
    generalize R[o + (m + 2)]?.getD 0 = a
    generalize R[o + (m + 1)]?.getD 0 = b
    generalize R[o + m]?.getD 0 = c
    generalize 1000000000 ^ m = X
    rw [Nat.add_mul _ c, Nat.add_mul (a * 1000000000) b, Nat.add_mul]
    rw [Nat.mul_comm c X, show X * 1000000000 * b = b * 1000000000 * X from by rw [Nat.mul_right_comm, Nat.mul_comm X b, Nat.mul_right_comm], show X * 1000000000 * 1000000000 * a = a * 1000000000 * 1000000000 * X from by
      rw [Nat.mul_comm (X * 1000000000 * 1000000000) a, ← Nat.mul_assoc, ← Nat.mul_assoc, Nat.mul_right_comm a X, Nat.mul_right_comm (a * 1000000000) X]]
    omega
  · obtain ⟨m, hm⟩ : ∃ m, lb.length = m + 2 := ⟨lb.length - 2, by omega⟩
    have e := val_take_next 1000000000 lb (m + 1)
    rw [List.take_of_length_le (by omega : lb.length ≤ m + 1 + 1), val_take_next 1000000000 lb m, Nat.pow_succ] at e
    rw [hm, show m + 2 - 2 = m from by omega, show m + 2 - 1 = m + 1 from by omega, e]
    generalize lb[m + 1]?.getD 0 = a
    generalize lb[m]?.getD 0 = b
    generalize 1000000000 ^ m = X
    rw [Nat.add_mul, Nat.mul_comm b X, show X * 1000000000 * a = a * 1000000000 * X from by rw [Nat.mul_right_comm, Nat.mul_comm X a, Nat.mul_right_comm]]
    omega
  · have := val_lt (B := 1000000000) (by omega) (dl.take (lb.length - 2))
    rwa [List.length_take, Nat.min_eq_left (by omega)] at this

theorem top_ne {l : List Nat} (h : Top l) (hl : 0 < l.length) : l[l.length - 1]?.getD 0 ≠ 0 := by
  intro h0
  apply h
  rw [List.getLast?_eq_getElem?, List.getElem?_eq_getElem (by omega)]
  rw [List.getElem?_eq_getElem (by omega)] at h0
  exact congrArg some h0

theorem DivI.close {w W W3 : World} {vb : Value} {la v n Nq k t d : Nat} {m qs : List Nat} (hk : k < Nq) (ht : Nq - 1 - k = t) (hn : DivNums la v n Nq (k + 1) m (d :: qs)) (hq : qs.length = k) (hko : KeepsOthers W W3)
    (h2 : Row W3 (w.heap.size + 1) .u32 133 m) (h3 : Row W3 (w.heap.size + 1 + 1 + 1) .u32 133 (List.replicate (Nq - k) 0 ++ qs)) (h4 : Box W3 w.heap.size 53 vb)
    (h5 : Box W3 (w.heap.size + 1 + 1) 53 (.slice (some ⟨w.heap.size + 1, 0, none⟩) (Nq + n) (Nq + n))) (h6 : Box W3 (w.heap.size + 1 + 1 + 1 + 1) 53 (.slice (some ⟨w.heap.size + 1 + 1 + 1, 0, none⟩) Nq Nq))
    (h7 : Box W3 (w.heap.size + 1 + 1 + 1 + 1 + 1) 53 (.slice (some ⟨w.heap.size + 1 + 1 + 1, 0, none⟩) Nq Nq)) (h8 : Below w.heap.size w W3) (A : Act) :
    DownPost (DivI w vb la v n Nq) (fun _ _ => False) k W .normal A (W3.setCell ⟨w.heap.size + 1 + 1 + 1, t, none⟩ (.int .u32 (d : Nat))) := by
  refine ⟨hko.trans (KeepsOthers.setCell _ _ _), m, d :: qs, hn, h2.other _ _ (by simp <;> omega), ?_, h4.other _ _ (by simp <;> omega), h5.other _ _ (by simp <;> omega), h6.other _ _ (by simp <;> omega), h7.other _ _ (by simp <;> omega), h8.setCell (p := ⟨w.heap.size + 1 + 1 + 1, t, none⟩) (by simp <;> omega) _⟩
  rw [← set_prev hk, ht]
  exact h3.set t d

end Go.Proofs.YtegobakoflbnfaaGreatDoor.QA

namespace Go.Proofs.YtegobakoflbnfaaGreatDoor.QA
open Go.RowKit Go.Shelf WN

/-- how many words a number has -/
def Len (n : Nat) : Nat := (ofNat 1000000000 n).length

/-- v is a slice of words that holds the number n -/
def Num (w : World) (v : Value) (n : Nat) : Prop := ∃ l, Rep w .u32 v l ∧ Canon 1000000000 l ∧ val 1000000000 l = n

theorem Num.len {w : World} {l : List Nat} {n : Nat} (h : Canon 1000000000 l) (hv : val 1000000000 l = n) : l.length = Len n := by
  unfold Len; rw [ofNat_unique (by omega) h hv]
theorem Num.below {w w' : World} {v : Value} {n : Nat} (h : Num w v n) {B : Nat} (hb : Below B w w') (hB : w.heap.size ≤ B) : Num w' v n := by
  obtain ⟨l, h1, h2⟩ := h; exact ⟨l, h1.below hb hB, h2⟩
theorem Num.nil (w : World) : Num w (.slice none 0 0) 0 := ⟨[], Rep.nil w _, ⟨Digs.nil _, Top.nil⟩, rfl⟩

theorem len_lt {n k : Nat} (h : n < 1000000000 ^ k) : Len n ≤ k := len_le_of_lt (B := 1000000000) (by omega) (ofNat_canon (by omega) n).2 (by rw [val_ofNat (by omega)]; exact h)
theorem lt_len (n : Nat) : n < 1000000000 ^ Len n := by
  have := val_lt (B := 1000000000) (by omega) (ofNat_canon (B := 1000000000) (by omega) n).1
  rwa [val_ofNat (by omega)] at this
theorem len_mono {n m : Nat} (h : n ≤ m) : Len n ≤ Len m := len_lt (Nat.lt_of_le_of_lt h (lt_len m))
theorem len_add (n m : Nat) : Len (n + m) ≤ max (Len n) (Len m) + 1 := by
  apply len_lt
  have h1 := lt_len n
  have h2 := lt_len m
  have h3 : 1000000000 ^ Len n ≤ 1000000000 ^ max (Len n) (Len m) := Nat.pow_le_pow_right (by omega) (Nat.le_max_left _ _)
  have h4 : 1000000000 ^ Len m ≤ 1000000000 ^ max (Len n) (Len m) := Nat.pow_le_pow_right (by omega) (Nat.le_max_right _ _)
  rw [Nat.pow_succ]
  omega
theorem len_mul (n m : Nat) : Len (n * m) ≤ Len n + Len m := by
  apply len_lt
  rw [Nat.pow_add]
  rcases Nat.eq_zero_or_pos m with h | h
  · subst h; rw [Nat.mul_zero]; exact Nat.mul_pos (Nat.pow_pos (by omega)) (Nat.pow_pos (by omega))
  · exact Nat.lt_of_lt_of_le (Nat.mul_lt_mul_of_pos_right (lt_len n) h) (Nat.mul_le_mul_left _ (Nat.le_of_lt (lt_len m)))
theorem len_zero : Len 0 = 0 := by unfold Len; rfl
theorem len_small {n : Nat} (h : n < 1000000000) : Len n ≤ 1 := len_lt (by rw [Nat.pow_one]; exact h)
theorem len_le_of_len {n m : Nat} (h : Len n < Len m) : n < m := by
  rcases Nat.lt_or_ge n m with h' | h'
  · exact h'
  · have := len_mono h'; omega

def Ret1 (w : World) (n : Nat) (e : Ending) (w' : World) : Prop := ∃ v, e = .returned v ∧ Num w' v n ∧ Below w.heap.size w w'
def Ret2 (w : World) (n m : Nat) (e : Ending) (w' : World) : Prop := ∃ v1 v2, e = .returned (.tuple #[v1, v2]) ∧ Num w' v1 n ∧ Num w' v2 m ∧ Below w.heap.size w w'

theorem canon_one {l : List Nat} (h : Canon 1000000000 l) : l = [1] ↔ val 1000000000 l = 1 := by
  constructor
  · rintro rfl; rfl
  · intro hv
    exact canon_unique h ⟨Digs.cons (by omega) (Digs.nil _), by simp [Top]⟩ (by rw [hv]; rfl)
theorem canon_zero {l : List Nat} (h : Canon 1000000000 l) : l = [] ↔ val 1000000000 l = 0 := (val_eq_zero (by omega) h.2).symm

/-- fromUint, at the head of a round: what has been collected, and what is left -/
def FromInv (n : Nat) (w wr : World) (v : Value) (m : Nat) : Prop :=
  ∃ l, wr.ownsRow w.heap.size 133 1 v l.length (nl .u32 l) ∧ Digs 1000000000 l ∧ n = val 1000000000 l + 1000000000 ^ l.length * m ∧ (m = 0 → Top l) ∧ l.length ≤ 20 ∧ Below w.heap.size w wr

end Go.Proofs.YtegobakoflbnfaaGreatDoor.QA

namespace Go.Proofs.YtegobakoflbnfaaGreatDoor.QA
open Go.RowKit WN

theorem Num.open {w : World} {v : Value} {n : Nat} (h : Num w v n) : ∃ oa cap l, v = .slice oa (Len n) cap ∧ Rep w .u32 (.slice oa (Len n) cap) l ∧ Canon 1000000000 l ∧ val 1000000000 l = n ∧ l.length = Len n := by
  obtain ⟨l, hr, hc, hv⟩ := h
  have e := Num.len (w := w) hc hv
  obtain ⟨oa, cap, rfl, _⟩ := id hr
  rw [e] at hr ⊢
  exact ⟨oa, cap, l, rfl, hr, hc, hv, e⟩

theorem len_pos {n : Nat} (h : 0 < n) : 0 < Len n := by
  rcases Nat.eq_zero_or_pos (Len n) with h0 | h0
  · have := lt_len n; rw [h0] at this; simp at this; omega
  · exact h0
theorem len_one_lt {n : Nat} (h : Len n ≤ 1) : n < 1000000000 := by
  have := lt_len n
  exact Nat.lt_of_lt_of_le this (Nat.le_trans (Nat.pow_le_pow_right (by omega) h) (by simp))

/-- a number of one word, new -/
theorem num_lit (w : World) (s : Nat) (h0 : 0 < s) (h9 : s < 1000000000) : Num (w.alloc (.cells #[.int .u32 (s : Nat)] 133)) (.slice (some ⟨w.heap.size, 0, none⟩) 1 1) s :=
  ⟨[s], Rep.rowAll (Row.new w .u32 133 [s]) 1 (by simp), ⟨Digs.cons h9 (Digs.nil _), by simp [Top]; omega⟩, by simp⟩

theorem scale_math {a b s : Nat} (hs : 0 < s) : a * s / (b * s) = a / b ∧ a * s % (b * s) = a % b * s ∧ a % b * s / s = a % b := by
  refine ⟨Nat.mul_div_mul_right _ _ hs, Nat.mul_mod_mul_right _ _ _, Nat.mul_div_cancel _ hs⟩

end Go.Proofs.YtegobakoflbnfaaGreatDoor.QA

-- from A3
/- Lehmer's steps: plain numbers. -/
namespace Go.Proofs.YtegobakoflbnfaaGreatDoor.QA.LM

/-- the state of the steps: from x0, y0 to x, y by the factors A, B, C, D -/
structure CS (x0 y0 A B C D x y : Int) : Prop where
  hx : x = A * x0 + B * y0
  hy : y = C * x0 + D * y0
  yC : 0 ≤ y + C
  yD : 0 ≤ y + D
  y0' : 0 ≤ y
  x0' : 0 ≤ x
  xA : 0 ≤ x + A
  xB : 0 ≤ x + B
  le : y + C ≤ x + A
  sg : (0 ≤ A ∧ B ≤ 0 ∧ C ≤ 0 ∧ 0 ≤ D ∧ D * x - B * y = x0 ∧ A * y - C * x = y0) ∨ (A ≤ 0 ∧ 0 ≤ B ∧ 0 ≤ C ∧ D ≤ 0 ∧ B * y - D * x = x0 ∧ C * x - A * y = y0)
  bA : -1000000000 < A ∧ A < 1000000000
  bB : -1000000000 < B ∧ B < 1000000000
  bC : -1000000000 < C ∧ C < 1000000000
  bD : -1000000000 < D ∧ D < 1000000000

theorem CS.start {x0 y0 : Int} (h0 : 0 ≤ y0) (h : y0 ≤ x0) : CS x0 y0 1 0 0 1 x0 y0 :=
  ⟨by omega, by omega, by omega, by omega, by omega, by omega, by omega, by omega, by omega, .inl ⟨by omega, by omega, by omega, by omega, by omega, by omega⟩, by omega, by omega, by omega, by omega⟩

theorem sq_lt {D x x0 : Int} (h0 : 0 ≤ D) (hx : D < x) (hD : D * x ≤ x0) (h : x0 < 1000000000000000000) : D < 1000000000 := by
  rcases Int.lt_or_le D 1000000000 with h1 | h1
  · exact h1
  · have h2 : 1000000000 * 1000000000 ≤ D * x := Int.mul_le_mul h1 (by omega) (by omega) (by omega)
    omega

/-- one step: the quotient is the same at both ends -/
theorem CS.step {x0 y0 A B C D x y q : Int} (h : CS x0 y0 A B C D x y) (hx0 : x0 < 1000000000000000000) (hy0 : 0 ≤ y0) (hyx : y0 ≤ x0) (h1 : 0 < y + C) (h2 : 0 < y + D) (e1 : (x + A) / (y + C) = q) (e2 : (x + B) / (y + D) = q) :
    CS x0 y0 C D (A - q * C) (B - q * D) y (x - q * y) ∧ 1 ≤ q ∧ 0 ≤ q * y ∧ q * y ≤ x ∧ (-1000000000 < q * C ∧ q * C < 1000000000) ∧ (-1000000000 < q * D ∧ q * D < 1000000000) ∧ x - q * y + (A - q * C) < y + C ∧ x - q * y + (B - q * D) < y + D := by
  have a1 : q * (y + C) ≤ x + A := by rw [← e1]; exact Int.ediv_mul_le _ (by omega)
  have a2 : x + A < q * (y + C) + (y + C) := by
    have := Int.lt_ediv_add_one_mul_self (x + A) h1
    rw [e1, Int.add_mul, Int.one_mul] at this; exact this
  have b1 : q * (y + D) ≤ x + B := by rw [← e2]; exact Int.ediv_mul_le _ (by omega)
  have b2 : x + B < q * (y + D) + (y + D) := by
    have := Int.lt_ediv_add_one_mul_self (x + B) h2
    rw [e2, Int.add_mul, Int.one_mul] at this; exact this
  have hq : 1 ≤ q := by
    rw [← e1]
    have := h.le
    rcases Int.lt_or_le ((x + A) / (y + C)) 1 with h3 | h3
    · rw [e1] at h3
      have : q * (y + C) ≤ 0 := Int.mul_nonpos_of_nonpos_of_nonneg (by omega) (by omega)
      omega
    · exact h3
  rw [Int.mul_add] at a1 a2 b1 b2
  have hqy : 0 ≤ q * y := Int.mul_nonneg (by omega) h.y0'
  obtain ⟨hx, hy, yC, yD, y0', x0', xA, xB, le, sg, bA, bB, bC, bD⟩ := h
  have idx : x - q * y = (A - q * C) * x0 + (B - q * D) * y0 := by
    rw [Int.sub_mul, Int.sub_mul, Int.mul_assoc, Int.mul_assoc]
    have : q * y = q * (C * x0) + q * (D * y0) := by rw [hy, Int.mul_add]
    omega
  have n1 : D * (q * y) = q * D * y := by rw [Int.mul_left_comm, Int.mul_assoc]
  have n2 : C * (q * y) = q * C * y := by rw [Int.mul_left_comm, Int.mul_assoc]
  rcases sg with ⟨s1, s2, s3, s4, s5, s6⟩ | ⟨s1, s2, s3, s4, s5, s6⟩
  · have hc : q * C ≤ 0 := Int.mul_nonpos_of_nonneg_of_nonpos (by omega) s3
    have hd : 0 ≤ q * D := Int.mul_nonneg (by omega) s4
    have t1 : (q * D - B) * y + D * (x - q * y) = x0 := by rw [Int.sub_mul, Int.mul_sub, n1]; omega
    have t2 : (A - q * C) * y - C * (x - q * y) = y0 := by rw [Int.sub_mul, Int.mul_sub, n2]; omega
    have hy' : 0 ≤ x - q * y := by omega
    have p1 : 0 ≤ D * (x - q * y) := Int.mul_nonneg s4 hy'
    have p2 : 0 ≤ -C * (x - q * y) := Int.mul_nonneg (by omega) hy'
    rw [Int.neg_mul] at p2
    have k1 : q * D - B < 1000000000 := sq_lt (x := y) (x0 := x0) (by omega) (by omega) (by omega) hx0
    have k2 : A - q * C < 1000000000 := sq_lt (x := y) (x0 := x0) (by omega) (by omega) (by omega) hx0
    refine ⟨⟨hy, idx, by omega, by omega, by omega, y0', yC, yD, by omega, .inr ⟨s3, s4, by omega, by omega, ?_, ?_⟩, bC, bD, by omega, by omega⟩, hq, hqy, by omega, by omega, by omega, by omega, by omega⟩
    · rw [Int.sub_mul] at t1 ⊢; omega
    · exact t2
  · have hc : 0 ≤ q * C := Int.mul_nonneg (by omega) s3
    have hd : q * D ≤ 0 := Int.mul_nonpos_of_nonneg_of_nonpos (by omega) s4
    have t1 : (B - q * D) * y - D * (x - q * y) = x0 := by rw [Int.sub_mul, Int.mul_sub, n1]; omega
    have t2 : (q * C - A) * y + C * (x - q * y) = y0 := by rw [Int.sub_mul, Int.mul_sub, n2]; omega
    have hy' : 0 ≤ x - q * y := by omega
    have p1 : 0 ≤ -D * (x - q * y) := Int.mul_nonneg (by omega) hy'
    have p2 : 0 ≤ C * (x - q * y) := Int.mul_nonneg s3 hy'
    rw [Int.neg_mul] at p1
    have k1 : B - q * D < 1000000000 := sq_lt (x := y) (x0 := x0) (by omega) (by omega) (by omega) hx0
    have k2 : q * C - A < 1000000000 := sq_lt (x := y) (x0 := x0) (by omega) (by omega) (by omega) hx0
    refine ⟨⟨hy, idx, by omega, by omega, by omega, y0', yC, yD, by omega, .inl ⟨s3, s4, by omega, by omega, ?_, ?_⟩, bC, bD, by omega, by omega⟩, hq, hqy, by omega, by omega, by omega, by omega, by omega⟩
    · exact t1
    · rw [Int.sub_mul] at t2 ⊢; omega

/-- what the factors do with all numbers that begin with x0 and y0 -/
structure Good (x0 y0 A B C D : Int) (stepped : Prop) : Prop where
  all : ∀ M a0 b0 : Int, 0 ≤ a0 → a0 < M → 0 ≤ b0 → b0 < M → y0 * M + b0 ≤ x0 * M + a0 →
    0 ≤ A * (x0 * M + a0) + B * (y0 * M + b0) ∧ 0 ≤ C * (x0 * M + a0) + D * (y0 * M + b0) ∧
    A * (x0 * M + a0) + B * (y0 * M + b0) ≤ x0 * M + a0 ∧ C * (x0 * M + a0) + D * (y0 * M + b0) ≤ y0 * M + b0 ∧ (stepped → C * (x0 * M + a0) + D * (y0 * M + b0) < y0 * M + b0 ∧ C * (x0 * M + a0) + D * (y0 * M + b0) ≤ A * (x0 * M + a0) + B * (y0 * M + b0)) ∧
    Int.gcd (A * (x0 * M + a0) + B * (y0 * M + b0)) (C * (x0 * M + a0) + D * (y0 * M + b0)) = Int.gcd (x0 * M + a0) (y0 * M + b0)

theorem Good.start {x0 y0 : Int} (h0 : 0 ≤ y0) (hx : 0 ≤ x0) : Good x0 y0 1 0 0 1 False := by
  refine ⟨fun M a0 b0 ha0 haM hb0 hbM hle => ?_⟩
  have hM : 0 ≤ M := by omega
  have p1 := Int.mul_nonneg hx hM
  have p2 := Int.mul_nonneg h0 hM
  simp only [Int.one_mul, Int.zero_mul, Int.add_zero, Int.zero_add]
  exact ⟨by omega, by omega, by omega, by omega, fun h => h.elim, trivial⟩

theorem Good.step {x0 y0 A B C D x y q : Int} {st : Prop} (h : CS x0 y0 A B C D x y) (hx0 : x0 < 1000000000000000000) (hy0 : 0 ≤ y0) (hyx : y0 ≤ x0) (h1 : 0 < y + C) (h2 : 0 < y + D) (e1 : (x + A) / (y + C) = q) (e2 : (x + B) / (y + D) = q)
    (g : Good x0 y0 A B C D st) : Good x0 y0 C D (A - q * C) (B - q * D) True := by
  obtain ⟨h', hq, hqy, hyx', hqc, hqd, l1, l2⟩ := h.step hx0 hy0 hyx h1 h2 e1 e2
  refine ⟨fun M a0 b0 ha0 haM hb0 hbM hle => ?_⟩
  obtain ⟨g1, g2, g3, g4, g5, g6⟩ := g.all M a0 b0 ha0 haM hb0 hbM hle
  have hM : 0 < M := by omega
  have key : ∀ P Q R S : Int, P * (x0 * M + a0) + Q * (y0 * M + b0) = M * (P * x0 + Q * y0) + P * a0 + Q * b0 := fun P Q R S => by
    rw [Int.mul_add, Int.mul_add, Int.mul_add, ← Int.mul_assoc P, ← Int.mul_assoc Q, Int.mul_comm M, Int.mul_comm M]; omega
  have k1 := key C D 0 0
  have k2 := key (A - q * C) (B - q * D) 0 0
  rw [← h.hy] at k1
  rw [← h'.hy] at k2
  have exp : (A - q * C) * (x0 * M + a0) + (B - q * D) * (y0 * M + b0) = (A * (x0 * M + a0) + B * (y0 * M + b0)) - q * (C * (x0 * M + a0) + D * (y0 * M + b0)) := by
    rw [Int.sub_mul, Int.sub_mul, Int.mul_add q, Int.mul_assoc q C, Int.mul_assoc q D]; omega
  have hqQ : 0 ≤ q * (C * (x0 * M + a0) + D * (y0 * M + b0)) := Int.mul_nonneg (by omega) g2
  -- the new second number is not less than 0, and less than the old one
  have both : 0 ≤ (A - q * C) * (x0 * M + a0) + (B - q * D) * (y0 * M + b0) ∧ (A - q * C) * (x0 * M + a0) + (B - q * D) * (y0 * M + b0) < C * (x0 * M + a0) + D * (y0 * M + b0) := by
    rw [k1, k2]
    have c1 := h'.yC
    have c2 := h'.yD
    generalize hC' : A - q * C = C' at *
    generalize hD' : B - q * D = D' at *
    generalize hy' : x - q * y = y' at *
    have m1 : 0 ≤ M * (y' + C') := Int.mul_nonneg (by omega) c1
    have m2 : 0 ≤ M * (y' + D') := Int.mul_nonneg (by omega) c2
    have m3 : M * 1 ≤ M * (y + C - (y' + C')) := Int.mul_le_mul_of_nonneg_left (by omega) (by omega)
    have m4 : M * 1 ≤ M * (y + D - (y' + D')) := Int.mul_le_mul_of_nonneg_left (by omega) (by omega)
    rw [Int.mul_add] at m1 m2
    rw [Int.mul_sub, Int.mul_add, Int.mul_add] at m3 m4
    have sgn := h.sg
    have sgn' := h'.sg
    rcases sgn with ⟨s1, s2, s3, s4, -, -⟩ | ⟨s1, s2, s3, s4, -, -⟩
    · have hC0 : 0 ≤ C' := by have := Int.mul_nonpos_of_nonneg_of_nonpos (by omega : 0 ≤ q) s3; omega
      have hD0 : D' ≤ 0 := by have := Int.mul_nonneg (by omega : 0 ≤ q) s4; omega
      have n1 : 0 ≤ C' * a0 := Int.mul_nonneg hC0 ha0
      have n2 : 0 ≤ -D' * (M - b0) := Int.mul_nonneg (by omega) (by omega)
      have n3 : 0 ≤ (C' - C) * (M - a0) := Int.mul_nonneg (by omega) (by omega)
      have n4 : 0 ≤ (D - D') * b0 := Int.mul_nonneg (by omega) hb0
      rw [Int.neg_mul, Int.mul_sub] at n2
      rw [Int.mul_sub, Int.sub_mul, Int.sub_mul] at n3
      rw [Int.sub_mul] at n4
      rw [Int.mul_comm D' M] at n2
      rw [Int.mul_comm C' M, Int.mul_comm C M] at n3
      constructor <;> omega
    · have hC0 : C' ≤ 0 := by have := Int.mul_nonneg (by omega : 0 ≤ q) s3; omega
      have hD0 : 0 ≤ D' := by have := Int.mul_nonpos_of_nonneg_of_nonpos (by omega : 0 ≤ q) s4; omega
      have n1 : 0 ≤ D' * b0 := Int.mul_nonneg hD0 hb0
      have n2 : 0 ≤ -C' * (M - a0) := Int.mul_nonneg (by omega) (by omega)
      have n3 : 0 ≤ (D' - D) * (M - b0) := Int.mul_nonneg (by omega) (by omega)
      have n4 : 0 ≤ (C - C') * a0 := Int.mul_nonneg (by omega) ha0
      rw [Int.neg_mul, Int.mul_sub] at n2
      rw [Int.mul_sub, Int.sub_mul, Int.sub_mul] at n3
      rw [Int.sub_mul] at n4
      rw [Int.mul_comm C' M] at n2
      rw [Int.mul_comm D' M, Int.mul_comm D M] at n3
      constructor <;> omega
  refine ⟨g2, both.1, by omega, by omega, fun _ => ⟨by omega, by omega⟩, ?_⟩
  rw [exp, ← g6]
  generalize A * (x0 * M + a0) + B * (y0 * M + b0) = P
  generalize C * (x0 * M + a0) + D * (y0 * M + b0) = Q
  exact (Int.gcd_comm _ _).trans (Int.gcd_sub_mul_right_left _ _ _)
end Go.Proofs.YtegobakoflbnfaaGreatDoor.QA.LM

namespace Go.Proofs.YtegobakoflbnfaaGreatDoor.QA
open Go.RowKit WN LM

theorem div_pow {l : List Nat} (h : Digs 1000000000 l) (m : Nat) : val 1000000000 l / 1000000000 ^ m = val 1000000000 (l.drop m) := by
  by_cases hm : m ≤ l.length
  · rw [val_take_drop _ l m hm, Nat.add_mul_div_left _ _ (Nat.pow_pos (by omega))]
    have := val_lt (B := 1000000000) (by omega) (h.take m)
    rw [List.length_take, Nat.min_eq_left hm] at this
    rw [Nat.div_eq_of_lt this, Nat.zero_add]
  · rw [List.drop_eq_nil_of_le (by omega), val_nil]
    have := val_lt (B := 1000000000) (by omega) h
    exact Nat.div_eq_of_lt (Nat.lt_of_lt_of_le this (Nat.pow_le_pow_right (by omega) (by omega)))

theorem drop_next (l : List Nat) (m : Nat) : val 1000000000 (l.drop m) = (l[m]?.getD 0) + 1000000000 * val 1000000000 (l.drop (m + 1)) := by
  by_cases hm : m < l.length
  · rw [val_drop _ _ _ hm]; simp [hm]
  · rw [List.drop_eq_nil_of_le (by omega), List.drop_eq_nil_of_le (by omega), List.getElem?_eq_none (by omega)]; simp

def TopOut (r : Nat) (w : World) (e : Ending) (w' : World) : Prop := e = .returned (.int .i64 (r : Nat)) ∧ w = w'

def StepsOut (x0 y0 : Int) (w : World) (e : Ending) (w' : World) : Prop :=
  ∃ A B C D x y : Int, e = .returned (.agg #[.int .i64 A, .int .i64 B, .int .i64 C, .int .i64 D]) ∧ CS x0 y0 A B C D x y ∧ (∃ st : Prop, LM.Good x0 y0 A B C D st ∧ (st ∨ B = 0)) ∧ Below w.heap.size w w'

theorem four_set {w : World} {g : Nat} {t : TypeId} {a0 a1 a2 a3 : Value} (b0 b1 b2 b3 : Value) (h : w.heap[g]? = some (.cells #[a0, a1, a2, a3] t (0, 0))) :
    ((((w.setCell ⟨g, 0, none⟩ b0).setCell ⟨g, 1, none⟩ b1).setCell ⟨g, 2, none⟩ b2).setCell ⟨g, 3, none⟩ b3).heap[g]? = some (.cells #[b0, b1, b2, b3] t (0, 0)) := by
  have h1 := heap_setCell_same w g 0 _ t b0 h
  have h2 := heap_setCell_same _ g 1 _ t b1 h1
  have h3 := heap_setCell_same _ g 2 _ t b2 h2
  have h4 := heap_setCell_same _ g 3 _ t b3 h3
  exact h4
theorem four_other {w : World} {g k : Nat} (b0 b1 b2 b3 : Value) (hk : k ≠ g) :
    ((((w.setCell ⟨g, 0, none⟩ b0).setCell ⟨g, 1, none⟩ b1).setCell ⟨g, 2, none⟩ b2).setCell ⟨g, 3, none⟩ b3).heap[k]? = w.heap[k]? := by
  rw [heap_setCell_other _ _ _ _ hk, heap_setCell_other _ _ _ _ hk, heap_setCell_other _ _ _ _ hk, heap_setCell_other _ _ _ _ hk]
theorem four_below {w w' : World} {B g : Nat} (b0 b1 b2 b3 : Value) (h : Below B w w') (hg : B ≤ g) :
    Below B w ((((w'.setCell ⟨g, 0, none⟩ b0).setCell ⟨g, 1, none⟩ b1).setCell ⟨g, 2, none⟩ b2).setCell ⟨g, 3, none⟩ b3) :=
  (((h.setCell (p := ⟨g, 0, none⟩) hg _).setCell (p := ⟨g, 1, none⟩) hg _).setCell (p := ⟨g, 2, none⟩) hg _).setCell (p := ⟨g, 3, none⟩) hg _

end Go.Proofs.YtegobakoflbnfaaGreatDoor.QA

namespace Go.Proofs.YtegobakoflbnfaaGreatDoor.QA
open Go.RowKit WN LM

def CombInv (la lb : List Nat) (f g : Int) (w wr : World) (G k : Nat) (c : Int) : Prop :=
  ∃ s, s.length = k ∧ Digs 1000000000 s ∧ (val 1000000000 s : Int) + ((1000000000 ^ k : Nat) : Int) * c = f * (val 1000000000 (la.take k) : Nat) + g * (val 1000000000 (lb.take k) : Nat) ∧
    Row wr G .u32 133 (s ++ List.replicate (la.length - k) 0) ∧ Below w.heap.size w wr

theorem CombInv.step {la lb : List Nat} {f g : Int} {w wr : World} {G k : Nat} {c : Int} (h : CombInv la lb f g w wr G k c) (hG : w.heap.size ≤ G) (hk : k < la.length) (x y d : Nat) (c' : Int) (hx : la[k]?.getD 0 = x) (hy : lb[k]?.getD 0 = y)
    (he : f * x + c + g * y = d + 1000000000 * c') (hd9 : d < 1000000000) : CombInv la lb f g w (wr.setCell ⟨G, k, none⟩ (.int .u32 (d : Nat))) G (k + 1) c' := by
  obtain ⟨s, hs, hd, hv, hr, hb⟩ := h
  refine ⟨s ++ [d], by simp [hs], hd.snoc hd9, ?_, ?_, hb.setCell hG _⟩
  · rw [val_snoc, hs, val_take_next, val_take_next, hx, hy, Nat.pow_succ]
    generalize 1000000000 ^ k = X at *
    generalize val 1000000000 (la.take k) = U at *
    generalize val 1000000000 (lb.take k) = V at *
    generalize val 1000000000 s = S at *
    have e : (X : Int) * (f * x + c + g * y) = X * (d + 1000000000 * c') := by rw [he]
    rw [Int.mul_add, Int.mul_add, Int.mul_add] at e
    rw [Int.natCast_add, Int.natCast_add, Int.natCast_add, Int.natCast_mul, Int.natCast_mul, Int.natCast_mul, Int.natCast_mul, Int.mul_add f, Int.mul_add g]
    rw [show f * ((X : Int) * x) = X * (f * x) from Int.mul_left_comm _ _ _, show g * ((X : Int) * y) = X * (g * y) from Int.mul_left_comm _ _ _]
    rw [show ((1000000000 : Nat) : Int) = 1000000000 from rfl, Int.mul_assoc (X : Int) 1000000000 c']
    omega
  · rw [← set_next hs (by omega)]; exact hr.set k _

theorem CombInv.rep {la lb : List Nat} {f g : Int} {w wr : World} {G k : Nat} {c : Int} (h : CombInv la lb f g w wr G k c) (hk : k = la.length) (hle : lb.length ≤ la.length) (T : Nat) (hT : f * (val 1000000000 la : Nat) + g * (val 1000000000 lb : Nat) = T) (hT2 : T < 1000000000 ^ la.length) :
    ∃ s, Rep wr .u32 (.slice (some ⟨G, 0, none⟩) la.length la.length) s ∧ Digs 1000000000 s ∧ val 1000000000 s = T ∧ Below w.heap.size w wr := by
  subst hk
  obtain ⟨s, hs, hd, he, hr, hb⟩ := h
  rw [Nat.sub_self, List.replicate_zero, List.append_nil] at hr
  rw [List.take_of_length_le (Nat.le_refl _), List.take_of_length_le hle, hT] at he
  have h1 := val_lt (B := 1000000000) (by omega) hd
  rw [hs] at h1
  generalize 1000000000 ^ la.length = X at *
  have hc : c = 0 := by
    rcases Int.lt_trichotomy c 0 with h | h | h
    · have : (X : Int) * c ≤ X * (-1) := Int.mul_le_mul_of_nonneg_left (by omega) (by omega)
      omega
    · exact h
    · have : (X : Int) * 1 ≤ X * c := Int.mul_le_mul_of_nonneg_left (by omega) (by omega)
      omega
  subst hc
  rw [Int.mul_zero, Int.add_zero] at he
  have := Rep.rowAll hr la.length (by omega)
  rw [hs] at this
  exact ⟨s, this, hd, by omega, hb⟩

theorem tdm (P : Int) : P = 1000000000 * P.tdiv 1000000000 + P.tmod 1000000000 ∧ -1000000000 < P.tmod 1000000000 ∧ P.tmod 1000000000 < 1000000000 := by
  have h1 := Int.mul_tdiv_add_tmod P 1000000000
  refine ⟨by omega, ?_, ?_⟩
  · have := Int.lt_tmod_of_pos P (by omega : (0 : Int) < 1000000000); omega
  · exact Int.tmod_lt_of_pos P (by omega)

end Go.Proofs.YtegobakoflbnfaaGreatDoor.QA

namespace Go.Proofs.YtegobakoflbnfaaGreatDoor.QA
open Go.RowKit WN LM

def GcdOut (n : Nat) (w : World) (e : Ending) (w' : World) : Prop := e = .returned (.int .u64 (n : Nat)) ∧ ∃ q, w' = w.drewN q

end Go.Proofs.YtegobakoflbnfaaGreatDoor.QA

namespace Go.Proofs.YtegobakoflbnfaaGreatDoor.QA
open Go.RowKit WN LM

theorem Num.unique {w : World} {v : Value} {n m : Nat} (h1 : Num w v n) (h2 : Num w v m) : n = m := by
  obtain ⟨l, ⟨oa, ca, rfl, _, hc⟩, _, rfl⟩ := h1
  obtain ⟨l', ⟨oa', ca', he, _, hc'⟩, _, rfl⟩ := h2
  simp only [Value.slice.injEq] at he
  obtain ⟨rfl, hl, rfl⟩ := he
  congr 1
  refine List.ext_getElem hl (fun i h h' => ?_)
  obtain ⟨b, off, rfl, e⟩ := hc i h
  obtain ⟨b', off', he, e'⟩ := hc' i h'
  simp only [Option.some.injEq, Addr.mk.injEq, and_true] at he
  obtain ⟨rfl, rfl⟩ := he
  rw [e] at e'
  simp only [Option.some.injEq, Value.int.injEq, true_and] at e'
  omega

open Classical in
/-- the number that v holds -/
noncomputable def numOf (w : World) (v : Value) : Nat := if h : ∃ n, Num w v n then Classical.choose h else 0
theorem numOf_eq {w : World} {v : Value} {n : Nat} (h : Num w v n) : numOf w v = n := by
  unfold numOf
  rw [dif_pos ⟨n, h⟩]
  exact Num.unique (Classical.choose_spec (⟨n, h⟩ : ∃ n, Num w v n)) h

theorem lehmer_math {a b M : Nat} {A B C D : Int} (hM : 0 < M) (hle : b ≤ a) (g : ∃ st : Prop, LM.Good ((a / M : Nat) : Int) ((b / M : Nat) : Int) A B C D st ∧ (st ∨ B = 0)) (hB : B ≠ 0) :
    ∃ T1 T2 : Nat, A * a + B * b = T1 ∧ C * a + D * b = T2 ∧ T1 ≤ a ∧ T2 < b ∧ T2 ≤ T1 ∧ Nat.gcd T1 T2 = Nat.gcd a b := by
  obtain ⟨st, g, hst⟩ := g
  have hst : st := hst.resolve_right hB
  have e1 : ((a / M : Nat) : Int) * (M : Int) + ((a % M : Nat) : Int) = (a : Int) := by
    rw [← Int.natCast_mul, ← Int.natCast_add, Nat.mul_comm, Nat.div_add_mod]
  have e2 : ((b / M : Nat) : Int) * (M : Int) + ((b % M : Nat) : Int) = (b : Int) := by
    rw [← Int.natCast_mul, ← Int.natCast_add, Nat.mul_comm, Nat.div_add_mod]
  have h1 := Nat.mod_lt a hM
  have h2 := Nat.mod_lt b hM
  have h := g.all M (a % M : Nat) (b % M : Nat) (by omega) (by omega) (by omega) (by omega) (by rw [e1, e2]; omega)
  rw [e1, e2] at h
  obtain ⟨g1, g2, g3, g4, g5, g6⟩ := h
  obtain ⟨g5, g7⟩ := g5 hst
  obtain ⟨T1, hT1⟩ := Int.eq_ofNat_of_zero_le g1
  obtain ⟨T2, hT2⟩ := Int.eq_ofNat_of_zero_le g2
  rw [hT1, hT2] at g6
  exact ⟨T1, T2, hT1, hT2, by omega, by omega, by omega, g6⟩

theorem top_small {n k : Nat} (h : Len n ≤ k) : n / 1000000000 ^ (k - 2) < 1000000000000000000 := by
  apply Nat.div_lt_of_lt_mul
  have h1 := lt_len n
  refine Nat.lt_of_lt_of_le h1 (Nat.le_trans (Nat.pow_le_pow_right (by omega) (by omega : Len n ≤ (k - 2) + 2)) ?_)
  rw [Nat.pow_add]
  exact Nat.mul_le_mul_left _ (by simp)

theorem wp_cut {P : Program} {c : Code} {Q : Exit → Act → World → Prop} {a : Act} {w : World} {R : Value → Value → World → Prop} (F : Value → Value → Act) (h : c.wp P (OnlyNormal fun a' w' => ∃ v1 v2, a' = F v1 v2 ∧ R v1 v2 w') a w)
    (h2 : ∀ v1 v2 w', R v1 v2 w' → Q .normal (F v1 v2) w') : c.wp P Q a w :=
  wp_mono h (OnlyNormal.elim (by rintro a' w' ⟨v1, v2, rfl, h⟩; exact h2 v1 v2 w' h))
theorem keep_cells {w0 w w' : World} {p : Nat} {A B C D : Value} (h : Below w0.heap.size w0 w ∧ w.cell? ⟨p, 0, none⟩ = some A ∧ w.cell? ⟨p, 1, none⟩ = some B ∧ w.cell? ⟨p, 2, none⟩ = some C ∧ w.cell? ⟨p, 3, none⟩ = some D)
    (hb : Below w.heap.size w w') (hp : p < w0.heap.size) : Below w0.heap.size w0 w' ∧ w'.cell? ⟨p, 0, none⟩ = some A ∧ w'.cell? ⟨p, 1, none⟩ = some B ∧ w'.cell? ⟨p, 2, none⟩ = some C ∧ w'.cell? ⟨p, 3, none⟩ = some D := by
  obtain ⟨h0, h1, h2, h3, h4⟩ := h
  have hp' : p < w.heap.size := Nat.lt_of_lt_of_le hp h0.size
  exact ⟨h0.trans (hb.mono h0.size), (hb.cell (p := ⟨p, 0, none⟩) hp').trans h1, (hb.cell (p := ⟨p, 1, none⟩) hp').trans h2, (hb.cell (p := ⟨p, 2, none⟩) hp').trans h3, (hb.cell (p := ⟨p, 3, none⟩) hp').trans h4⟩

end Go.Proofs.YtegobakoflbnfaaGreatDoor.QA

namespace Go.Proofs.YtegobakoflbnfaaGreatDoor.QA
open Go.RowKit WN LM

/-- the simplest number from a/b to c/d: what the program finds -/
def simpl (a b c d : Nat) : Nat × Nat :=
  if h : b = 0 ∨ a % b = 0 ∨ (a / b + 1) * d ≤ c then (if a % b = 0 then (a / b, 1) else (a / b + 1, 1))
  else ((a / b) * (simpl d (c - a / b * d) b (a % b)).1 + (simpl d (c - a / b * d) b (a % b)).2, (simpl d (c - a / b * d) b (a % b)).1)
termination_by b + d
decreasing_by
  all_goals
    have h1 := Nat.mod_lt a (by omega : 0 < b)
    rw [Nat.add_mul, Nat.one_mul] at h
    omega

theorem simpl_exact {a b c d : Nat} (h : a % b = 0) : simpl a b c d = (a / b, 1) := by
  rw [simpl, dif_pos (.inr (.inl h)), if_pos h]
theorem simpl_next {a b c d : Nat} (h : a % b ≠ 0) (h2 : (a / b + 1) * d ≤ c) : simpl a b c d = (a / b + 1, 1) := by
  rw [simpl, dif_pos (.inr (.inr h2)), if_neg h]
theorem simpl_rec {a b c d : Nat} (hb : 0 < b) (h : a % b ≠ 0) (h2 : c < (a / b + 1) * d) :
    simpl a b c d = ((a / b) * (simpl d (c - a / b * d) b (a % b)).1 + (simpl d (c - a / b * d) b (a % b)).2, (simpl d (c - a / b * d) b (a % b)).1) := by
  rw [simpl, dif_neg (by omega)]

theorem simpl_between {a b c d : Nat} (hb : 0 < b) (hd : 0 < d) (h : a * d ≤ c * b) (hm : a % b ≠ 0) : a / b * d < c ∧ b * (c - a / b * d) ≥ (a % b) * d := by
  have e := Nat.div_add_mod a b
  have e2 : a * d = b * (a / b * d) + a % b * d := by
    rw [← Nat.mul_assoc, ← Nat.add_mul, e]
  rw [Nat.mul_comm c b, e2] at h
  have h3 : 0 < a % b * d := Nat.mul_pos (Nat.pos_of_ne_zero hm) hd
  have h4 : a / b * d < c := by
    rcases Nat.lt_or_ge (a / b * d) c with h | h'
    · exact h
    · have := Nat.mul_le_mul_left b h'; omega
  refine ⟨h4, ?_⟩
  rw [Nat.mul_sub]
  omega

theorem simpl_bound : ∀ (N a b c d : Nat), b + d ≤ N → 0 < b → 0 < d → a * d ≤ c * b → (simpl a b c d).1 ≤ a ∧ (simpl a b c d).2 ≤ b ∧ (simpl a b c d).1 ≤ c ∧ (simpl a b c d).2 ≤ d
  | 0, a, b, c, d, hN, hb, hd, h => by omega
  | N + 1, a, b, c, d, hN, hb, hd, h => by
    have e := Nat.div_add_mod a b
    have hw := Nat.div_le_self a b
    by_cases h1 : a % b = 0
    · rw [simpl_exact h1]
      have h2 : a / b * d ≤ c := by
        have : b * (a / b * d) ≤ b * c := by rw [← Nat.mul_assoc, show b * (a / b) = a from by omega, Nat.mul_comm b c]; exact h
        exact Nat.le_of_mul_le_mul_left this hb
      have h3 : a / b * 1 ≤ a / b * d := Nat.mul_le_mul_left _ hd
      exact ⟨hw, hb, by show a / b ≤ c; omega, hd⟩
    · have h4 := Nat.mod_lt a hb
      have h5 : 1 * (a / b) ≤ b * (a / b) := Nat.mul_le_mul_right _ hb
      by_cases h2 : (a / b + 1) * d ≤ c
      · rw [simpl_next h1 h2]
        have h3 : (a / b + 1) * 1 ≤ (a / b + 1) * d := Nat.mul_le_mul_left _ hd
        exact ⟨by show a / b + 1 ≤ a; omega, hb, by show a / b + 1 ≤ c; omega, hd⟩
      · rw [simpl_rec hb h1 (by omega)]
        obtain ⟨g1, g2⟩ := simpl_between hb hd h h1
        have g3 : c - a / b * d < d := by rw [Nat.add_mul, Nat.one_mul] at h2; omega
        obtain ⟨r1, r2, r3, r4⟩ := simpl_bound N d (c - a / b * d) b (a % b) (by omega) (by omega) (by omega) (by rw [Nat.mul_comm d]; exact g2)
        generalize simpl d (c - a / b * d) b (a % b) = r at *
        have m1 : a / b * r.1 ≤ a / b * b := Nat.mul_le_mul_left _ r3
        have m2 : a / b * r.1 ≤ a / b * d := Nat.mul_le_mul_left _ r1
        rw [Nat.mul_comm (a / b) b] at m1
        exact ⟨by show a / b * r.1 + r.2 ≤ a; omega, r3, by show a / b * r.1 + r.2 ≤ c; omega, r1⟩

end Go.Proofs.YtegobakoflbnfaaGreatDoor.QA

namespace Go.Proofs.YtegobakoflbnfaaGreatDoor.QA
open Go.RowKit WN LM

/-- how many decimal digits it is written with -/
def Dig (n : Nat) : Nat := max 1 (ofNat 10 n).length
theorem dig_pos (n : Nat) : 1 ≤ Dig n := Nat.le_max_left _ _
theorem lt_dig (n : Nat) : n < 10 ^ Dig n := by
  have h := val_lt (B := 10) (by omega) (ofNat_canon (B := 10) (by omega) n).1
  rw [val_ofNat (by omega)] at h
  exact Nat.lt_of_lt_of_le h (Nat.pow_le_pow_right (by omega) (Nat.le_max_right _ _))
theorem dig_le {n k : Nat} (hk : 1 ≤ k) (h : n < 10 ^ k) : Dig n ≤ k :=
  Nat.max_le.2 ⟨hk, len_le_of_lt (B := 10) (by omega) (ofNat_canon (by omega) n).2 (by rw [val_ofNat (by omega)]; exact h)⟩
theorem dig_eq {n k : Nat} (hk : 1 ≤ k) (h : n < 10 ^ k) (h2 : 10 ^ (k - 1) ≤ n) : Dig n = k := by
  have h1 := dig_le hk h
  have h3 := lt_dig n
  rcases Nat.lt_or_ge (Dig n) k with h4 | h4
  · have : 10 ^ Dig n ≤ 10 ^ (k - 1) := Nat.pow_le_pow_right (by omega) (by omega)
    omega
  · omega
theorem dig_zero : Dig 0 = 1 := by
  have := dig_le (n := 0) (k := 1) (by omega) (by simp)
  have := dig_pos 0
  omega
theorem dig_le_iff {n k : Nat} (hk : 1 ≤ k) : Dig n ≤ k ↔ n < 10 ^ k := by
  refine ⟨fun h => Nat.lt_of_lt_of_le (lt_dig n) (Nat.pow_le_pow_right (by omega) h), dig_le hk⟩
theorem dig_top {l : List Nat} (h : Digs 1000000000 l) (L : Nat) (hL : l.length = L + 1) (k : Nat) (hk : 1 ≤ k) (h1 : l[L]'(by omega) < 10 ^ k) (h2 : 10 ^ (k - 1) ≤ l[L]'(by omega)) : Dig (val 1000000000 l) = L * 9 + k := by
  have e := val_take_drop (B := 1000000000) l L (by omega)
  have e2 := val_drop 1000000000 l L (by omega)
  rw [show l.drop (L + 1) = [] from List.drop_eq_nil_of_le (by omega), val_nil, Nat.mul_zero, Nat.add_zero] at e2
  have h3 := val_lt (B := 1000000000) (by omega) (h.take L)
  rw [List.length_take, Nat.min_eq_left (by omega)] at h3
  generalize l[L]'(by omega) = t at *
  rw [e, e2]
  have ep : (1000000000 : Nat) ^ L = 10 ^ (L * 9) := by rw [Nat.mul_comm, Nat.pow_mul]
  rw [ep] at h3 ⊢
  apply dig_eq (by omega)
  · rw [Nat.pow_add]
    have : 10 ^ (L * 9) * (t + 1) ≤ 10 ^ (L * 9) * 10 ^ k := Nat.mul_le_mul_left _ h1
    rw [Nat.mul_add] at this
    omega
  · rw [show L * 9 + k - 1 = L * 9 + (k - 1) from by omega, Nat.pow_add]
    have : 10 ^ (L * 9) * 10 ^ (k - 1) ≤ 10 ^ (L * 9) * t := Nat.mul_le_mul_left _ h2
    omega

/-- a power, or a number that has too many digits where the power has too many, too -/
def PowOut (w : World) (a n : Nat) (e : Ending) (w' : World) : Prop :=
  ∃ v m, e = .returned v ∧ Num w' v m ∧ Below w.heap.size w w' ∧ (m = a ^ n ∨ (300 < Dig m ∧ 300 < Dig (a ^ n))) ∧ Len m ≤ 34 + Len a

theorem dig_mono {n m : Nat} (h : n ≤ m) : Dig n ≤ Dig m := dig_le (dig_pos m) (Nat.lt_of_le_of_lt h (lt_dig m))
theorem len_dig_of {n k : Nat} (h : Dig n ≤ 300) (hk : 300 ≤ 9 * k) : Len n ≤ k := by
  apply len_lt
  refine Nat.lt_of_lt_of_le (lt_dig n) ?_
  rw [show (1000000000 : Nat) = 10 ^ 9 from rfl, ← Nat.pow_mul]
  exact Nat.pow_le_pow_right (by omega) (by omega)
theorem len_dig {n : Nat} (h : Dig n ≤ 300) : Len n ≤ 34 := len_dig_of h (by omega)

end Go.Proofs.YtegobakoflbnfaaGreatDoor.QA

-- from A4
namespace Go.Proofs.YtegobakoflbnfaaGreatDoor.QA
open Go.RowKit WN LM

theorem Num.shape {w : World} {v : Value} {n : Nat} (h : Num w v n) : ∃ oa k c, v = .slice oa k c := by
  obtain ⟨oa, c, _, rfl, _⟩ := h.open
  exact ⟨oa, _, c, rfl⟩

/-- v is a number of the program: its sign, its numerator, its denominator -/
def Frac (w : World) (v : Value) (s : Bool) (n d : Nat) : Prop := ∃ vn vd, v = .agg #[.bool s, vn, vd] ∧ Num w vn n ∧ Num w vd d
def RetF (w : World) (s : Bool) (n d : Nat) (e : Ending) (w' : World) : Prop := ∃ v, e = .returned v ∧ Frac w' v s n d ∧ Below w.heap.size w w'
theorem Frac.below {w w' : World} {v : Value} {s : Bool} {n d : Nat} (h : Frac w v s n d) {B : Nat} (hb : Below B w w') (hB : w.heap.size ≤ B) : Frac w' v s n d := by
  obtain ⟨vn, vd, rfl, h1, h2⟩ := h
  exact ⟨vn, vd, rfl, h1.below hb hB, h2.below hb hB⟩

theorem three_below {w w' : World} {B g : Nat} (b0 b1 b2 : Value) (h : Below B w w') (hg : B ≤ g) :
    Below B w (((w'.setCell ⟨g, 0, none⟩ b0).setCell ⟨g, 1, none⟩ b1).setCell ⟨g, 2, none⟩ b2) :=
  ((h.setCell (p := ⟨g, 0, none⟩) hg _).setCell (p := ⟨g, 1, none⟩) hg _).setCell (p := ⟨g, 2, none⟩) hg _

end Go.Proofs.YtegobakoflbnfaaGreatDoor.QA

namespace Go.Proofs.YtegobakoflbnfaaGreatDoor.QA
open Go.RowKit WN LM

def sgn (s : Bool) (n : Nat) : Int := if s then -1 else if n = 0 then 0 else 1

/-- a number's box, new -/
theorem Frac.box {w : World} {v : Value} {s : Bool} {n d : Nat} (h : Frac w v s n d) : ∃ o1 k1 c1 o2 k2 c2, v = .agg #[.bool s, .slice o1 k1 c1, .slice o2 k2 c2] ∧ Num w (.slice o1 k1 c1) n ∧ Num w (.slice o2 k2 c2) d := by
  obtain ⟨vn, vd, rfl, h1, h2⟩ := h
  obtain ⟨o1, k1, c1, rfl⟩ := h1.shape
  obtain ⟨o2, k2, c2, rfl⟩ := h2.shape
  exact ⟨_, _, _, _, _, _, rfl, h1, h2⟩

end Go.Proofs.YtegobakoflbnfaaGreatDoor.QA

namespace Go.Proofs.YtegobakoflbnfaaGreatDoor.QA
open Go.RowKit WN LM

theorem Num.go {w w' : World} {v : Value} {n : Nat} (h : Num w v n) (hb : Below w.heap.size w w') : Num w' v n := h.below hb (Nat.le_refl _)
theorem bstep {w w1 w2 : World} (h : Below w.heap.size w w1) (k : Below w1.heap.size w1 w2) : Below w.heap.size w w2 := h.trans (k.mono h.size)
theorem below_alloc (w : World) (o : Obj) : Below w.heap.size w (w.alloc o) := (Below.refl _ w).alloc (Nat.le_refl _) o

end Go.Proofs.YtegobakoflbnfaaGreatDoor.QA

namespace Go.Proofs.YtegobakoflbnfaaGreatDoor.QA
open Go.RowKit WN LM

theorem Num.drew {w : World} {v : Value} {n : Nat} (h : Num w v n) : Num w.drew v n := h.go (Below.refl _ _).drew
theorem below_drew (w : World) : Below w.heap.size w w.drew := (Below.refl _ _).drew

theorem Frac.drew {w : World} {v : Value} {s : Bool} {n d : Nat} (h : Frac w v s n d) : Frac w.drew v s n d := h.below (B := w.heap.size) (Below.refl _ _).drew (Nat.le_refl _)
theorem RetF.drew {w w' : World} {s : Bool} {n d : Nat} {e : Ending} (h : RetF w s n d e w') : RetF w s n d e w'.drew := by
  obtain ⟨v, rfl, h, hb⟩ := h
  exact ⟨v, rfl, h.drew, hb.drew⟩

end Go.Proofs.YtegobakoflbnfaaGreatDoor.QA

namespace Go.Proofs.YtegobakoflbnfaaGreatDoor.QA
open Go.RowKit WN LM

theorem keep3 {w w' : World} {a b c : Addr} {x y z : Value} (h : w.cell? a = some x ∧ w.cell? b = some y ∧ w.cell? c = some z) (hb : Below w.heap.size w w') : w'.cell? a = some x ∧ w'.cell? b = some y ∧ w'.cell? c = some z :=
  ⟨(hb.cell (World.block_lt_of_cell? w a h.1)).trans h.1, (hb.cell (World.block_lt_of_cell? w b h.2.1)).trans h.2.1, (hb.cell (World.block_lt_of_cell? w c h.2.2)).trans h.2.2⟩

theorem keepSt {w : World} {a b c : Addr} {x y z X Y Z : Value} {p : Nat} (h : w.cell? a = some x ∧ w.cell? b = some y ∧ w.cell? c = some z) (ha : p ≠ a.block) (hb : p ≠ b.block) (hc : p ≠ c.block) :
    (((w.setCell ⟨p, 0, none⟩ X).setCell ⟨p, 1, none⟩ Y).setCell ⟨p, 2, none⟩ Z).cell? a = some x ∧ (((w.setCell ⟨p, 0, none⟩ X).setCell ⟨p, 1, none⟩ Y).setCell ⟨p, 2, none⟩ Z).cell? b = some y ∧ (((w.setCell ⟨p, 0, none⟩ X).setCell ⟨p, 1, none⟩ Y).setCell ⟨p, 2, none⟩ Z).cell? c = some z := by
  refine ⟨?_, ?_, ?_⟩
  · rw [World.cell?_setCell_far _ _ _ _ ha, World.cell?_setCell_far _ _ _ _ ha, World.cell?_setCell_far _ _ _ _ ha]; exact h.1
  · rw [World.cell?_setCell_far _ _ _ _ hb, World.cell?_setCell_far _ _ _ _ hb, World.cell?_setCell_far _ _ _ _ hb]; exact h.2.1
  · rw [World.cell?_setCell_far _ _ _ _ hc, World.cell?_setCell_far _ _ _ _ hc, World.cell?_setCell_far _ _ _ _ hc]; exact h.2.2

/-- two integers with signs, added: is it below 0, how large is it -/
def addS (s : Bool) (n : Nat) (t : Bool) (m : Nat) : Bool := if s = t then s else if n < m then t else s
def addN (s : Bool) (n : Nat) (t : Bool) (m : Nat) : Nat := if s = t then n + m else if n < m then m - n else n - m

end Go.Proofs.YtegobakoflbnfaaGreatDoor.QA

namespace Go.Proofs.YtegobakoflbnfaaGreatDoor.QA
open Go.RowKit WN LM

end Go.Proofs.YtegobakoflbnfaaGreatDoor.QA

-- from A5
namespace Go.Proofs.YtegobakoflbnfaaGreatDoor.QA
open Go.RowKit WN LM

theorem wp_cut3 {P : Program} {c : Code} {Q : Exit → Act → World → Prop} {a : Act} {w : World} {R : Value → Value → Value → World → Prop} (F : Value → Value → Value → Act) (h : c.wp P (OnlyNormal fun a' w' => ∃ v1 v2 v3, a' = F v1 v2 v3 ∧ R v1 v2 v3 w') a w)
    (h2 : ∀ v1 v2 v3 w', R v1 v2 v3 w' → Q .normal (F v1 v2 v3) w') : c.wp P Q a w :=
  wp_mono h (OnlyNormal.elim (by rintro a' w' ⟨v1, v2, v3, rfl, h⟩; exact h2 v1 v2 v3 w' h))

/-- the world is as it was, and so are three cells -/
def At3 (w0 w : World) (a b c : Addr) (x y z : Value) : Prop := Below w0.heap.size w0 w ∧ w.cell? a = some x ∧ w.cell? b = some y ∧ w.cell? c = some z

theorem at_go {w0 w w' : World} {a b c : Addr} {x y z : Value} (h : Below w0.heap.size w0 w ∧ w.cell? a = some x ∧ w.cell? b = some y ∧ w.cell? c = some z) (hb : Below w.heap.size w w') :
    Below w0.heap.size w0 w' ∧ w'.cell? a = some x ∧ w'.cell? b = some y ∧ w'.cell? c = some z := ⟨bstep h.1 hb, keep3 h.2 hb⟩
theorem at_alloc {w0 w : World} {a b c : Addr} {x y z : Value} {o : Obj} (h : Below w0.heap.size w0 w ∧ w.cell? a = some x ∧ w.cell? b = some y ∧ w.cell? c = some z) :
    Below w0.heap.size w0 (w.alloc o) ∧ (w.alloc o).cell? a = some x ∧ (w.alloc o).cell? b = some y ∧ (w.alloc o).cell? c = some z := at_go h (below_alloc w o)
theorem at_store {w0 w : World} {a b c : Addr} {x y z X Y Z : Value} {p : Nat} (h : Below w0.heap.size w0 w ∧ w.cell? a = some x ∧ w.cell? b = some y ∧ w.cell? c = some z) (hp : w0.heap.size ≤ p) (ha : a.block < w0.heap.size) (hb : b.block < w0.heap.size) (hc : c.block < w0.heap.size) :
    Below w0.heap.size w0 (((w.setCell ⟨p, 0, none⟩ X).setCell ⟨p, 1, none⟩ Y).setCell ⟨p, 2, none⟩ Z) ∧ (((w.setCell ⟨p, 0, none⟩ X).setCell ⟨p, 1, none⟩ Y).setCell ⟨p, 2, none⟩ Z).cell? a = some x ∧ (((w.setCell ⟨p, 0, none⟩ X).setCell ⟨p, 1, none⟩ Y).setCell ⟨p, 2, none⟩ Z).cell? b = some y ∧ (((w.setCell ⟨p, 0, none⟩ X).setCell ⟨p, 1, none⟩ Y).setCell ⟨p, 2, none⟩ Z).cell? c = some z :=
  ⟨three_below _ _ _ h.1 hp, keepSt h.2 (by omega) (by omega) (by omega)⟩

end Go.Proofs.YtegobakoflbnfaaGreatDoor.QA

namespace Go.Proofs.YtegobakoflbnfaaGreatDoor.QA
open Go.RowKit WN LM

/-- the size of the greatest integer that is not greater -/
def floorN (s : Bool) (n d : Nat) : Nat := if s && decide (n % d ≠ 0) then n / d + 1 else n / d

end Go.Proofs.YtegobakoflbnfaaGreatDoor.QA

namespace Go.Proofs.YtegobakoflbnfaaGreatDoor.QA
open Go.RowKit WN LM

/-- the size of the nearest integer, of two the even one -/
def roundN (n d : Nat) : Nat := if d < n % d + n % d ∨ (n % d + n % d = d ∧ n / d % 2 = 1) then n / d + 1 else n / d

theorem wp_cut1 {P : Program} {c : Code} {Q : Exit → Act → World → Prop} {a : Act} {w : World} {R : Value → World → Prop} (F : Value → Act) (h : c.wp P (OnlyNormal fun a' w' => ∃ v1, a' = F v1 ∧ R v1 w') a w)
    (h2 : ∀ v1 w', R v1 w' → Q .normal (F v1) w') : c.wp P Q a w :=
  wp_mono h (OnlyNormal.elim (by rintro a' w' ⟨v1, rfl, h⟩; exact h2 v1 w' h))

end Go.Proofs.YtegobakoflbnfaaGreatDoor.QA

namespace Go.Proofs.YtegobakoflbnfaaGreatDoor.QA
open Go.RowKit WN LM

theorem u64_wrap_neg (n : Int) (h : n < 0) (h2 : -9223372036854775808 ≤ n) : IntKind.u64.wrap n = n + 18446744073709551616 := by
  have e : IntKind.u64.wrap n = n % 18446744073709551616 := by
    unfold IntKind.wrap
    simp [IntKind.signed, IntKind.bits]
  rw [e]; omega
theorem u64_wrap_back (n : Int) (h : n < 0) (h2 : -9223372036854775808 ≤ n) : IntKind.u64.wrap (-(n + 18446744073709551616)) = (n.natAbs : Nat) := by
  have e : IntKind.u64.wrap (-(n + 18446744073709551616)) = (-(n + 18446744073709551616)) % 18446744073709551616 := by
    unfold IntKind.wrap
    simp [IntKind.signed, IntKind.bits]
  rw [e]; omega

end Go.Proofs.YtegobakoflbnfaaGreatDoor.QA

-- from A6
/- A law for a region that draws its order: each of its first operations is looked at once, whatever the order, and what its slot holds is said by a relation that new memory keeps. Words for the law of Inv: relations of slots, listed by slot. The law of Inv for a region that keeps the text's order: its guards are not parted. -/
namespace Go.Proofs.YtegobakoflbnfaaGreatDoor.QA
open Go Go.RowKit

section
variable {P : Program} {ops : Array Oper} {md : Region.Mode} {Q : Exit → Act → World → Prop}

def dstAt (ops : Array Oper) (j : Nat) : Option Tmp := (ops[j]?).bind (·.dst)
/-- slot t is one of the first n operations' -/
def inHead (ops : Array Oper) (n : Nat) (t : Tmp) : Bool := (List.range n).any fun j => dstAt ops j == some t

/-- of the first n operations: each has a slot of its own, below N; waits for earlier ones alone, and for each that it looks at -/
def headOk (md : Region.Mode) (ops : Array Oper) (n N : Nat) : Bool :=
  (List.range n).all fun j => match ops[j]? with
    | none => false
    | some o => (match o.dst with
        | none => false
        | some d => decide (d < N) && (List.range n).all fun k => k == j || dstAt ops k != some d) &&
      (o.after.all fun e => !Region.binds md e || decide (e.on < j)) &&
      ((o.looksAt ops).all fun t => !inHead ops n t || o.after.any fun e => Region.binds md e && dstAt ops e.on == some t)

structure HeadFact (md : Region.Mode) (ops : Array Oper) (n N j : Nat) (o : Oper) (d : Tmp) : Prop where
  dst : o.dst = some d
  lt : d < N
  own : ∀ k, k < n → k ≠ j → dstAt ops k ≠ some d
  after : ∀ e ∈ o.after, Region.binds md e = true → e.on < j
  looks : ∀ t ∈ o.looksAt ops, inHead ops n t = true → ∃ e ∈ o.after, Region.binds md e = true ∧ dstAt ops e.on = some t

theorem headOk_spec {n N j : Nat} (h : headOk md ops n N = true) (hj : j < n) : ∃ o d, ops[j]? = some o ∧ HeadFact md ops n N j o d := by
  have h1 := List.all_eq_true.1 h j (List.mem_range.2 hj)
  cases ho : ops[j]? with
  | none => simp [ho] at h1
  | some o =>
    simp only [ho, Bool.and_eq_true] at h1
    obtain ⟨⟨hd, ha⟩, hl⟩ := h1
    cases hod : o.dst with
    | none => simp [hod] at hd
    | some d =>
      simp only [hod, Bool.and_eq_true, decide_eq_true_eq] at hd
      refine ⟨o, d, rfl, hod, hd.1, fun k hk hkj he => ?_, fun e he hb => ?_, fun t ht hin => ?_⟩
      · have := List.all_eq_true.1 hd.2 k (List.mem_range.2 hk)
        simp [hkj, he] at this
      · have := Array.all_eq_true_iff_forall_mem.1 ha e he
        simpa [hb] using this
      · have := List.all_eq_true.1 hl t ht
        simp only [hin, Bool.not_true, Bool.false_or] at this
        obtain ⟨e, he, hb⟩ := Array.any_eq_true'.1 this
        simp only [Bool.and_eq_true, beq_iff_eq] at hb
        exact ⟨e, he, hb.1, hb.2⟩

theorem Act.eval_tmp_put_ne {a : Act} {d t : Tmp} {v : Value} (h : d ≠ t) : (a.put (some d) v).eval (.tmp t) = a.eval (.tmp t) := by
  simp [Act.put, Act.eval, Array.getElem?_setIfInBounds_ne h]
theorem Act.eval_tmp_put_eq {a : Act} {d : Tmp} {v : Value} (h : d < a.tmps.size) : (a.put (some d) v).eval (.tmp d) = v := by
  simp [Act.put, Act.eval, h]

theorem Act.eval_tmp (a : Act) (t : Tmp) : a.eval (.tmp t) = a.tmps[t]?.getD undef := by simp [Act.eval]
/-- what one operation owes -/
def StepInv (P : Program) (ops : Array Oper) (Q : Exit → Act → World → Prop) (n : Nat) (base : Act) (w0 : World) (R : Tmp → Value → World → Prop) (o : Oper) : Prop :=
  ∀ (a : Act) (w : World), (∀ t, inHead ops n t = false → a.tmps[t]?.getD undef = base.tmps[t]?.getD undef) →
    (∀ t, ((o.looksAt ops).contains t && inHead ops n t) = true → R t (a.tmps[t]?.getD undef) w) → Below w0.heap.size w0 w →
    ∀ K : Act → World → Prop, (∀ v w', Below w.heap.size w w' → R (o.dst.getD 0) v w' → K (a.put o.dst v) w') → if Region.wanted o (yielded ops a.tmps) = true then o.wp P a w K Q else K (a.put o.dst undef) w

/-- what an operation without a guard owes -/
def StepU (P : Program) (ops : Array Oper) (Q : Exit → Act → World → Prop) (n : Nat) (base : Act) (w0 : World) (R : Tmp → Value → World → Prop) (o : Oper) : Prop :=
  ∀ (a : Act) (w : World), (∀ t, inHead ops n t = false → a.tmps[t]?.getD undef = base.tmps[t]?.getD undef) →
    (∀ t, ((o.looksAt ops).contains t && inHead ops n t) = true → R t (a.tmps[t]?.getD undef) w) → Below w0.heap.size w0 w →
    ∀ K : Act → World → Prop, (∀ v w', Below w.heap.size w w' → R (o.dst.getD 0) v w' → K (a.put o.dst v) w') → o.wp P a w K Q
theorem StepU.inv {n : Nat} {base : Act} {w0 : World} {R : Tmp → Value → World → Prop} {o : Oper} (hg : o.guard = none) (h : StepU P ops Q n base w0 R o) : StepInv P ops Q n base w0 R o := fun a w h1 h2 h3 K hK => by
  rw [if_pos (by simp [Region.wanted, hg])]
  exact h a w h1 h2 h3 K hK
/-- a guarded operation: the guard's slot decides -/
theorem wanted_slot {o : Oper} {a : Act} {j : Nat} {want b : Bool} {t : Tmp} (hg : o.guard = some (j, want)) (ht : dstAt ops j = some t) (h : a.tmps[t]?.getD undef = .bool b) : Region.wanted o (yielded ops a.tmps) = (b == want) := by
  have h1 : a.tmps[t]? = some (.bool b) := by
    cases hh : a.tmps[t]? with
    | none => rw [hh] at h; cases h
    | some x => rw [hh] at h; rw [← h]; rfl
  unfold dstAt at ht
  simp only [Region.wanted, hg, yielded, ht, Option.bind_some, h1]
  cases b <;> cases want <;> rfl

structure FInv (md : Region.Mode) (ops : Array Oper) (n : Nat) (base : Act) (w0 : World) (R : Tmp → Value → World → Prop) (listed : Array Bool) (a : Act) (w : World) : Prop where
  head : HeadInv md ops n listed
  tsize : a.tmps.size = base.tmps.size
  defers : a.defers = base.defers
  off : ∀ t, (∀ j, j < n → dstAt ops j = some t → listed.getD j false = false) → a.eval (.tmp t) = base.eval (.tmp t)
  rel : ∀ j, j < n → ∀ d, dstAt ops j = some d → listed.getD j false = true → R d (a.eval (.tmp d)) w
  good : Below w0.heap.size w0 w

theorem exists_least {p : Nat → Bool} : ∀ (n : Nat), (∃ i, i < n ∧ p i = true) → ∃ i, i < n ∧ p i = true ∧ ∀ j, j < i → p j = false
  | 0, ⟨i, h, _⟩ => absurd h (Nat.not_lt_zero _)
  | n + 1, ⟨i, h, hp⟩ => by
    by_cases hex : ∃ i, i < n ∧ p i = true
    · obtain ⟨k, hk, hkp, hmin⟩ := exists_least n hex
      exact ⟨k, by omega, hkp, hmin⟩
    · have : i = n := by
        rcases Nat.lt_or_ge i n with h' | h'
        · exact absurd ⟨i, h', hp⟩ hex
        · omega
      subst this
      refine ⟨i, h, hp, fun j hj => ?_⟩
      cases hpj : p j with
      | false => rfl
      | true => exact absurd ⟨j, hj, hpj⟩ hex

/-- how many of the first n are left -/
def leftN (n : Nat) (listed : Array Bool) : Nat := (List.range n).countP fun i => !listed.getD i false
theorem leftN_set {n i : Nat} {listed : Array Bool} (hi : i < n) (h : listed.getD i false = false) (hs : i < listed.size) : leftN n (listed.setIfInBounds i true) + 1 = leftN n listed := by
  unfold leftN
  induction n with
  | zero => omega
  | succ n ih =>
    rw [List.range_succ, List.countP_append, List.countP_append, List.countP_singleton, List.countP_singleton]
    by_cases hin : i = n
    · subst hin
      have e : (List.range i).countP (fun k => !(listed.setIfInBounds i true).getD k false) = (List.range i).countP (fun k => !listed.getD k false) := by
        apply List.countP_congr
        intro x hx
        have := List.mem_range.1 hx
        rw [getD_set_ne false (by omega)]
      have e2 : (listed.setIfInBounds i true).getD i false = true := by simp [hs]
      rw [e, e2, h]
      simp
    · have := ih (by omega)
      rw [getD_set_ne false hin]
      omega

theorem wanted_or {c : Bool} {A B C : Prop} (h : if c = true then A else C) : if c = true then A ∨ B else C := by
  cases c
  · simpa using h
  · simp at h ⊢; exact .inl h
theorem noHead {n t j : Nat} {p : Prop} (ht : inHead ops n t = false) (hj : j < n) (hd : dstAt ops j = some t) : p := by
  have : inHead ops n t = true := List.any_eq_true.2 ⟨j, List.mem_range.2 hj, by simp [hd]⟩
  rw [this] at ht; cases ht

theorem wpAny_inv {n N : Nat} {base : Act} {w0 : World} {R : Tmp → Value → World → Prop} (hok : headOk md ops n N = true) (hN : base.tmps.size = N)
    (hs : Region.sinkB md ops n = true) (hc : Region.chainB md ops n = true) (hn : n < ops.size)
    (hmono : ∀ t v w w', Below w.heap.size w w' → R t v w → R t v w')
    (hstep : ∀ j o, j < n → ops[j]? = some o → StepInv P ops Q n base w0 R o) {g : Nat}
    (hend : ∀ listed a w, FInv md ops n base w0 R listed a w → leftN n listed = 0 → wpAny P md ops Q g listed a w) :
    ∀ (f : Nat) (listed : Array Bool) (a : Act) (w : World), FInv md ops n base w0 R listed a w → leftN n listed = f → wpAny P md ops Q (f + g) listed a w
  | 0, listed, a, w, inv, hf => by rw [Nat.zero_add]; exact hend listed a w inv hf
  | f + 1, listed, a, w, inv, hf => by
    rw [show f + 1 + g = (f + g) + 1 by omega]
    have hsz : ∀ {i : Nat}, i < n → i < listed.size := fun h => by rw [inv.head.size]; omega
    -- one is left
    have hex : ∃ i, i < n ∧ (!listed.getD i false) = true := by
      have : 0 < leftN n listed := by omega
      unfold leftN at this
      rw [List.countP_pos_iff] at this
      obtain ⟨i, hi, hp⟩ := this
      exact ⟨i, List.mem_range.1 hi, hp⟩
    obtain ⟨i, hi, hp, hmin⟩ := exists_least n hex
    have hpi : listed.getD i false = false := by simpa using hp
    have hnt : ∀ t, n ≤ t → t ∉ Region.ready md ops listed := tail_waits hs hc hn inv.head _ i rfl hi (getD_in (hsz hi) hpi)
    refine ⟨fun h0 => ?_, fun k hk => ?_⟩
    · obtain ⟨o, d, ho, hf⟩ := headOk_spec hok hi
      have : i ∈ Region.ready md ops listed := mem_ready.2 ⟨getD_in (hsz hi) hpi, o, ho, fun e he hb => by
        have := hmin e.on (hf.after e he hb)
        simpa using this⟩
      rw [h0] at this
      cases this
    · have hkn : k < n := by
        rcases Nat.lt_or_ge k n with h | h
        · exact h
        · exact absurd hk (hnt k h)
      obtain ⟨o, d, ho, hfk⟩ := headOk_spec hok hkn
      obtain ⟨hkun, o', ho', hall⟩ := mem_ready.1 hk
      obtain rfl : o' = o := Option.some.inj (ho'.symm.trans ho)
      have hdk : dstAt ops k = some d := by simp [dstAt, ho, hfk.dst]
      unfold wpOp
      simp only [ho]
      refine wanted_or (hstep k o' hkn ho a w (fun t ht => by rw [← Act.eval_tmp, ← Act.eval_tmp]; exact inv.off t fun j hj hd => noHead ht hj hd) (fun t ht => ?_) inv.good _ (fun v w' hb hr => ?_))
      · simp only [Bool.and_eq_true] at ht
        obtain ⟨e, he, hb, hd⟩ := hfk.looks t (by simpa using ht.1) ht.2
        rw [← Act.eval_tmp]
        exact inv.rel e.on (by have := hfk.after e he hb; omega) t hd (hall e he hb)
      · refine wpAny_inv hok hN hs hc hn hmono hstep hend f _ _ _ ?_ (by have := leftN_set hkn (getD_both hkun) (hsz hkn); omega)
        have hda : d < a.tmps.size := by rw [inv.tsize, hN]; exact hfk.lt
        refine ⟨inv.head.set hk hkn, ?_, ?_, fun t ht => ?_, fun j hj dj hdj hl => ?_, inv.good.trans (hb.mono inv.good.size)⟩
        · rw [hfk.dst]; simp [Act.put, inv.tsize]
        · rw [hfk.dst]; simp [Act.put, inv.defers]
        · have hdt : d ≠ t := by
            rintro rfl
            have := ht k hkn hdk
            rw [show (listed.setIfInBounds k true).getD k false = true from by simp [hsz hkn]] at this
            cases this
          rw [hfk.dst, Act.eval_tmp_put_ne hdt]
          refine inv.off t fun j hj hdj => ?_
          have := ht j hj hdj
          by_cases hkj : k = j
          · subst hkj; exact getD_both hkun
          · rwa [getD_set_ne false hkj] at this
        · by_cases hkj : k = j
          · subst hkj
            obtain rfl : dj = d := Option.some.inj (hdj.symm.trans hdk)
            rw [hfk.dst, Act.eval_tmp_put_eq hda]
            rw [hfk.dst] at hr
            exact hr
          · have hne : d ≠ dj := by
              rintro rfl
              exact hfk.own j hj (Ne.symm hkj) hdj
            rw [hfk.dst, Act.eval_tmp_put_ne hne]
            rw [getD_set_ne false hkj] at hl
            exact hmono _ _ _ _ hb (inv.rel j hj dj hdj hl)

/-- the frame, the slots of these operations written -/
def putHead (g : Tmp → Value) : List Oper → Act → Act
  | [], a => a
  | o :: l, a => putHead g l (a.put o.dst (g (o.dst.getD 0)))
theorem putHead_defers (g : Tmp → Value) : ∀ (l : List Oper) (a : Act), (putHead g l a).defers = a.defers
  | [], a => rfl
  | o :: l, a => by
    rw [putHead, putHead_defers g l]
    cases o.dst <;> rfl
theorem putHead_size (g : Tmp → Value) : ∀ (l : List Oper) (a : Act), (putHead g l a).tmps.size = a.tmps.size
  | [], a => rfl
  | o :: l, a => by
    rw [putHead, putHead_size g l]
    cases o.dst <;> simp [Act.put]
theorem putHead_eval (g : Tmp → Value) : ∀ (l : List Oper) (a : Act) (t : Tmp), t < a.tmps.size → (putHead g l a).eval (.tmp t) = if (l.any fun o => o.dst == some t) = true then g t else a.eval (.tmp t)
  | [], a, t, h => by simp [putHead]
  | o :: l, a, t, h => by
    rw [putHead, putHead_eval g l _ t (by cases o.dst <;> simpa [Act.put] using h)]
    rw [List.any_cons]
    by_cases h1 : (l.any fun o => o.dst == some t) = true
    · simp [h1]
    · rw [if_neg h1]
      cases hd : o.dst with
      | none => simp [h1]; rfl
      | some d =>
        by_cases hdt : d = t
        · subst hdt
          rw [Act.eval_tmp_put_eq h]
          simp
        · rw [Act.eval_tmp_put_ne hdt]
          simp [h1, hdt]

theorem act_ext {a b : Act} (hs : a.tmps.size = b.tmps.size) (hd : a.defers = b.defers) (he : ∀ t, t < a.tmps.size → a.eval (.tmp t) = b.eval (.tmp t)) : a = b := by
  cases a with
  | mk at_ ad =>
    cases b with
    | mk bt bd =>
      obtain rfl : ad = bd := hd
      have : at_ = bt := by
        apply Array.ext hs
        intro i h1 h2
        have := he i h1
        simp only [Act.eval, Array.getD_eq_getD_getElem?, Array.getElem?_eq_getElem h1, Array.getElem?_eq_getElem h2, Option.getD_some] at this
        exact this
      rw [this]

theorem leftN_zero {n : Nat} {listed : Array Bool} (h : leftN n listed = 0) {i : Nat} (hi : i < n) : listed.getD i false = true := by
  unfold leftN at h
  rw [List.countP_eq_zero] at h
  have := h i (List.mem_range.2 hi)
  simpa using this

/-- each of the first operations, one by one -/
def StepsInv (P : Program) (ops : Array Oper) (Q : Exit → Act → World → Prop) (n : Nat) (base : Act) (w0 : World) (R : Tmp → Value → World → Prop) : List Oper → Prop
  | [] => True
  | o :: l => StepInv P ops Q n base w0 R o ∧ StepsInv P ops Q n base w0 R l
theorem StepsInv.get {n : Nat} {base : Act} {w0 : World} {R : Tmp → Value → World → Prop} : ∀ {l : List Oper}, StepsInv P ops Q n base w0 R l → ∀ (j : Nat) (o : Oper), l[j]? = some o → StepInv P ops Q n base w0 R o
  | [], _, j, o, h => by simp at h
  | x :: l, hs, 0, o, h => by
    obtain rfl : x = o := by simpa using h
    exact hs.1
  | x :: l, hs, j + 1, o, h => hs.2.get j o (by simpa using h)

/-- what the slots of these operations hold at the end -/
def HeadHeld (R : Tmp → Value → World → Prop) (g : Tmp → Value) (w : World) : List Oper → Prop
  | [] => True
  | o :: l => R (o.dst.getD 0) (g (o.dst.getD 0)) w ∧ HeadHeld R g w l
theorem headHeld_of {R : Tmp → Value → World → Prop} {g : Tmp → Value} {w : World} : ∀ {l : List Oper}, (∀ (j : Nat) (o : Oper), l[j]? = some o → R (o.dst.getD 0) (g (o.dst.getD 0)) w) → HeadHeld R g w l
  | [], _ => trivial
  | x :: l, h => ⟨h 0 x rfl, headHeld_of fun j o ho => h (j + 1) o (by simpa using ho)⟩

def invOk (md : Region.Mode) (l : List Oper) (n N : Nat) : Bool :=
  headOk md l.toArray n N && Region.sinkB md l.toArray n && Region.chainB md l.toArray n && decide (n < l.length) && Region.seqB md l.toArray (l.length - n) n ((Array.range l.length).map fun i => decide (i < n))

/-- THE LAW -/
theorem wp_region_inv {id : Nat} {base : Act} {w : World} {l : List Oper} (n N : Nat) (R : Tmp → Value → World → Prop) (hm : P.follows .mixedOrders = true) (hN : base.tmps.size = N) (hok : invOk .any l n N = true)
    (hmono : ∀ t v w w', Below w.heap.size w w' → R t v w → R t v w')
    (hstep : StepsInv P l.toArray Q n base w R (l.take n))
    (hend : ∀ (g : Tmp → Value) (w' : World), Below w.heap.size w w' → HeadHeld R g w' (l.take n) → wpList P l.toArray Q (l.drop n) (putHead g (l.take n) base) w') :
    (Code.region id l.toArray true).wp P Q base w := by
  simp only [invOk, Bool.and_eq_true, decide_eq_true_eq] at hok
  obtain ⟨⟨⟨⟨h1, h2⟩, h3⟩, h4⟩, h5⟩ := hok
  have hn : n < l.toArray.size := by simpa using h4
  refine wp_region_any hm ?_
  have hdl : (l.drop n).length = l.toArray.size - n := by simp
  have inv0 : HeadInv .any l.toArray n (Array.replicate l.toArray.size false) :=
    ⟨by simp, fun j oj _ hl => (by rw [getD_replicate_false] at hl; cases hl), fun t _ ht => getD_in (by simpa using ht) (getD_replicate_false _ _)⟩
  have hl0 : leftN n (Array.replicate l.toArray.size false) = n := by
    unfold leftN
    rw [List.countP_eq_length.2 (fun x _ => by rw [getD_replicate_false]; rfl), List.length_range]
  have key := wpAny_inv (P := P) (Q := Q) (md := .any) (g := l.toArray.size - n) h1 hN h2 h3 hn hmono (fun j o hj ho => hstep.get j o (by rw [List.getElem?_take, if_pos hj]; simpa using ho)) ?_ n _ base w.drew
    ⟨inv0, rfl, rfl, fun _ _ => rfl, fun j _ d _ hl => (by rw [getD_replicate_false] at hl; cases hl), (Below.refl _ _).drew⟩ hl0
  · rw [show n + (l.toArray.size - n) = l.toArray.size from by omega] at key
    exact key
  · intro listed a w' inv hz
    have hfin : listed = (Array.range l.length).map fun i => decide (i < n) := by
      apply Array.ext
      · rw [inv.head.size]; simp
      · intro i hi1 hi2
        rw [inv.head.size] at hi1
        simp only [Array.getElem_map, Array.getElem_range]
        rcases Nat.lt_or_ge i n with h | h
        · have := leftN_zero hz h
          rw [decide_eq_true h]
          simpa [show i < listed.size from by rw [inv.head.size]; exact hi1] using this
        · have := inv.head.tail i h hi1
          rw [decide_eq_false (by omega)]
          simpa [show i < listed.size from by rw [inv.head.size]; exact hi1] using this
    have hseq := wpAny_of_seq (md := .any) (Q' := Q) (P := P) (ops := l.toArray) (l.drop n) n listed a w' (fun j => by simp [List.getElem?_drop]) (by rw [hdl, hfin]; simpa using h5)
    rw [hdl] at hseq
    apply hseq
    have hget : ∀ j o, (l.take n)[j]? = some o → j < n ∧ l.toArray[j]? = some o := fun j o ho => by
      rw [List.getElem?_take] at ho
      split at ho
      · rename_i h; exact ⟨h, by simpa using ho⟩
      · cases ho
    have hact : a = putHead (fun t => a.eval (.tmp t)) (l.take n) base := by
      apply act_ext
      · rw [putHead_size, inv.tsize]
      · rw [putHead_defers, inv.defers]
      · intro t ht
        rw [putHead_eval _ _ _ _ (by rw [← inv.tsize]; exact ht)]
        split
        · rfl
        · rename_i hno
          refine inv.off t fun j hj hd => ?_
          exfalso
          apply hno
          obtain ⟨o, ho, hod⟩ := Option.bind_eq_some_iff.1 hd
          rw [List.any_eq_true]
          refine ⟨o, ?_, by simp [hod]⟩
          refine List.mem_of_getElem? (i := j) ?_
          rw [List.getElem?_take, if_pos hj]; simpa using ho
    rw [hact]
    refine hend _ w' inv.good (headHeld_of fun j o ho => ?_)
    obtain ⟨hj, ho'⟩ := hget j o ho
    obtain ⟨o', d, ho'', hf⟩ := headOk_spec h1 hj
    obtain rfl : o' = o := Option.some.inj (ho''.symm.trans ho')
    have := inv.rel j hj d (by simp [dstAt, ho'', hf.dst]) (leftN_zero hz hj)
    rw [hf.dst]
    exact this
end
end Go.Proofs.YtegobakoflbnfaaGreatDoor.QA

namespace Go.Proofs.YtegobakoflbnfaaGreatDoor.QA
open Go Go.RowKit

/-- a relation of a slot's value and the world, which new memory keeps -/
structure Rel where
  r : Value → World → Prop
  keeps : ∀ v w w', Below w.heap.size w w' → r v w → r v w'
def pick : List (Tmp × Rel) → Tmp → Value → World → Prop
  | [], _ => fun _ _ => True
  | (k, r) :: l, t => if t = k then r.r else pick l t
theorem pick_keeps : ∀ (l : List (Tmp × Rel)) (t : Tmp) (v : Value) (w w' : World), Below w.heap.size w w' → pick l t v w → pick l t v w'
  | [], _, _, _, _, _, _ => trivial
  | (k, r) :: l, t, v, w, w', hb, hp => by
    unfold pick at hp ⊢
    split
    · rename_i e; rw [if_pos e] at hp; exact r.keeps v w w' hb hp
    · rename_i e; rw [if_neg e] at hp; exact pick_keeps l t v w w' hb hp

def Is (v0 : Value) : Rel := ⟨fun v _ => v = v0, fun _ _ _ _ h => h⟩
def IsNum (n : Nat) : Rel := ⟨fun v w => Num w v n, fun _ _ _ hb h => Num.go h hb⟩
def IsFrac (s : Bool) (n d : Nat) : Rel := ⟨fun v w => Frac w v s n d, fun _ _ _ hb h => Frac.below h hb (Nat.le_refl _)⟩
theorem steps_cons {P : Program} {ops : Array Oper} {Q : Exit → Act → World → Prop} {n : Nat} {base : Act} {w0 : World} {R : Tmp → Value → World → Prop} {o : Oper} {l : List Oper} {k : Nat}
    (hg : o.guard = none) (h1 : StepU P ops Q n base w0 R o) (h2 : StepsInv P ops Q n base w0 R (l.take k)) : StepsInv P ops Q n base w0 R ((o :: l).take (k + 1)) := ⟨h1.inv hg, h2⟩
theorem steps_guard {P : Program} {ops : Array Oper} {Q : Exit → Act → World → Prop} {n : Nat} {base : Act} {w0 : World} {R : Tmp → Value → World → Prop} {o : Oper} {l : List Oper} {k : Nat}
    (h1 : StepInv P ops Q n base w0 R o) (h2 : StepsInv P ops Q n base w0 R (l.take k)) : StepsInv P ops Q n base w0 R ((o :: l).take (k + 1)) := ⟨h1, h2⟩

/-- the law, the relations listed by slot -/
theorem region_inv {P : Program} {Q : Exit → Act → World → Prop} {id : Nat} {base : Act} {w : World} {l : List Oper} (n N : Nat) (L : List (Tmp × Rel)) (hm : P.follows .mixedOrders = true) (hN : base.tmps.size = N) (hok : invOk .any l n N = true)
    (hstep : StepsInv P l.toArray Q n base w (pick L) (l.take n))
    (hend : ∀ (g : Tmp → Value) (w' : World), Below w.heap.size w w' → HeadHeld (pick L) g w' (l.take n) → wpList P l.toArray Q (l.drop n) (putHead g (l.take n) base) w') :
    (Code.region id l.toArray true).wp P Q base w := wp_region_inv n N (pick L) hm hN hok (pick_keeps L) hstep hend
end Go.Proofs.YtegobakoflbnfaaGreatDoor.QA

namespace Go.Proofs.YtegobakoflbnfaaGreatDoor.QA
open Go Go.RowKit

section
variable {P : Program} {Q : Exit → Act → World → Prop}

structure SInv (ops : Array Oper) (base : Act) (w0 : World) (R : Tmp → Value → World → Prop) (k : Nat) (a : Act) (w : World) : Prop where
  tsize : a.tmps.size = base.tmps.size
  defers : a.defers = base.defers
  off : ∀ t, (∀ j, j < k → dstAt ops j ≠ some t) → a.eval (.tmp t) = base.eval (.tmp t)
  rel : ∀ j, j < k → ∀ d, dstAt ops j = some d → R d (a.eval (.tmp d)) w
  good : Below w0.heap.size w0 w

theorem wpOps_seq {ops : Array Oper} {n N : Nat} {base : Act} {w0 : World} {R : Tmp → Value → World → Prop} (hok : headOk .any ops n N = true) (hN : base.tmps.size = N)
    (hmono : ∀ t v w w', Below w.heap.size w w' → R t v w → R t v w')
    (hstep : ∀ j o, j < n → ops[j]? = some o → StepInv P ops Q n base w0 R o) {rest : List Nat}
    (hend : ∀ a w, SInv ops base w0 R n a w → wpOps P ops Q rest a w) :
    ∀ (f k : Nat) (a : Act) (w : World), k + f = n → SInv ops base w0 R k a w → wpOps P ops Q (List.range' k f ++ rest) a w
  | 0, k, a, w, hk, inv => by
    obtain rfl : k = n := by omega
    exact hend a w inv
  | f + 1, k, a, w, hk, inv => by
    have hkn : k < n := by omega
    obtain ⟨o, d, ho, hfk⟩ := headOk_spec hok hkn
    have hdk : dstAt ops k = some d := by simp [dstAt, ho, hfk.dst]
    rw [List.range'_succ, List.cons_append]
    unfold wpOps
    simp only [ho]
    refine wanted_or (hstep k o hkn ho a w (fun t ht => by rw [← Act.eval_tmp, ← Act.eval_tmp]; exact inv.off t fun j hj hd => noHead ht (by omega) hd) (fun t ht => ?_) inv.good _ (fun v w' hb hr => ?_))
    · simp only [Bool.and_eq_true] at ht
      obtain ⟨e, he, hb, hd⟩ := hfk.looks t (by simpa using ht.1) ht.2
      rw [← Act.eval_tmp]
      exact inv.rel e.on (hfk.after e he hb) t hd
    · refine wpOps_seq hok hN hmono hstep hend f (k + 1) _ _ (by omega) ?_
      have hda : d < a.tmps.size := by rw [inv.tsize, hN]; exact hfk.lt
      refine ⟨?_, ?_, fun t ht => ?_, fun j hj dj hdj => ?_, inv.good.trans (hb.mono inv.good.size)⟩
      · rw [hfk.dst]; simp [Act.put, inv.tsize]
      · rw [hfk.dst]; simp [Act.put, inv.defers]
      · have hdt : d ≠ t := by rintro rfl; exact ht k (by omega) hdk
        rw [hfk.dst, Act.eval_tmp_put_ne hdt]
        exact inv.off t fun j hj => ht j (by omega)
      · by_cases hkj : k = j
        · subst hkj
          obtain rfl : dj = d := Option.some.inj (hdj.symm.trans hdk)
          rw [hfk.dst, Act.eval_tmp_put_eq hda]
          rw [hfk.dst] at hr
          exact hr
        · have hne : d ≠ dj := by
            rintro rfl
            exact hfk.own j (by omega) (Ne.symm hkj) hdj
          rw [hfk.dst, Act.eval_tmp_put_ne hne]
          exact hmono _ _ _ _ hb (inv.rel j (by omega) dj hdj)

/-- the law, the relations listed by slot -/
theorem region_seq {id : Nat} {base : Act} {w : World} {l : List Oper} (n N : Nat) (L : List (Tmp × Rel)) (hN : base.tmps.size = N) (hok : (headOk .any l.toArray n N && decide (n ≤ l.length)) = true)
    (hstep : StepsInv P l.toArray Q n base w (pick L) (l.take n))
    (hend : ∀ (g : Tmp → Value) (w' : World), Below w.heap.size w w' → HeadHeld (pick L) g w' (l.take n) → wpList P l.toArray Q (l.drop n) (putHead g (l.take n) base) w') :
    (Code.region id l.toArray false).wp P Q base w := by
  simp only [Bool.and_eq_true, decide_eq_true_eq] at hok
  obtain ⟨h1, h4⟩ := hok
  refine wp_region ?_
  have hr : List.range l.toArray.size = List.range' 0 n ++ List.range' n (l.length - n) := by
    have e := List.range'_append_1 (s := 0) (m := n) (n := l.length - n)
    rw [Nat.zero_add, show n + (l.length - n) = l.length from by omega] at e
    rw [List.range_eq_range', List.size_toArray, e]
  rw [hr]
  refine wpOps_seq (P := P) (Q := Q) h1 hN (pick_keeps L) (fun j o hj ho => hstep.get j o (by rw [List.getElem?_take, if_pos hj]; simpa using ho)) ?_ n 0 base w (by omega)
    ⟨rfl, rfl, fun _ _ => rfl, fun j hj => absurd hj (Nat.not_lt_zero _), Below.refl _ _⟩
  intro a w' inv
  have hlen : (l.drop n).length = l.length - n := by simp
  have he := wpOps_eq_wpList (P := P) (ops := l.toArray) (Q := Q) (l.drop n) n (fun j => by simp [List.getElem?_drop])
  rw [hlen] at he
  rw [he]
  have hact : a = putHead (fun t => a.eval (.tmp t)) (l.take n) base := by
    apply act_ext
    · rw [putHead_size, inv.tsize]
    · rw [putHead_defers, inv.defers]
    · intro t ht
      rw [putHead_eval _ _ _ _ (by rw [← inv.tsize]; exact ht)]
      split
      · rfl
      · rename_i hno
        refine inv.off t fun j hj hd => ?_
        apply hno
        obtain ⟨o, ho, hod⟩ := Option.bind_eq_some_iff.1 hd
        rw [List.any_eq_true]
        refine ⟨o, ?_, by simp [hod]⟩
        refine List.mem_of_getElem? (i := j) ?_
        rw [List.getElem?_take, if_pos hj]; simpa using ho
  rw [hact]
  refine hend _ w' inv.good (headHeld_of fun j o ho => ?_)
  have hj : j < n ∧ l.toArray[j]? = some o := by
    rw [List.getElem?_take] at ho
    split at ho
    · rename_i h; exact ⟨h, by simpa using ho⟩
    · cases ho
  obtain ⟨o', d, ho'', hf⟩ := headOk_spec h1 hj.1
  obtain rfl : o' = o := Option.some.inj (ho''.symm.trans hj.2)
  have := inv.rel j hj.1 d (by simp [dstAt, ho'', hf.dst])
  rw [hf.dst]
  exact this
end
/-- the guard's slot decides: both ways are shown -/
theorem guard_by {P : Program} {ops : Array Oper} {Q : Exit → Act → World → Prop} {o : Oper} {a : Act} {w : World} {K : Act → World → Prop} {j : Nat} {want b : Bool} {t : Tmp}
    (hg : o.guard = some (j, want)) (ht : dstAt ops j = some t) (h : a.tmps[t]?.getD undef = .bool b) (h1 : b = want → o.wp P a w K Q) (h2 : b ≠ want → K (a.put o.dst undef) w) :
    if Region.wanted o (yielded ops a.tmps) = true then o.wp P a w K Q else K (a.put o.dst undef) w := by
  rw [wanted_slot hg ht h]
  by_cases hb : b = want
  · rw [if_pos (by simp [hb])]; exact h1 hb
  · rw [if_neg (by simpa using hb)]; exact h2 hb
end Go.Proofs.YtegobakoflbnfaaGreatDoor.QA

-- from A7
namespace Go.Proofs.YtegobakoflbnfaaGreatDoor.QA
open Go.RowKit WN LM

def plusX (n d c : Nat) : Nat := n * (c / Nat.gcd d c)
def plusY (m d c : Nat) : Nat := m * (d / Nat.gcd d c)
/-- a sum's numerator over the common denominator: its sign, its size -/
def plusS (s : Bool) (n d : Nat) (t : Bool) (m c : Nat) : Bool :=
  addS (s && decide (plusX n d c ≠ 0)) (plusX n d c) (t && decide (plusY m d c ≠ 0)) (plusY m d c)
def plusN (s : Bool) (n d : Nat) (t : Bool) (m c : Nat) : Nat :=
  addN (s && decide (plusX n d c ≠ 0)) (plusX n d c) (t && decide (plusY m d c ≠ 0)) (plusY m d c)
theorem addN_len (s : Bool) (X : Nat) (t : Bool) (Y : Nat) : Len (addN s X t Y) ≤ max (Len X) (Len Y) + 1 := by
  unfold addN
  have h1 := len_add X Y
  have h2 := len_mono (Nat.sub_le X Y)
  have h3 := len_mono (Nat.sub_le Y X)
  split
  · omega
  · split <;> omega

end Go.Proofs.YtegobakoflbnfaaGreatDoor.QA

namespace Go.Proofs.YtegobakoflbnfaaGreatDoor.QA
open Go.RowKit WN LM

/-- the sum of two numbers: its sign, its terms -/
def sumS (s : Bool) (n d : Nat) (t : Bool) (m c : Nat) : Bool := plusS s n d t m c && decide (plusN s n d t m c ≠ 0)
def sumN (s : Bool) (n d : Nat) (t : Bool) (m c : Nat) : Nat := plusN s n d t m c / Nat.gcd (plusN s n d t m c) (Nat.gcd d c)
def sumD (s : Bool) (n d : Nat) (t : Bool) (m c : Nat) : Nat :=
  if plusN s n d t m c = 0 then 1 else Nat.gcd d c / Nat.gcd (plusN s n d t m c) (Nat.gcd d c) * (d / Nat.gcd d c) * (c / Nat.gcd d c)

end Go.Proofs.YtegobakoflbnfaaGreatDoor.QA

namespace Go.Proofs.YtegobakoflbnfaaGreatDoor.QA
open Go.RowKit WN LM

/-- a power, or a number that has too many digits where the power has, too -/
def PowNum (n k N : Nat) : Prop := (N = n ^ k ∨ (300 < Dig N ∧ 300 < Dig (n ^ k))) ∧ Len N ≤ 34 + Len n
/-- a power of a number, or one whose terms have too many digits where the power's have, too -/
def RetP (w : World) (s : Bool) (n d k : Nat) (e : Ending) (w' : World) : Prop :=
  ∃ v N D, e = .returned v ∧ Frac w' v (s && decide (k % 2 = 1)) N D ∧ Below w.heap.size w w' ∧ PowNum n k N ∧ PowNum d k D
def IsPow (n k : Nat) : Rel := ⟨fun v w => ∃ N, Num w v N ∧ PowNum n k N, fun _ _ _ hb ⟨N, h1, h2⟩ => ⟨N, h1.go hb, h2⟩⟩
def IsFracPow (s : Bool) (n d k : Nat) : Rel := ⟨fun v w => ∃ N D, Frac w v s N D ∧ PowNum n k N ∧ PowNum d k D, fun _ _ _ hb ⟨N, D, h1, h2⟩ => ⟨N, D, h1.below hb (Nat.le_refl _), h2⟩⟩
def wantInt (b : Bool) (k : Nat) : Value := if b then .int .i64 (k : Nat) else undef
def wantBool (b : Bool) (c : Bool) : Value := if b then .bool c else undef

end Go.Proofs.YtegobakoflbnfaaGreatDoor.QA

namespace Go.Proofs.YtegobakoflbnfaaGreatDoor.QA
open Go.RowKit WN LM

end Go.Proofs.YtegobakoflbnfaaGreatDoor.QA

-- from A8
/- Decimal digits, read and written; the words of a prefix of a text. Plain arithmetic. -/
namespace Go.Proofs.YtegobakoflbnfaaGreatDoor.QA
open WN

theorem snoc_ind {α : Type} {P : List α → Prop} (h0 : P []) (h1 : ∀ l c, P l → P (l ++ [c])) : ∀ l, P l := by
  have key : ∀ (n : Nat) (l : List α), l.length = n → P l := by
    intro n
    induction n with
    | zero => intro l hl; rw [List.length_eq_zero_iff.1 hl]; exact h0
    | succ n ih =>
      intro l hl
      have hne : l ≠ [] := by intro h; rw [h] at hl; simp at hl
      rw [← List.dropLast_concat_getLast hne]
      exact h1 _ _ (ih _ (by rw [List.length_dropLast, hl]; rfl))
  exact fun l => key _ l rfl
def isD (c : UInt8) : Bool := decide (48 ≤ c.toNat) && decide (c.toNat ≤ 57)
def dval (l : List UInt8) : Nat := l.foldl (fun a c => 10 * a + (c.toNat - 48)) 0
theorem dval_nil : dval [] = 0 := rfl
theorem dval_snoc (l : List UInt8) (c : UInt8) : dval (l ++ [c]) = 10 * dval l + (c.toNat - 48) := by simp [dval, List.foldl_append]
theorem dval_lt {l : List UInt8} (h : l.all isD = true) : dval l < 10 ^ l.length := by
  induction l using snoc_ind with
  | h0 => simp [dval]
  | h1 l c ih =>
    rw [List.all_append, Bool.and_eq_true] at h
    have h1 := ih h.1
    have h2 : isD c = true := by simpa using h.2
    simp only [isD, Bool.and_eq_true, decide_eq_true_eq] at h2
    rw [dval_snoc, List.length_append, List.length_singleton, Nat.pow_succ]
    omega

/-- the words of a number of which r digits more will come, P being that of those that came -/
def wdAt (P r a : Nat) : Nat := P / 10 ^ (max (9 * a) r - r) % 10 ^ (9 * a + 9 - max (9 * a) r)
def wd (P r W : Nat) : List Nat := (List.range W).map (wdAt P r)
theorem wd_length (P r W : Nat) : (wd P r W).length = W := by simp [wd]
theorem wd_get (P r W i : Nat) (h : i < W) : (wd P r W)[i]'(by rw [wd_length]; exact h) = wdAt P r i := by simp [wd]
theorem wd_zero (r W : Nat) : wd 0 r W = List.replicate W 0 := by
  apply List.ext_getElem
  · simp [wd]
  · intro i h1 h2
    rw [wd_length] at h1
    rw [wd_get _ _ _ _ h1]
    simp [wdAt]
theorem wdAt_cur {P r b : Nat} (h1 : 9 * b + 1 ≤ r) : wdAt P r b = P % 10 ^ (9 * b + 9 - r) := by
  unfold wdAt; rw [show max (9 * b) r = r from by omega, Nat.sub_self, Nat.pow_zero, Nat.div_one]
theorem wdAt_cur_lt {P r b : Nat} (h1 : 9 * b + 1 ≤ r) (h2 : r ≤ 9 * b + 9) : wdAt P r b < 100000000 := by
  rw [wdAt_cur h1]
  refine Nat.lt_of_lt_of_le (Nat.mod_lt _ (Nat.pow_pos (by omega))) ?_
  exact Nat.pow_le_pow_right (n := 10) (by omega) (show 9 * b + 9 - r ≤ 8 by omega)
theorem wd_step {P r W b d : Nat} (h1 : 9 * b + 1 ≤ r) (h2 : r ≤ 9 * b + 9) (hd : d ≤ 9) (hb : b < W) :
    wd (10 * P + d) (r - 1) W = (wd P r W).set b (wdAt P r b * 10 + d) := by
  apply List.ext_getElem
  · simp [wd]
  · intro i hi hi2
    rw [wd_length] at hi
    rw [wd_get _ _ _ _ hi, List.getElem_set]
    split
    · rename_i e
      subst e
      rw [wdAt_cur h1]
      have : wdAt (10 * P + d) (r - 1) b = (10 * P + d) % 10 ^ (9 * b + 9 - (r - 1)) := by
        unfold wdAt
        rw [show max (9 * b) (r - 1) = r - 1 from by omega, Nat.sub_self, Nat.pow_zero, Nat.div_one]
      rw [this, show 9 * b + 9 - (r - 1) = (9 * b + 9 - r) + 1 from by omega, Nat.pow_succ, Nat.mul_comm (10 ^ _) 10, Nat.mod_mul]
      rw [show (10 * P + d) % 10 = d from by omega, show (10 * P + d) / 10 = P from by omega]
      omega
    · rename_i e
      rw [wd_get _ _ _ _ hi]
      unfold wdAt
      rcases Nat.lt_or_ge b i with h | h
      · rw [show max (9 * i) (r - 1) = 9 * i from by omega, show max (9 * i) r = 9 * i from by omega]
        rw [show 9 * i - (r - 1) = (9 * i - r) + 1 from by omega, Nat.pow_succ, Nat.mul_comm (10 ^ _) 10, ← Nat.div_div_eq_div_mul, show (10 * P + d) / 10 = P from by omega]
      · rw [show 9 * i + 9 - max (9 * i) (r - 1) = 0 from by omega, show 9 * i + 9 - max (9 * i) r = 0 from by omega]
        simp [Nat.mod_one]
theorem wd_digs (P W : Nat) : Digs 1000000000 (wd P 0 W) := fun x hx => by
  obtain ⟨i, hi, rfl⟩ := List.getElem_of_mem hx
  rw [wd_length] at hi
  rw [wd_get _ _ _ _ hi]
  unfold wdAt
  rw [Nat.max_zero, Nat.sub_zero, Nat.add_sub_cancel_left]
  exact Nat.mod_lt _ (by omega)
theorem wd_val (P W : Nat) : val 1000000000 (wd P 0 W) = P % 10 ^ (9 * W) := by
  induction W with
  | zero => simp [wd, Nat.mod_one]
  | succ W ih =>
    have e : wd P 0 (W + 1) = wd P 0 W ++ [wdAt P 0 W] := by simp [wd, List.range_succ]
    rw [e, val_snoc, ih, wd_length, show (1000000000 : Nat) = 10 ^ 9 from rfl, ← Nat.pow_mul, show 9 * (W + 1) = 9 * W + 9 from by omega, Nat.pow_add, Nat.mod_mul]
    unfold wdAt
    rw [Nat.max_zero, Nat.sub_zero, Nat.add_sub_cancel_left]
theorem wd_canon {P W : Nat} (h1 : P < 10 ^ (9 * W)) (h2 : 10 ^ (9 * (W - 1)) ≤ P) (hW : 0 < W) : Canon 1000000000 (wd P 0 W) ∧ val 1000000000 (wd P 0 W) = P := by
  refine ⟨⟨wd_digs P W, ?_⟩, by rw [wd_val, Nat.mod_eq_of_lt h1]⟩
  obtain ⟨V, rfl⟩ : ∃ V, W = V + 1 := ⟨W - 1, by omega⟩
  have e : wd P 0 (V + 1) = wd P 0 V ++ [wdAt P 0 V] := by simp [wd, List.range_succ]
  rw [e]
  refine top_snoc ?_
  unfold wdAt
  rw [Nat.max_zero, Nat.sub_zero, Nat.add_sub_cancel_left]
  rw [Nat.add_sub_cancel] at h2
  have h3 : P / 10 ^ (9 * V) < 10 ^ 9 := by
    rw [Nat.div_lt_iff_lt_mul (Nat.pow_pos (by omega)), ← Nat.pow_add]
    rwa [show 9 + 9 * V = 9 * (V + 1) from by omega]
  rw [Nat.mod_eq_of_lt h3]
  have := Nat.div_pos h2 (Nat.pow_pos (by omega))
  omega

/-- the decimal digits of a number, none of 0 -/
def dec (n : Nat) : List UInt8 := if h : n = 0 then [] else dec (n / 10) ++ [UInt8.ofNat (48 + n % 10)]
termination_by n
decreasing_by omega
theorem dec_zero : dec 0 = [] := by rw [dec]; simp
theorem dec_pos {n : Nat} (h : n ≠ 0) : dec n = dec (n / 10) ++ [UInt8.ofNat (48 + n % 10)] := by rw [dec]; simp [h]
theorem dec_step {n d : Nat} (hd : d ≤ 9) (h : 10 * n + d ≠ 0) : dec (10 * n + d) = dec n ++ [UInt8.ofNat (48 + d)] := by
  rw [dec_pos h, show (10 * n + d) / 10 = n from by omega, show (10 * n + d) % 10 = d from by omega]
/-- how a number is written -/
def decT (n : Nat) : List UInt8 := if n = 0 then [48] else dec n

theorem digit_nat {d : Nat} (h : d ≤ 9) : (UInt8.ofNat (48 + d)).toNat = 48 + d := by
  rw [UInt8.toNat_ofNat']; exact Nat.mod_eq_of_lt (by omega)
theorem dec_all : ∀ (N n : Nat), n ≤ N → (dec n).all isD = true
  | 0, n, h => by obtain rfl : n = 0 := by omega
                  rw [dec_zero]; rfl
  | N + 1, n, h => by
    by_cases h0 : n = 0
    · subst h0; rw [dec_zero]; rfl
    · rw [dec_pos h0, List.all_append, dec_all N (n / 10) (by omega)]
      have := digit_nat (d := n % 10) (by omega)
      simp [isD, this]; omega
theorem dec_val : ∀ (N n : Nat), n ≤ N → dval (dec n) = n
  | 0, n, h => by obtain rfl : n = 0 := by omega
                  rw [dec_zero]; rfl
  | N + 1, n, h => by
    by_cases h0 : n = 0
    · subst h0; rw [dec_zero]; rfl
    · rw [dec_pos h0, dval_snoc, dec_val N (n / 10) (by omega), digit_nat (by omega)]
      omega
theorem dec_len : ∀ (N n : Nat), n ≤ N → n ≠ 0 → 1 ≤ (dec n).length ∧ n < 10 ^ (dec n).length ∧ 10 ^ ((dec n).length - 1) ≤ n
  | 0, n, h, h0 => by omega
  | N + 1, n, h, h0 => by
    rw [dec_pos h0, List.length_append, List.length_singleton]
    by_cases h1 : n / 10 = 0
    · rw [h1, dec_zero]; simp; omega
    · obtain ⟨g1, g2, g3⟩ := dec_len N (n / 10) (by omega) h1
      refine ⟨by omega, ?_, ?_⟩
      · rw [Nat.pow_succ]; omega
      · rw [Nat.add_sub_cancel]
        obtain ⟨k, hk⟩ : ∃ k, (dec (n / 10)).length = k + 1 := ⟨_, (by omega : _ = ((dec (n / 10)).length - 1) + 1)⟩
        rw [hk, Nat.add_sub_cancel] at g3
        rw [hk, Nat.pow_succ]; omega
theorem decT_len (n : Nat) : (decT n).length = Dig n := by
  unfold decT
  split
  · rename_i h; subst h; rw [dig_zero]; rfl
  · rename_i h
    obtain ⟨g1, g2, g3⟩ := dec_len n n (Nat.le_refl _) h
    exact (dig_eq g1 g2 g3).symm
theorem decT_val (n : Nat) : dval (decT n) = n := by
  unfold decT
  split
  · rename_i h; subst h; rfl
  · exact dec_val n n (Nat.le_refl _)
theorem decT_inj {n m : Nat} (h : decT n = decT m) : n = m := by rw [← decT_val n, h, decT_val]
theorem decT_all (n : Nat) : (decT n).all isD = true := by
  unfold decT
  split
  · rfl
  · exact dec_all n n (Nat.le_refl _)

/-- a text that is a number's: digits, no nought ahead, at most 300 -/
def goodD (l : List UInt8) : Bool := decide (1 ≤ l.length) && decide (l.length ≤ 300) && (decide (l.head? ≠ some 48) || decide (l.length = 1)) && l.all isD
theorem dec_head : ∀ (N n : Nat), n ≤ N → n ≠ 0 → (dec n).head? ≠ some 48
  | 0, n, h, h0 => by omega
  | N + 1, n, h, h0 => by
    rw [dec_pos h0]
    by_cases h1 : n / 10 = 0
    · rw [h1, dec_zero, List.nil_append, List.head?_cons]
      intro h2
      have h3 : UInt8.ofNat (48 + n % 10) = 48 := Option.some.inj h2
      have h4 := congrArg UInt8.toNat h3
      rw [digit_nat (by omega)] at h4
      have : (48 : UInt8).toNat = 48 := rfl
      omega
    · have := dec_len (n / 10) (n / 10) (Nat.le_refl _) h1
      have hh := dec_head N (n / 10) (by omega) h1
      cases hx : dec (n / 10) with
      | nil => rw [hx] at this; simp at this
      | cons x l => rw [hx] at hh; simpa using hh
theorem goodD_decT {n : Nat} (h : Dig n ≤ 300) : goodD (decT n) = true := by
  unfold goodD
  rw [decT_len, decT_all]
  have h1 := dig_pos n
  by_cases h0 : n = 0
  · subst h0; rw [dig_zero]; simp
  · have h2 : (decT n).head? ≠ some 48 := by unfold decT; rw [if_neg h0]; exact dec_head n n (Nat.le_refl _) h0
    simp [h, h1, h2]
theorem dec_of_digits : ∀ (l : List UInt8), l.all isD = true → l.head? ≠ some 48 → dec (dval l) = l ∧ (l ≠ [] → dval l ≠ 0) := by
  intro l
  induction l using snoc_ind with
  | h0 => intro _ _; exact ⟨by rw [dval_nil, dec_zero], fun h => absurd rfl h⟩
  | h1 l c ih =>
    intro h hh
    rw [List.all_append, Bool.and_eq_true] at h
    have h2 : isD c = true := by simpa using h.2
    simp only [isD, Bool.and_eq_true, decide_eq_true_eq] at h2
    have hc : UInt8.ofNat (48 + (c.toNat - 48)) = c := by
      rw [show 48 + (c.toNat - 48) = c.toNat from by omega]; exact UInt8.ofNat_toNat
    rw [dval_snoc]
    cases l with
    | nil =>
      have hc0 : c.toNat ≠ 48 := by
        intro h0; apply hh
        have : c = 48 := UInt8.toNat_inj.1 h0
        rw [this]; rfl
      have h0 : 10 * dval ([] : List UInt8) + (c.toNat - 48) ≠ 0 := by rw [dval_nil]; omega
      rw [dec_step (by omega) h0, hc, dval_nil, dec_zero]
      exact ⟨rfl, fun _ => by omega⟩
    | cons x l =>
      have hh' : (x :: l).head? ≠ some 48 := by simpa using hh
      obtain ⟨g1, g2⟩ := ih h.1 hh'
      have g3 := g2 (by simp)
      rw [dec_step (by omega) (by omega), hc, g1]
      exact ⟨rfl, fun _ => by omega⟩
theorem goodD_eq {l : List UInt8} (h : goodD l = true) : l = decT (dval l) ∧ Dig (dval l) ≤ 300 ∧ Dig (dval l) = l.length := by
  simp only [goodD, Bool.and_eq_true, Bool.or_eq_true, decide_eq_true_eq] at h
  obtain ⟨⟨⟨h1, h2⟩, h3⟩, h4⟩ := h
  have key : l = decT (dval l) := by
    by_cases hh : l.head? = some 48
    · have hl : l.length = 1 := by rcases h3 with h3 | h3; exact absurd hh h3; exact h3
      match l, hl with
      | [c], _ =>
        have : c = 48 := by simpa using hh
        subst this; rfl
    · obtain ⟨g1, g2⟩ := dec_of_digits l h4 hh
      have g3 := g2 (by intro h0; rw [h0] at h1; simp at h1)
      unfold decT
      rw [if_neg g3, g1]
  have e : Dig (dval l) = l.length := by rw [← decT_len, ← key]
  exact ⟨key, by omega, e⟩
end Go.Proofs.YtegobakoflbnfaaGreatDoor.QA

namespace Go.Proofs.YtegobakoflbnfaaGreatDoor.QA
open Go.RowKit WN LM

/-- what fromDigits returns -/
def FromD (w : World) (l : List UInt8) (e : Ending) (w' : World) : Prop :=
  ∃ v, e = .returned (.tuple #[v, .bool (goodD l)]) ∧ Below w.heap.size w w' ∧ (goodD l = true → Num w' v (dval l)) ∧ (goodD l = false → v = .slice none 0 0)

def FromI (l : List UInt8) (w : World) (i : Nat) (W : World) : Prop :=
  Row W w.heap.size .u32 133 (wd (dval (l.take i)) (l.length - i) ((l.length + 8) / 9)) ∧ (l.take i).all isD = true ∧ Below w.heap.size w W
theorem dec_lower {n : Nat} (h : n ≠ 0) : 10 ^ (Dig n - 1) ≤ n := by
  have := dec_len n n (Nat.le_refl _) h
  have e : Dig n = (dec n).length := by rw [← decT_len]; unfold decT; rw [if_neg h]
  rw [e]; exact this.2.2
theorem FromI.last {l : List UInt8} {w W : World} {g : Nat} (hg : goodD l = true) (hh : l.head? ≠ some 48) (h : FromI l w l.length W) (he : g = (l.length + 8) / 9) :
    Num W (.slice (some ⟨w.heap.size, 0, none⟩) g g) (dval l) := by
  obtain ⟨hr, ha, hb⟩ := h
  rw [List.take_length, Nat.sub_self, ← he] at hr
  obtain ⟨g1, g2, g3⟩ := goodD_eq hg
  have h0 : dval l ≠ 0 := by
    intro h0
    apply hh
    rw [g1, h0]; rfl
  have h1 := lt_dig (dval l)
  have h2 := dec_lower h0
  have h3 := dig_pos (dval l)
  have hc := wd_canon (P := dval l) (W := g) (Nat.lt_of_lt_of_le h1 (Nat.pow_le_pow_right (by omega) (by omega))) (Nat.le_trans (Nat.pow_le_pow_right (by omega) (by omega)) h2) (by omega)
  refine ⟨_, ?_, hc.1, hc.2⟩
  have := Rep.rowAll hr g (by rw [wd_length]; exact Nat.le_refl _)
  rwa [wd_length] at this
theorem FromI.step {l : List UInt8} {w W : World} {i : Nat} (h : FromI l w i W) (hi : i < l.length) (c : UInt8) (hc : l[i]? = some c) (hd : isD c = true) (hl : l.length ≤ 300) :
    FromI l w (i + 1) (W.setCell ⟨w.heap.size, (l.length - 1 - i) / 9, none⟩ (.int .u32 ((wdAt (dval (l.take i)) (l.length - i) ((l.length - 1 - i) / 9) * 10 + (c.toNat - 48) : Nat)))) := by
  obtain ⟨hr, ha, hb⟩ := h
  have e : l.take (i + 1) = l.take i ++ [c] := by
    rw [List.take_add_one, hc]; rfl
  have hd' := hd
  simp only [isD, Bool.and_eq_true, decide_eq_true_eq] at hd'
  refine ⟨?_, ?_, hb.setCell (p := ⟨w.heap.size, _, none⟩) (Nat.le_refl _) _⟩
  · rw [e, dval_snoc, show l.length - (i + 1) = l.length - i - 1 from by omega, wd_step (b := (l.length - 1 - i) / 9) (by omega) (by omega) (by omega) (by omega)]
    exact hr.set _ _
  · rw [e, List.all_append, ha]; simp [hd]
theorem FromD.no {w w' : World} {l : List UInt8} (h : goodD l = false) (hb : Below w.heap.size w w') : FromD w l (.returned (.tuple #[.slice none 0 0, .bool false])) w' :=
  ⟨_, by rw [h], hb, fun h' => by (rw [h] at h'; cases h'), fun _ => rfl⟩


end Go.Proofs.YtegobakoflbnfaaGreatDoor.QA

namespace Go.Proofs.YtegobakoflbnfaaGreatDoor.QA
open Go.RowKit Go.Shelf WN LM
attribute [local go_sem] Oper.semAt_some

/-- bytes in cells -/
def bv (l : List UInt8) : List Value := l.map fun c => .int .u8 (c.toNat : Int)
theorem bv_append (l m : List UInt8) : bv (l ++ m) = bv l ++ bv m := by simp [bv]
theorem bv_length (l : List UInt8) : (bv l).length = l.length := by simp [bv]
/-- v is a row of the call's own, that holds the bytes l -/
def Bytes (w : World) (base : Nat) (v : Value) (l : List UInt8) : Prop := w.ownsRow base 5 1 v l.length (bv l)
theorem Bytes.nil (w : World) (base : Nat) : Bytes w base (.slice none 0 0) [] := World.ownsRow_nil _ _ _ _
theorem Bytes.turn {B base : Nat} {W W' : World} {v : Value} {l : List UInt8} (h : Bytes W base v l) (t : Turn B W W') : Bytes W' base v l := by
  refine ⟨h.1, h.2.imp id ?_⟩
  rintro ⟨g, cap, cur, h1, h2, h3, h4⟩
  exact ⟨g, cap, cur, h1, h2, t.cells _ _ _ _ h3, h4⟩
/-- a variable's box is none of the row's blocks, its type being another -/
theorem Bytes.far {W : World} {base : Nat} {v : Value} {l : List UInt8} (h : Bytes W base v l) {B t : Nat} {u : Value} (hb : Box W B t u) (ht : t ≠ 5) : ∀ g, v.ownBlock = some g → B ≠ g := by
  rintro g hg rfl
  rcases h.2 with ⟨rfl, _⟩ | ⟨g', cap, cur, rfl, _, h3, _⟩
  · cases hg
  · simp [Value.ownBlock] at hg
    subst hg
    rw [hb] at h3
    cases h3
    exact ht rfl
theorem Bytes.set {W : World} {base : Nat} {v : Value} {l : List UInt8} (h : Bytes W base v l) {B t : Nat} {u x : Value} (hb : Box W B t u) (ht : t ≠ 5) : Bytes (W.setCell ⟨B, 0, none⟩ x) base v l := by
  refine ⟨h.1, h.2.imp id ?_⟩
  rintro ⟨g, cap, cur, h1, h2, h3, h4⟩
  refine ⟨g, cap, cur, h1, h2, ?_, h4⟩
  rw [heap_setCell_other _ _ _ _ ?_]
  · exact h3
  · intro e
    exact h.far hb ht g (by subst h1; rfl) e.symm
theorem Bytes.block_ge {W : World} {base : Nat} {v : Value} {l : List UInt8} (h : Bytes W base v l) : ∀ g, v.ownBlock = some g → base ≤ g ∧ g < W.heap.size := by
  intro g hg
  rcases h.2 with ⟨rfl, _⟩ | ⟨g', cap, cur, rfl, h2, h3, _⟩
  · cases hg
  · simp [Value.ownBlock] at hg
    subst hg
    exact ⟨h2, lt_of_block h3⟩
theorem Bytes.shape {W : World} {base : Nat} {v : Value} {l : List UInt8} (h : Bytes W base v l) : ∃ o c, v = .slice o l.length c := by
  rcases h.2 with ⟨rfl, h0⟩ | ⟨g', cap, cur, rfl, _⟩
  · exact ⟨none, 0, by rw [h0]⟩
  · exact ⟨_, _, rfl⟩
theorem Bytes.cells {W : World} {base : Nat} {v : Value} {l : List UInt8} (h : Bytes W base v l) : ∀ (j : Nat) (o : Obj), v.ownBlock = some j → W.heap[j]? = some o → o.isCells = true := by
  intro j o hj ho
  rcases h.2 with ⟨rfl, _⟩ | ⟨g', cap, cur, rfl, _, h3, _⟩
  · cases hj
  · simp [Value.ownBlock] at hj
    subst hj
    rw [h3] at ho
    cases ho; rfl
/-- appendTo, k words over -/
def AppI (w : World) (base : Nat) (va : Value) (t : List UInt8) (N : Nat) (W : World) : Prop :=
  ∃ v, Box W w.heap.size 92 v ∧ Box W (w.heap.size + 1) 4 (.bool (decide (N = 0))) ∧ Box W (w.heap.size + 2) 53 va ∧ Bytes W base v (t ++ dec N) ∧ Below base w W

theorem dec_length_le {n k : Nat} (hk : 1 ≤ k) (h : n < 10 ^ k) : (dec n).length ≤ k := by
  have := dig_le hk h
  rw [← decT_len] at this
  unfold decT at this
  split at this
  · rename_i h0; rw [h0, dec_zero]; simp
  · exact this
theorem prefix_lt {V y k j : Nat} (hV : V < 1000000000 ^ k) (hy : y < 1000000000) (hj : j ≤ 9) : V * 10 ^ (9 - j) + y / 10 ^ j < 10 ^ (9 * k + 9) := by
  have h1 : V * 10 ^ (9 - j) ≤ V * 10 ^ 9 := Nat.mul_le_mul_left _ (Nat.pow_le_pow_right (by omega) (by omega))
  have h2 : y / 10 ^ j ≤ y := Nat.div_le_self _ _
  have h3 : (V + 1) * 10 ^ 9 ≤ 1000000000 ^ k * 10 ^ 9 := Nat.mul_le_mul_right _ hV
  rw [show (1000000000 : Nat) = 10 ^ 9 from rfl, ← Nat.pow_mul, ← Nat.pow_add, Nat.add_mul, Nat.one_mul] at h3
  have h4 : (10 : Nat) ^ 9 = 1000000000 := rfl
  omega
theorem prefix_step {V y m : Nat} (hm : m < 9) : V * 10 ^ (9 - m) + y / 10 ^ m = 10 * (V * 10 ^ (9 - (m + 1)) + y / 10 ^ (m + 1)) + y / 10 ^ m % 10 := by
  obtain ⟨q, hq⟩ : ∃ q, 9 - m = q + 1 := ⟨9 - m - 1, by omega⟩
  rw [hq, show 9 - (m + 1) = q from by omega, Nat.pow_succ, Nat.pow_succ, ← Nat.div_div_eq_div_mul]
  have := Nat.div_add_mod (y / 10 ^ m) 10
  have e : V * (10 ^ q * 10) = 10 * (V * 10 ^ q) := by rw [← Nat.mul_assoc, Nat.mul_comm]
  omega
/-- what an appended byte leaves: the variables' boxes, the row longer -/
theorem append_after {w W W1 : World} {base N dg : Nat} {va v v' : Value} {t : List UInt8} {lead : Value} (hB1 : Box W w.heap.size 92 v) (hB2 : Box W (w.heap.size + 1) 4 lead) (hB3 : Box W (w.heap.size + 2) 53 va) (hb : Below base w W) (h4 : Bytes W base v (t ++ dec N))
    (hown : W1.ownsRow base 5 1 v' ((t ++ dec N).length + 1) (bv (t ++ dec N) ++ bv [UInt8.ofNat (48 + dg)])) (hgr : ((W.setCell ⟨w.heap.size + 1, 0, none⟩ (.bool false)).alloc (.cells #[.int .u8 (48 + (dg : Int))] 5)).grownBy W1 v.ownBlock)
    (hdg : dg ≤ 9) (hN : 10 * N + dg ≠ 0) (hbw : base ≤ w.heap.size) :
    ∃ o k c, v' = .slice o k c ∧ Box W1 w.heap.size 92 v ∧ AppI w base va t (10 * N + dg) (W1.setCell ⟨w.heap.size, 0, none⟩ v') ∧ KeepsOthers W (W1.setCell ⟨w.heap.size, 0, none⟩ v') := by
  have hd := dec_step hdg hN
  have e1 : t ++ dec (10 * N + dg) = (t ++ dec N) ++ [UInt8.ofNat (48 + dg)] := by rw [hd, List.append_assoc]
  have hbytes : Bytes W1 base v' (t ++ dec (10 * N + dg)) := by
    unfold Bytes
    rw [e1, bv_append, List.length_append]
    exact hown
  obtain ⟨o, c, rfl⟩ := hbytes.shape
  have hne : ∀ {B tt : Nat} {u : Value}, Box W B tt u → tt ≠ 5 → some B ≠ v.ownBlock := fun hB ht e => h4.far hB ht _ e.symm rfl
  have hsz : W.heap.size < ((W.setCell ⟨w.heap.size + 1, 0, none⟩ (.bool false)).alloc (.cells #[.int .u8 (48 + (dg : Int))] 5)).heap.size := by simp
  have keep : ∀ {B tt : Nat} {u : Value}, Box W B tt u → tt ≠ 5 → B ≠ w.heap.size + 1 → Box W1 B tt u := fun hB ht hn => by
    unfold Box
    rw [hgr.block _ (Nat.lt_trans hB.lt hsz) (hne hB ht)]
    exact (hB.other ⟨w.heap.size + 1, 0, none⟩ (.bool false) hn).alloc _
  have k1 := keep hB1 (by decide) (by omega)
  have k3 := keep hB3 (by decide) (by omega)
  have k2 : Box W1 (w.heap.size + 1) 4 (.bool false) := by
    unfold Box
    rw [hgr.block _ (Nat.lt_trans hB2.lt hsz) (hne hB2 (by decide))]
    exact (hB2.set (.bool false)).alloc _
  have hbel : Below base w W1 := ((hb.setCell (p := ⟨w.heap.size + 1, 0, none⟩) (by show base ≤ w.heap.size + 1; omega) _).alloc (by simp; have := hb.size; omega) _).grown hgr (by have := hb.size; simp; omega) (fun g hg => (h4.block_ge g hg).1)
  refine ⟨o, _, c, rfl, k1, ⟨_, k1.set _, ?_, k3.other _ _ (by simp), ?_, hbel.setCell (p := ⟨w.heap.size, 0, none⟩) hbw _⟩, ?_⟩
  · rw [show decide (10 * N + dg = 0) = false from by simpa using hN]; exact k2.other _ _ (by simp)
  · exact hbytes.set k1 (by decide)
  · refine KeepsOthers.trans (KeepsOthers.trans (KeepsOthers.trans (KeepsOthers.setCell _ _ _) (KeepsOthers.alloc _ _)) (KeepsOthers.of_grownBy hgr ?_)) (KeepsOthers.setCell _ _ _)
    have hb' : Bytes ((W.setCell ⟨w.heap.size + 1, 0, none⟩ (.bool false)).alloc (.cells #[.int .u8 (48 + (dg : Int))] 5)) base v (t ++ dec N) := World.ownsRow.alloc (h4.set hB2 (by decide)) _
    exact hb'.cells
theorem one_byte (W : World) (dg : Nat) (h : dg ≤ 9) : ∀ j u, (bv [UInt8.ofNat (48 + dg)])[j]? = some u → (W.alloc (.cells #[.int .u8 (48 + (dg : Int))] 5)).cell? ((⟨W.heap.size, 0, none⟩ : Addr).add j) = some u := by
  intro j u hu
  have e : bv [UInt8.ofNat (48 + dg)] = [.int .u8 (48 + (dg : Int))] := by
    show [Value.int .u8 ((UInt8.ofNat (48 + dg)).toNat : Int)] = _
    rw [digit_nat h, Int.natCast_add]; rfl
  rw [e] at hu
  match j, hu with
  | 0, hu =>
    simp only [List.getElem?_cons_zero, Option.some.injEq] at hu
    subst hu
    exact cell_of_one (heap_alloc_new W _)
theorem Tryz.info5' : (Tryz.prog.info? 5).map (fun i => (i.zero, i.size, i.bytes)) = some (some (.int .u8 0), 1, 1) := Tryz.info5

end Go.Proofs.YtegobakoflbnfaaGreatDoor.QA

namespace Go.Proofs.YtegobakoflbnfaaGreatDoor.QA
open Go.RowKit Go.Shelf WN LM

/-- how a number is written -/
def ratText (s : Bool) (n d : Nat) : List UInt8 := (if s then [45] else []) ++ decT n ++ (if d = 1 then [] else 47 :: decT d)

theorem Bytes.shape3 {W : World} {base : Nat} {v : Value} {l : List UInt8} (h : Bytes W base v l) : ∃ o k c, v = .slice o k c := by
  obtain ⟨o, c, h⟩ := h.shape; exact ⟨o, _, c, h⟩
theorem Bytes.below {W W1 : World} {base : Nat} {v : Value} {l : List UInt8} (h : Bytes W base v l) (hb : Below W.heap.size W W1) : Bytes W1 base v l := by
  refine ⟨h.1, h.2.imp id ?_⟩
  rintro ⟨g, cap, cur, h1, h2, h3, h4⟩
  exact ⟨g, cap, cur, h1, h2, (hb.block g (lt_of_block h3)).trans h3, h4⟩
theorem Bytes.grown {W W1 : World} {base : Nat} {v : Value} {l : List UInt8} (h : Bytes W base v l) {B0 : Nat} {W0 : World} (hb : Below B0 W0 W) (hg : W.grownBy W1 v.ownBlock) (hB : B0 ≤ base) (hs : B0 ≤ W.heap.size) : Below B0 W0 W1 :=
  hb.grown hg hs (fun g hg => Nat.le_trans hB (h.block_ge g hg).1)
theorem dig_len (n : Nat) : Dig n ≤ 9 * Len n + 1 := by
  refine dig_le (by omega) (Nat.lt_of_lt_of_le (lt_len n) ?_)
  rw [show (1000000000 : Nat) = 10 ^ 9 from rfl, ← Nat.pow_mul]
  exact Nat.pow_le_pow_right (by omega) (by omega)
theorem decT_ne (n : Nat) : decT n ≠ [] := by
  intro h
  have := decT_len n
  rw [h] at this
  have := dig_pos n
  simp at *; omega
theorem Bytes.conv {W : World} {base : Nat} {v : Value} {l : List UInt8} (h : Bytes W base v l) (hl : l ≠ []) : (convert 30 9 v).run Tryz.prog W = .ok (.string ⟨l.toArray⟩) W := by
  rcases h.2 with ⟨rfl, h0⟩ | ⟨g, cap, cur, rfl, _⟩
  · exact absurd (List.length_eq_zero_iff.1 h0) hl
  · refine run_convert_bytes_back W 30 9 5 _ cap l Tryz.underlying30 Tryz.underlying5 Tryz.underlying9 fun j hj => ?_
    refine World.ownsRow.cells h (g := g) rfl j _ ?_
    simp [bv, hj]

/-- the append of one byte, its cell made last -/
theorem Bytes.snoc {W1 : World} {base : Nat} {v' : Value} {t : List UInt8} {c : UInt8} (h : W1.ownsRow base 5 1 v' (t.length + 1) (bv t ++ bv [c])) : Bytes W1 base v' (t ++ [c]) := by
  unfold Bytes; rw [bv_append, List.length_append]; exact h
theorem byte_cell (W : World) (c : UInt8) (x : Int) (hx : x = (c.toNat : Int)) : ∀ j u, (bv [c])[j]? = some u → (W.alloc (.cells #[.int .u8 x] 5)).cell? ((⟨W.heap.size, 0, none⟩ : Addr).add j) = some u := by
  intro j u hu
  match j, hu with
  | 0, hu =>
    simp [bv] at hu
    subst hu
    rw [← hx]
    exact cell_of_one (heap_alloc_new W _)
  | j + 1, hu => simp [bv] at hu

end Go.Proofs.YtegobakoflbnfaaGreatDoor.QA

-- from A9
namespace Go.Proofs.YtegobakoflbnfaaGreatDoor.QA
open Go.RowKit Go.Shelf WN LM

/-- the number that a text without a sign is, if it is one; neg: a sign was ahead -/
def readR (neg : Bool) (r : List UInt8) : Option (Bool × Nat × Nat) :=
  if goodD (r.takeWhile (· != 47)) && !(neg && decide (dval (r.takeWhile (· != 47)) = 0)) then
    match r.dropWhile (· != 47) with
    | [] => some (neg, dval (r.takeWhile (· != 47)), 1)
    | _ :: t => if goodD t && !decide (dval t = 0) && !decide (dval t = 1) && decide (Nat.gcd (dval (r.takeWhile (· != 47))) (dval t) = 1) then some (neg, dval (r.takeWhile (· != 47)), dval t) else none
  else none
def readQ (l : List UInt8) : Option (Bool × Nat × Nat) := if l.head? = some 45 then readR true l.tail else readR false l

/-- what read returns -/
def ReadOut (w : World) (o : Option (Bool × Nat × Nat)) (e : Ending) (w' : World) : Prop :=
  ∃ v, Below w.heap.size w w' ∧ match o with
    | none => v = .agg #[.bool false, .slice none 0 0, .slice none 0 0] ∧ e = .returned (.tuple #[v, .bool false])
    | some (s, n, d) => e = .returned (.tuple #[v, .bool true]) ∧ Frac w' v s n d
theorem ReadOut.ok {w w' : World} {s : Bool} {n d : Nat} {x : Value} (h : RetF w s n d (.returned x) w') : ReadOut w (some (s, n, d)) (.returned (.tuple #[x, .bool true])) w' := by
  obtain ⟨v, he, hf, hb⟩ := h
  cases he
  exact ⟨x, hb, rfl, hf⟩
theorem ReadOut.no {w w' : World} (h : Below w.heap.size w w') : ReadOut w none (.returned (.tuple #[.agg #[.bool false, .slice none 0 0, .slice none 0 0], .bool false])) w' := ⟨_, h, rfl, rfl⟩

theorem split_at {l : List UInt8} {i : Nat} (hi : i ≤ l.length) (h : ∀ c ∈ l.take i, c ≠ 47) (hx : i = l.length ∨ l[i]? = some 47) : l.takeWhile (· != 47) = l.take i ∧ l.dropWhile (· != 47) = l.drop i := by
  induction l generalizing i with
  | nil => simp
  | cons a l ih =>
    cases i with
    | zero =>
      rcases hx with hx | hx
      · simp at hx
      · simp only [List.getElem?_cons_zero, Option.some.injEq] at hx
        subst hx
        simp
    | succ i =>
      have ha : a ≠ 47 := h a (by simp)
      have := ih (i := i) (by simpa using hi) (fun c hc => h c (by simp [hc])) (by simpa using hx)
      simp [ha, this]

theorem take_step {l : List UInt8} {i : Nat} {c : UInt8} (h : ∀ c ∈ l.take i, c ≠ 47) (hc : l[i]? = some c) (hne : c ≠ 47) : ∀ c ∈ l.take (i + 1), c ≠ 47 := by
  intro x hx
  rw [List.take_add_one, hc] at hx
  rcases List.mem_append.1 hx with h1 | h1
  · exact h x h1
  · simp at h1; subst h1; exact hne

theorem toList_extract (s : ByteArray) (i j : Nat) : (s.extract i j).data.toList = (s.data.toList.take j).drop i := by
  simp [ByteArray.data_extract, List.drop_take]

end Go.Proofs.YtegobakoflbnfaaGreatDoor.QA

namespace Go.Proofs.YtegobakoflbnfaaGreatDoor.QA
open Go.RowKit Go.Shelf WN LM

theorem toList_nil {s : ByteArray} (h : s.size ≤ 0) : s.data.toList = [] := by
  have e : s.data.toList.length = s.size := by simp
  exact List.length_eq_zero_iff.1 (by omega)

end Go.Proofs.YtegobakoflbnfaaGreatDoor.QA

namespace Go.Proofs.YtegobakoflbnfaaGreatDoor.QA
open Go.RowKit Go.Shelf WN LM

abbrev Q3 := Bool × Nat × Nat
/-- v is a slice that holds the strings l -/
def Strs (w : World) (v : Value) (l : List ByteArray) : Prop :=
  ∃ oa cap, v = .slice oa l.length cap ∧ ∀ i, (hi : i < l.length) → ∃ b off, oa = some ⟨b, off, none⟩ ∧ w.cell? ⟨b, off + i, none⟩ = some (.string l[i])
theorem Strs.go {w w' : World} {v : Value} {l : List ByteArray} (h : Strs w v l) (hb : Below w.heap.size w w') : Strs w' v l := by
  obtain ⟨oa, cap, rfl, hc⟩ := h
  refine ⟨oa, cap, rfl, fun i hi => ?_⟩
  obtain ⟨b, off, rfl, h1⟩ := hc i hi
  exact ⟨b, off, rfl, (hb.cell (p := ⟨b, off + i, none⟩) (block_lt_of_cell h1)).trans h1⟩

def noInt : Value → Prop
  | .int _ _ => False
  | _ => True
/-- the first k numbers of a row of numbers -/
def Numsat (w : World) (cur : Array Value) (l : List Q3) (k : Nat) : Prop :=
  ∀ i, i < k → (hi : i < l.length) → ∃ vn vd, cur[i * 3]? = some (.bool l[i].1) ∧ cur[i * 3 + 1]? = some vn ∧ cur[i * 3 + 2]? = some vd ∧ Num w vn l[i].2.1 ∧ Num w vd l[i].2.2
theorem Num.off {W W' : World} {v : Value} {n g : Nat} {cur : Array Value} {t : TypeId} {z : Nat × Nat} (h : Num W v n) (hg : W.heap[g]? = some (.cells cur t z)) (hn : ∀ x ∈ cur, noInt x) (hoff : ∀ b, b ≠ g → W'.heap[b]? = W.heap[b]?) : Num W' v n := by
  obtain ⟨l, ⟨oa, ca, rfl, hc, hcell⟩, hl⟩ := h
  refine ⟨l, ⟨oa, ca, rfl, hc, fun i hi => ?_⟩, hl⟩
  obtain ⟨b, off, rfl, e⟩ := hcell i hi
  refine ⟨b, off, rfl, ?_⟩
  have hne : b ≠ g := by
    rintro rfl
    unfold World.cell? at e
    rw [hg] at e
    have e' : cur[off + i]? = some (.int .u32 (l[i] : Nat)) := by simpa using e
    exact hn _ (Array.mem_of_getElem? e')
  unfold World.cell?
  rw [hoff b hne]
  exact e
theorem three_off (W : World) (g a b c : Nat) (x y z : Value) : ∀ k, k ≠ g → (((W.setCell ⟨g, a, none⟩ x).setCell ⟨g, b, none⟩ y).setCell ⟨g, c, none⟩ z).heap[k]? = W.heap[k]? := fun k hk => by
  rw [heap_setCell_other _ _ _ _ hk, heap_setCell_other _ _ _ _ hk, heap_setCell_other _ _ _ _ hk]
theorem three_at {w w' : World} {B g a b c : Nat} {x y z : Value} (h : Below B w w') (hg : B ≤ g) : Below B w (((w'.setCell ⟨g, a, none⟩ x).setCell ⟨g, b, none⟩ y).setCell ⟨g, c, none⟩ z) :=
  ((h.setCell (p := ⟨g, a, none⟩) hg _).setCell (p := ⟨g, b, none⟩) hg _).setCell (p := ⟨g, c, none⟩) hg _
theorem noInt_set {cur : Array Value} (h : ∀ x ∈ cur, noInt x) (i : Nat) {v : Value} (hv : noInt v) : ∀ x ∈ cur.setIfInBounds i v, noInt x := by
  intro x hx
  rcases Array.mem_or_eq_of_mem_setIfInBounds hx with h1 | rfl
  · exact h x h1
  · exact hv
/-- all texts are read -/
def readAll : List ByteArray → Option (List Q3)
  | [] => some []
  | s :: l => match readQ s.data.toList, readAll l with
    | some q, some qs => some (q :: qs)
    | _, _ => none
theorem readAll_some : ∀ (L : List ByteArray) (qs : List Q3), qs.length = L.length → (∀ j (h : j < L.length) (h' : j < qs.length), readQ L[j].data.toList = some qs[j]) → readAll L = some qs
  | [], qs, hl, _ => by rw [List.length_eq_zero_iff.1 hl]; rfl
  | s :: L, [], hl, _ => by simp at hl
  | s :: L, q :: qs, hl, h => by
    have h0 := h 0 (by simp) (by simp)
    have h1 := readAll_some L qs (by simpa using hl) (fun j hj hj' => h (j + 1) (by simpa using hj) (by simpa using hj'))
    simp only [List.getElem_cons_zero] at h0
    rw [readAll, h0, h1]
theorem readAll_none : ∀ (L : List ByteArray) (j : Nat) (h : j < L.length), readQ L[j].data.toList = none → readAll L = none
  | s :: L, 0, h, hn => by
    simp only [List.getElem_cons_zero] at hn
    rw [readAll, hn]
  | s :: L, j + 1, h, hn => by
    have := readAll_none L j (by simpa using h) (by simpa using hn)
    rw [readAll, this]
    cases readQ s.data.toList <;> rfl

end Go.Proofs.YtegobakoflbnfaaGreatDoor.QA

namespace Go.Proofs.YtegobakoflbnfaaGreatDoor.QA
open Go.RowKit Go.Shelf WN LM

def fitQ (n d : Nat) : Bool := decide (Dig n ≤ 300 ∧ Dig d ≤ 300)
/-- what is returned of a result: its text, or that it is too long -/
def outQ (s : Bool) (n d : Nat) : ByteArray × Int := if fitQ n d then (⟨(ratText s n d).toArray⟩, 0) else (⟨#[]⟩, 2)
def OutS (w : World) (x : ByteArray × Int) (e : Ending) (w' : World) : Prop := e = .returned (.tuple #[.string x.1, .int .i64 x.2]) ∧ Below w.heap.size w w'
theorem outQ_fit {s : Bool} {n d : Nat} (h : fitQ n d = true) : outQ s n d = (⟨(ratText s n d).toArray⟩, 0) := by unfold outQ; rw [if_pos h]
theorem outQ_long {s : Bool} {n d : Nat} (h : fitQ n d = false) : outQ s n d = (⟨#[]⟩, 2) := by unfold outQ; rw [if_neg (by simp [h])]

theorem Strs.new1 (w : World) (a : ByteArray) : Strs (w.alloc (.cells #[.string a] 9)) (.slice (some ⟨w.heap.size, 0, none⟩) 1 1) [a] := by
  refine ⟨_, _, rfl, fun i hi => ⟨_, _, rfl, ?_⟩⟩
  obtain rfl : i = 0 := by simpa using hi
  rw [cell_of_row _ _ _ _ _ _ (heap_alloc_new w _)]; rfl
theorem Strs.new2 (w : World) (a b : ByteArray) : Strs (w.alloc (.cells #[.string a, .string b] 9)) (.slice (some ⟨w.heap.size, 0, none⟩) 2 2) [a, b] := by
  refine ⟨_, _, rfl, fun i hi => ⟨_, _, rfl, ?_⟩⟩
  have : i = 0 ∨ i = 1 := by simp at hi; omega
  rcases this with rfl | rfl <;> (rw [cell_of_row _ _ _ _ _ _ (heap_alloc_new w _)]; rfl)
theorem readAll_one (a : ByteArray) : readAll [a] = (readQ a.data.toList).map fun q => [q] := by
  simp only [readAll]; cases readQ a.data.toList <;> rfl
theorem readAll_two (a b : ByteArray) : readAll [a, b] = (readQ a.data.toList).bind fun p => (readQ b.data.toList).map fun q => [p, q] := by
  simp only [readAll]; cases readQ a.data.toList <;> cases readQ b.data.toList <;> rfl
/-- what is read has at most 300 digits in each term -/
theorem readR_dig {neg : Bool} {r : List UInt8} {s : Bool} {n d : Nat} (h : readR neg r = some (s, n, d)) : Dig n ≤ 300 ∧ Dig d ≤ 300 ∧ 0 < d ∧ s = neg ∧ Nat.gcd n d = 1 ∧ (s = true → n ≠ 0) ∧ r = decT n ++ (if d = 1 then [] else 47 :: decT d) := by
  unfold readR at h
  have hr : r = r.takeWhile (· != 47) ++ r.dropWhile (· != 47) := (List.takeWhile_append_dropWhile).symm
  split at h
  · rename_i h1
    simp only [Bool.and_eq_true, Bool.not_eq_true', Bool.and_eq_false_iff, decide_eq_false_iff_not] at h1
    obtain ⟨h1, h2⟩ := h1
    obtain ⟨g1, g2, g3⟩ := goodD_eq h1
    split at h
    · rename_i hd
      simp only [Option.some.injEq, Prod.mk.injEq] at h
      obtain ⟨rfl, rfl, rfl⟩ := h
      refine ⟨g2, by have := dig_le (n := 1) (k := 1) (by omega) (by omega); omega, by omega, rfl, Nat.gcd_one_right _, fun hs => ?_, ?_⟩
      · rcases h2 with h2 | h2
        · rw [hs] at h2; cases h2
        · exact h2
      · rw [hd, List.append_nil] at hr
        simp only [if_true, List.append_nil]
        rw [← g1]; exact hr
    · rename_i c t hd
      split at h
      · rename_i h3
        simp only [Bool.and_eq_true, Bool.not_eq_true', decide_eq_false_iff_not, decide_eq_true_eq] at h3
        obtain ⟨⟨⟨h3, h4⟩, h5⟩, h6⟩ := h3
        simp only [Option.some.injEq, Prod.mk.injEq] at h
        obtain ⟨rfl, rfl, rfl⟩ := h
        obtain ⟨g4, g5, g6⟩ := goodD_eq h3
        refine ⟨g2, g5, by omega, rfl, h6, fun hs => ?_, ?_⟩
        · rcases h2 with h2 | h2
          · rw [hs] at h2; cases h2
          · exact h2
        · rw [if_neg h5, ← g1, ← g4]
          have hc : c = 47 := by
            have hx : (r.dropWhile (· != 47)).head? = some c := by rw [hd]; rfl
            have := List.head?_dropWhile_not (fun x : UInt8 => x != 47) r
            rw [hx] at this
            simpa using this
          rw [hd, hc] at hr
          exact hr
      · cases h
  · cases h
theorem readQ_spec {l : List UInt8} {s : Bool} {n d : Nat} (h : readQ l = some (s, n, d)) : Dig n ≤ 300 ∧ Dig d ≤ 300 ∧ 0 < d ∧ Nat.gcd n d = 1 ∧ (s = true → n ≠ 0) ∧ l = ratText s n d := by
  unfold readQ at h
  split at h
  · rename_i hh
    obtain ⟨h1, h2, h3, h4, h5, h6, h7⟩ := readR_dig h
    refine ⟨h1, h2, h3, h5, h6, ?_⟩
    cases l with
    | nil => simp at hh
    | cons c l =>
      have : c = 45 := by simpa using hh
      subst this
      rw [h4]
      simp only [List.tail_cons] at h7
      rw [h7]; simp [ratText]
  · obtain ⟨h1, h2, h3, h4, h5, h6, h7⟩ := readR_dig h
    exact ⟨h1, h2, h3, h5, h6, by rw [h4, h7]; simp [ratText]⟩
end Go.Proofs.YtegobakoflbnfaaGreatDoor.QA

-- from Calc
namespace Go.Proofs.YtegobakoflbnfaaGreatDoor.QA
open Go.RowKit Go.Shelf WN LM

/-- a calculation with two texts -/
def two (f : Q3 → Q3 → ByteArray × Int) (a b : ByteArray) : ByteArray × Int :=
  match readQ a.data.toList, readQ b.data.toList with
  | some p, some q => f p q
  | _, _ => (⟨#[]⟩, 1)
def oneT (f : Q3 → ByteArray × Int) (a : ByteArray) : ByteArray × Int :=
  match readQ a.data.toList with
  | some p => f p
  | none => (⟨#[]⟩, 1)
def out3 (q : Q3) : ByteArray × Int := outQ q.1 q.2.1 q.2.2
def addQ (p q : Q3) : Q3 := (sumS p.1 p.2.1 p.2.2 q.1 q.2.1 q.2.2, sumN p.1 p.2.1 p.2.2 q.1 q.2.1 q.2.2, sumD p.1 p.2.1 p.2.2 q.1 q.2.1 q.2.2)
def negQ (q : Q3) : Q3 := (!q.1 && decide (q.2.1 ≠ 0), q.2.1, q.2.2)
def subQ (p q : Q3) : Q3 := addQ p (negQ q)
def mulQ (p q : Q3) : Q3 :=
  (((p.1 && decide (p.2.1 ≠ 0)) != (q.1 && decide (q.2.1 ≠ 0))) && decide (p.2.1 / Nat.gcd p.2.1 q.2.2 * (q.2.1 / Nat.gcd q.2.1 p.2.2) ≠ 0), p.2.1 / Nat.gcd p.2.1 q.2.2 * (q.2.1 / Nat.gcd q.2.1 p.2.2), q.2.2 / Nat.gcd p.2.1 q.2.2 * (p.2.2 / Nat.gcd q.2.1 p.2.2))
def floorQ (p : Q3) : Q3 := (p.1 && decide (floorN p.1 p.2.1 p.2.2 ≠ 0), floorN p.1 p.2.1 p.2.2, 1)
def roundQ (p : Q3) : Q3 := (p.1 && decide (roundN p.2.1 p.2.2 ≠ 0), roundN p.2.1 p.2.2, 1)

theorem readQ_q {l : List UInt8} {q : Q3} (h : readQ l = some q) : Dig q.2.1 ≤ 300 ∧ Dig q.2.2 ≤ 300 ∧ 0 < q.2.2 ∧ Nat.gcd q.2.1 q.2.2 = 1 ∧ (q.1 = true → q.2.1 ≠ 0) ∧ l = ratText q.1 q.2.1 q.2.2 := readQ_spec (s := q.1) (n := q.2.1) (d := q.2.2) h
theorem len_div (a b : Nat) : Len (a / b) ≤ Len a := len_mono (Nat.div_le_self a b)
theorem mulQ_len (p q : Q3) : Len (mulQ p q).2.1 ≤ Len p.2.1 + Len q.2.1 ∧ Len (mulQ p q).2.2 ≤ Len q.2.2 + Len p.2.2 := by
  unfold mulQ
  have h1 := len_mul (p.2.1 / Nat.gcd p.2.1 q.2.2) (q.2.1 / Nat.gcd q.2.1 p.2.2)
  have h2 := len_mul (q.2.2 / Nat.gcd p.2.1 q.2.2) (p.2.2 / Nat.gcd q.2.1 p.2.2)
  have h3 := len_div p.2.1 (Nat.gcd p.2.1 q.2.2)
  have h4 := len_div q.2.1 (Nat.gcd q.2.1 p.2.2)
  have h5 := len_div q.2.2 (Nat.gcd p.2.1 q.2.2)
  have h6 := len_div p.2.2 (Nat.gcd q.2.1 p.2.2)
  exact ⟨by show Len (_ * _) ≤ _; omega, by show Len (_ * _) ≤ _; omega⟩
theorem addQ_len (p q : Q3) (h : 0 < p.2.2) : Len (addQ p q).2.1 ≤ max (Len p.2.1 + Len q.2.2) (Len q.2.1 + Len p.2.2) + 1 ∧ Len (addQ p q).2.2 ≤ Len p.2.2 + Len p.2.2 + Len q.2.2 + 1 := by
  have hg : 0 < Nat.gcd p.2.2 q.2.2 := Nat.gcd_pos_of_pos_left _ h
  have lg : Len (Nat.gcd p.2.2 q.2.2) ≤ Len p.2.2 := len_mono (Nat.gcd_le_left _ h)
  have lp : Len (plusN p.1 p.2.1 p.2.2 q.1 q.2.1 q.2.2) ≤ max (Len p.2.1 + Len q.2.2) (Len q.2.1 + Len p.2.2) + 1 := by
    unfold plusN plusX plusY
    have h1 := addN_len (p.1 && decide (p.2.1 * (q.2.2 / Nat.gcd p.2.2 q.2.2) ≠ 0)) (p.2.1 * (q.2.2 / Nat.gcd p.2.2 q.2.2)) (q.1 && decide (q.2.1 * (p.2.2 / Nat.gcd p.2.2 q.2.2) ≠ 0)) (q.2.1 * (p.2.2 / Nat.gcd p.2.2 q.2.2))
    have h2 := len_mul p.2.1 (q.2.2 / Nat.gcd p.2.2 q.2.2)
    have h3 := len_mul q.2.1 (p.2.2 / Nat.gcd p.2.2 q.2.2)
    have h4 := len_div q.2.2 (Nat.gcd p.2.2 q.2.2)
    have h5 := len_div p.2.2 (Nat.gcd p.2.2 q.2.2)
    omega
  unfold addQ sumN sumD
  refine ⟨Nat.le_trans (len_div _ _) lp, ?_⟩
  show Len (if _ then 1 else _) ≤ _
  split
  · have := len_small (show 1 < 1000000000 by omega); omega
  · have h1 := len_mul (Nat.gcd p.2.2 q.2.2 / Nat.gcd (plusN p.1 p.2.1 p.2.2 q.1 q.2.1 q.2.2) (Nat.gcd p.2.2 q.2.2) * (p.2.2 / Nat.gcd p.2.2 q.2.2)) (q.2.2 / Nat.gcd p.2.2 q.2.2)
    have h2 := len_mul (Nat.gcd p.2.2 q.2.2 / Nat.gcd (plusN p.1 p.2.1 p.2.2 q.1 q.2.1 q.2.2) (Nat.gcd p.2.2 q.2.2)) (p.2.2 / Nat.gcd p.2.2 q.2.2)
    have h3 := len_div (Nat.gcd p.2.2 q.2.2) (Nat.gcd (plusN p.1 p.2.1 p.2.2 q.1 q.2.1 q.2.2) (Nat.gcd p.2.2 q.2.2))
    have h4 := len_div q.2.2 (Nat.gcd p.2.2 q.2.2)
    have h5 := len_div p.2.2 (Nat.gcd p.2.2 q.2.2)
    omega
theorem floorN_len (s : Bool) (n d : Nat) : Len (floorN s n d) ≤ Len n + 2 := by
  have h1 := len_add (n / d) 1
  have h2 := len_div n d
  have h3 := len_small (show 1 < 1000000000 by omega)
  unfold floorN; split <;> omega
theorem roundN_len (n d : Nat) : Len (roundN n d) ≤ Len n + 2 := by
  have h1 := len_add (n / d) 1
  have h2 := len_div n d
  have h3 := len_small (show 1 < 1000000000 by omega)
  unfold roundN; split <;> omega

end Go.Proofs.YtegobakoflbnfaaGreatDoor.QA

namespace Go.Proofs.YtegobakoflbnfaaGreatDoor.QA
open Go.RowKit Go.Shelf WN LM

end Go.Proofs.YtegobakoflbnfaaGreatDoor.QA

-- from FaceB
namespace Go.Proofs.YtegobakoflbnfaaGreatDoor.QA
open Go.RowKit Go.Shelf WN LM

end Go.Proofs.YtegobakoflbnfaaGreatDoor.QA

namespace Go.Proofs.YtegobakoflbnfaaGreatDoor.QA
open Go.RowKit Go.Shelf WN LM

def twoG {α : Type} (bad : α) (f : Q3 → Q3 → α) (a b : ByteArray) : α :=
  match readQ a.data.toList, readQ b.data.toList with
  | some p, some q => f p q
  | _, _ => bad
def oneG {α : Type} (bad : α) (f : Q3 → α) (a : ByteArray) : α :=
  match readQ a.data.toList with
  | some p => f p
  | none => bad
def OutI (w : World) (x : Int × Int) (e : Ending) (w' : World) : Prop := e = .returned (.tuple #[.int .i64 x.1, .int .i64 x.2]) ∧ Below w.heap.size w w'
def OutB (w : World) (x : Bool × Int) (e : Ending) (w' : World) : Prop := e = .returned (.tuple #[.bool x.1, .int .i64 x.2]) ∧ Below w.heap.size w w'
def signQ (q : Q3) : Int := sgn q.1 q.2.1
def invQ (q : Q3) : Q3 := (q.1, q.2.2, q.2.1)
def divQ (p q : Q3) : Q3 := mulQ p (invQ q)
def cmpQ (p q : Q3) : Int :=
  sgn (addS (p.1 && decide (p.2.1 * q.2.2 ≠ 0)) (p.2.1 * q.2.2) (!q.1 && decide (q.2.1 * p.2.2 ≠ 0)) (q.2.1 * p.2.2) && decide (addN (p.1 && decide (p.2.1 * q.2.2 ≠ 0)) (p.2.1 * q.2.2) (!q.1 && decide (q.2.1 * p.2.2 ≠ 0)) (q.2.1 * p.2.2) ≠ 0)) (addN (p.1 && decide (p.2.1 * q.2.2 ≠ 0)) (p.2.1 * q.2.2) (!q.1 && decide (q.2.1 * p.2.2 ≠ 0)) (q.2.1 * p.2.2))
def divF (p q : Q3) : ByteArray × Int := if signQ q = 0 then (⟨#[]⟩, 12) else out3 (divQ p q)
def cmpF (p q : Q3) : Int × Int := (cmpQ p q, 0)
def simQ (p q : Q3) : Q3 :=
  if p.1 && q.1 then (decide ((simpl q.2.1 q.2.2 p.2.1 p.2.2).1 ≠ 0), (simpl q.2.1 q.2.2 p.2.1 p.2.2).1, (simpl q.2.1 q.2.2 p.2.1 p.2.2).2)
  else if signQ p ≤ 0 then (false, 0, 1) else (false, (simpl p.2.1 p.2.2 q.2.1 q.2.2).1, (simpl p.2.1 p.2.2 q.2.1 q.2.2).2)
def simF (p q : Q3) : ByteArray × Int := if 0 < cmpQ p q then (⟨#[]⟩, 3) else out3 (simQ p q)
def multF (p q : Q3) : Bool × Int := if signQ q ≤ 0 then (false, 3) else (!(divQ p q).1 && decide ((divQ p q).2.2 = 1), 0)
theorem sgn_zero {s : Bool} {n : Nat} (h : s = true → n ≠ 0) : sgn s n = 0 ↔ n = 0 := by
  unfold sgn
  cases s
  · simp
  · simp; exact h rfl
theorem sgn_pos {s : Bool} {n : Nat} : 0 < sgn s n ↔ s = false ∧ n ≠ 0 := by
  unfold sgn
  cases s
  · by_cases h : n = 0 <;> simp [h]
  · simp

end Go.Proofs.YtegobakoflbnfaaGreatDoor.QA

-- from FaceD
namespace Go.Proofs.YtegobakoflbnfaaGreatDoor.QA
open Go.RowKit Go.Shelf WN LM

theorem simQ_len (p q : Q3) (h1 : p.1 = true → p.2.1 ≠ 0) (h2 : q.1 = true → q.2.1 ≠ 0) (d0 : 0 < p.2.2) (c0 : 0 < q.2.2) (hpq : p.1 = true → q.1 = true → q.2.1 * p.2.2 ≤ p.2.1 * q.2.2) (hpq2 : p.1 = false → p.2.1 * q.2.2 ≤ q.2.1 * p.2.2) :
    Len (simQ p q).2.1 ≤ Len p.2.1 + Len q.2.1 + 1 ∧ Len (simQ p q).2.2 ≤ Len p.2.2 + Len q.2.2 + 1 := by
  have l1 := len_small (show 1 < 1000000000 by omega)
  have l0 := len_zero
  unfold simQ
  split
  · rename_i h
    simp only [Bool.and_eq_true] at h
    have b := simpl_bound _ q.2.1 q.2.2 p.2.1 p.2.2 (Nat.le_refl _) c0 d0 (hpq h.1 h.2)
    have m1 := len_mono b.1
    have m2 := len_mono b.2.1
    exact ⟨by show Len (simpl _ _ _ _).1 ≤ _; omega, by show Len (simpl _ _ _ _).2 ≤ _; omega⟩
  · split
    · exact ⟨by show Len 0 ≤ _; omega, by show Len 1 ≤ _; omega⟩
    · rename_i h h'
      have hs : p.1 = false := by
        cases hp : p.1
        · rfl
        · exfalso; apply h'; unfold signQ sgn; rw [hp, if_pos rfl]; omega
      have b := simpl_bound _ p.2.1 p.2.2 q.2.1 q.2.2 (Nat.le_refl _) d0 c0 (hpq2 hs)
      have m1 := len_mono b.1
      have m2 := len_mono b.2.1
      exact ⟨by show Len (simpl _ _ _ _).1 ≤ _; omega, by show Len (simpl _ _ _ _).2 ≤ _; omega⟩

theorem add_same {s : Bool} {X Y : Nat} : addS s X s Y = s ∧ addN s X s Y = X + Y := by unfold addS addN; simp
theorem add_diff {s t : Bool} {X Y : Nat} (h : s ≠ t) : addS s X t Y = (if X < Y then t else s) ∧ addN s X t Y = (if X < Y then Y - X else X - Y) := by unfold addS addN; rw [if_neg h, if_neg h]; exact ⟨rfl, rfl⟩
/-- what compare says, in products -/
theorem cmpQ_le {p q : Q3} (hp : p.1 = true → p.2.1 ≠ 0) (hq : q.1 = true → q.2.1 ≠ 0) (d0 : 0 < p.2.2) (c0 : 0 < q.2.2) (h : ¬ 0 < cmpQ p q) :
    (p.1 = true → q.1 = true → q.2.1 * p.2.2 ≤ p.2.1 * q.2.2) ∧ (p.1 = false → p.2.1 * q.2.2 ≤ q.2.1 * p.2.2) ∧ (p.1 = false → q.1 = true → False) := by
  have e1 : p.2.1 * q.2.2 = 0 ↔ p.2.1 = 0 := by rw [Nat.mul_eq_zero]; omega
  have e2 : q.2.1 * p.2.2 = 0 ↔ q.2.1 = 0 := by rw [Nat.mul_eq_zero]; omega
  unfold cmpQ at h
  generalize p.2.1 * q.2.2 = X at *
  generalize q.2.1 * p.2.2 = Y at *
  rw [sgn_pos] at h
  cases hs : p.1 <;> cases ht : q.1 <;> simp only [hs, ht, Bool.false_and, Bool.true_and, Bool.not_false, Bool.not_true] at h
  · refine ⟨fun h => absurd h (by decide), fun _ => ?_, fun _ h => absurd h (by decide)⟩
    by_cases hY : Y = 0
    · subst hY
      have h0 : decide ((0 : Nat) ≠ 0) = false := rfl
      rw [h0, add_same.1, add_same.2] at h
      simp at h; omega
    · have h0 : decide (Y ≠ 0) = true := by simp [hY]
      rw [h0, (add_diff (by decide)).1, (add_diff (by decide)).2] at h
      rcases Nat.lt_or_ge X Y with h1 | h1
      · omega
      · rw [if_neg (by omega), if_neg (by omega)] at h
        simp at h; omega
  · exfalso
    have hY : Y ≠ 0 := fun h => (hq ht) (e2.1 h)
    rw [add_same.1, add_same.2] at h
    simp at h
    omega
  · exact ⟨fun _ h => absurd h (by decide), fun h => absurd h (by decide), fun h => absurd h (by decide)⟩
  · refine ⟨fun _ _ => ?_, fun h => absurd h (by decide), fun h => absurd h (by decide)⟩
    have hX : X ≠ 0 := fun h => (hp hs) (e1.1 h)
    have h0 : decide (X ≠ 0) = true := by simp [hX]
    rw [h0, (add_diff (by decide)).1, (add_diff (by decide)).2] at h
    rcases Nat.lt_or_ge X Y with h1 | h1
    · rw [if_pos h1, if_pos h1] at h
      simp at h; omega
    · exact h1

end Go.Proofs.YtegobakoflbnfaaGreatDoor.QA

namespace Go.Proofs.YtegobakoflbnfaaGreatDoor.QA
open Go.RowKit Go.Shelf WN LM

def comStep (c a : Q3) : Q3 := (false, Nat.gcd c.2.1 a.2.1, c.2.2 * (a.2.2 / Nat.gcd c.2.2 a.2.2))
def comFold : Q3 → List Q3 → Option Q3
  | c, [] => some c
  | c, a :: l => if fitQ (comStep c a).2.1 (comStep c a).2.2 then comFold (comStep c a) l else none
def comF : List Q3 → ByteArray × Int
  | [] => (⟨#[]⟩, 5)
  | q :: l => if (q :: l).any (fun x => decide (signQ x ≤ 0)) then (⟨#[]⟩, 3) else
    match comFold q l with
    | none => (⟨#[]⟩, 2)
    | some c => out3 c
theorem comF_cons (q : Q3) (l : List Q3) : comF (q :: l) = if (q :: l).any (fun x => decide (signQ x ≤ 0)) then (⟨#[]⟩, 3) else match comFold q l with | none => (⟨#[]⟩, 2) | some c => out3 c := rfl
def comT (L : List ByteArray) : ByteArray × Int :=
  match readAll L with
  | none => (⟨#[]⟩, 1)
  | some qs => comF qs

theorem readAll_all : ∀ (L : List ByteArray) (qs : List Q3), readAll L = some qs → ∀ x ∈ qs, Dig x.2.1 ≤ 300 ∧ Dig x.2.2 ≤ 300 ∧ (x.1 = true → x.2.1 ≠ 0) ∧ 0 < x.2.2
  | [], qs, h, x, hx => by
    simp only [readAll, Option.some.injEq] at h
    subst h; cases hx
  | s :: L, qs, h, x, hx => by
    simp only [readAll] at h
    cases hq : readQ s.data.toList with
    | none => rw [hq] at h; cases h
    | some q =>
      cases hr : readAll L with
      | none => rw [hq, hr] at h; cases h
      | some rs =>
        rw [hq, hr] at h
        simp only [Option.some.injEq] at h
        subst h
        rcases List.mem_cons.1 hx with rfl | hx
        · obtain ⟨h1, h2, h3, -, h5, -⟩ := readQ_q hq
          exact ⟨h1, h2, h5, h3⟩
        · exact readAll_all L rs hr x hx
theorem readAll_length : ∀ (L : List ByteArray) (qs : List Q3), readAll L = some qs → qs.length = L.length
  | [], qs, h => by
    simp only [readAll, Option.some.injEq] at h
    subst h; rfl
  | s :: L, qs, h => by
    simp only [readAll] at h
    cases hq : readQ s.data.toList with
    | none => rw [hq] at h; cases h
    | some q =>
      cases hr : readAll L with
      | none => rw [hq, hr] at h; cases h
      | some rs =>
        rw [hq, hr] at h
        simp only [Option.some.injEq] at h
        subst h
        simp [readAll_length L rs hr]
theorem comFold_snoc : ∀ (l : List Q3) (c a : Q3), comFold c (l ++ [a]) = (comFold c l).bind fun c' => if fitQ (comStep c' a).2.1 (comStep c' a).2.2 then some (comStep c' a) else none
  | [], c, a => by simp [comFold]
  | x :: l, c, a => by
    simp only [List.cons_append, comFold]
    split
    · exact comFold_snoc l _ a
    · rfl
theorem comFold_none : ∀ (l m : List Q3) (c : Q3), comFold c l = none → comFold c (l ++ m) = none
  | [], m, c, h => by simp [comFold] at h
  | x :: l, m, c, h => by
    simp only [List.cons_append, comFold] at h ⊢
    split
    · rename_i h1; rw [if_pos h1] at h; exact comFold_none l m _ h
    · rfl
end Go.Proofs.YtegobakoflbnfaaGreatDoor.QA

-- from FaceM
/- The calls Make, Pow and Parts of package rat. -/
namespace Go.Proofs.YtegobakoflbnfaaGreatDoor.QA
open Go.RowKit Go.Shelf WN LM

def intQ (n : Int) : Q3 := (decide (n < 0), n.natAbs, 1)
def makT (n d : Int) : ByteArray × Int := if d = 0 then (⟨#[]⟩, 12) else out3 (divQ (intQ n) (intQ d))
theorem len_int {n : Int} (h1 : -9223372036854775808 ≤ n) (h2 : n ≤ 9223372036854775807) : Len n.natAbs ≤ 34 := by
  refine len_dig (Nat.le_trans (dig_le (k := 20) (by omega) ?_) (by omega))
  have : (10 : Nat) ^ 20 = 100000000000000000000 := by decide
  rw [this]; omega

def powQ (p : Q3) (n : Int) : Q3 := if 0 ≤ n then (p.1 && decide (n.natAbs % 2 = 1), p.2.1 ^ n.natAbs, p.2.2 ^ n.natAbs) else (p.1 && decide (n.natAbs % 2 = 1), p.2.2 ^ n.natAbs, p.2.1 ^ n.natAbs)
def powF (n : Int) (p : Q3) : ByteArray × Int := if n < -100 ∨ 100 < n then (⟨#[]⟩, 3) else if n < 0 ∧ signQ p = 0 then (⟨#[]⟩, 12) else out3 (powQ p n)
def powT (a : ByteArray) (n : Int) : ByteArray × Int := oneG ((⟨#[]⟩ : ByteArray), (1 : Int)) (powF n) a
theorem outQ_pow {s : Bool} {n d k N D : Nat} (h1 : PowNum n k N) (h2 : PowNum d k D) : outQ s N D = outQ s (n ^ k) (d ^ k) := by
  obtain ⟨h1, -⟩ := h1
  obtain ⟨h2, -⟩ := h2
  rcases h1 with h1 | ⟨h1, h1'⟩
  · rcases h2 with h2 | ⟨h2, h2'⟩
    · rw [h1, h2]
    · rw [outQ_long (by unfold fitQ; simp; omega), outQ_long (by unfold fitQ; simp; omega)]
  · rw [outQ_long (by unfold fitQ; simp; omega), outQ_long (by unfold fitQ; simp; omega)]
def OutT (w : World) (x : ByteArray × ByteArray × Int) (e : Ending) (w' : World) : Prop := e = .returned (.tuple #[.string x.1, .string x.2.1, .int .i64 x.2.2]) ∧ Below w.heap.size w w'
def textB (q : Q3) : ByteArray := ⟨(ratText q.1 q.2.1 q.2.2).toArray⟩
def numQ (p : Q3) : Q3 := (p.1 && decide (p.2.1 ≠ 0), p.2.1, 1)
def denQ (p : Q3) : Q3 := (false && decide (p.2.2 ≠ 0), p.2.2, 1)
def parT (a : ByteArray) : ByteArray × ByteArray × Int := oneG ((⟨#[]⟩ : ByteArray), (⟨#[]⟩ : ByteArray), (1 : Int)) (fun p => (textB (numQ p), textB (denQ p), 0)) a

end Go.Proofs.YtegobakoflbnfaaGreatDoor.QA

-- from Alive
namespace Go.Proofs.YtegobakoflbnfaaGreatDoor.QA
open Go.RowKit Go.Shelf WN LM

def OutP (w : World) (x : ByteArray × Bool) (e : Ending) (w' : World) : Prop := e = .returned (.tuple #[.string x.1, .bool x.2]) ∧ Below w.heap.size w w'
def okS (x : ByteArray × Int) : ByteArray × Bool := (x.1, x.2 == 0)
def addT (a b : ByteArray) : ByteArray × Int := two (fun p q => out3 (addQ p q)) a b
def subT (a b : ByteArray) : ByteArray × Int := two (fun p q => out3 (subQ p q)) a b
def mulT (a b : ByteArray) : ByteArray × Int := two (fun p q => out3 (mulQ p q)) a b
def divT (a b : ByteArray) : ByteArray × Int := twoG ((⟨#[]⟩ : ByteArray), (1 : Int)) divF a b
def cmpT (a b : ByteArray) : Int × Int := twoG ((0 : Int), (1 : Int)) cmpF a b
def simT (a b : ByteArray) : ByteArray × Int := twoG ((⟨#[]⟩ : ByteArray), (1 : Int)) simF a b
def multT (a b : ByteArray) : Bool × Int := twoG (false, (1 : Int)) multF a b
def floorT (a : ByteArray) : ByteArray × Int := oneT (fun p => out3 (floorQ p)) a
def roundT (a : ByteArray) : ByteArray × Int := oneT (fun p => out3 (roundQ p)) a
def signT (a : ByteArray) : Int × Int := oneG ((0 : Int), (1 : Int)) (fun p => (signQ p, 0)) a

theorem dec_small {n : Nat} (h : n < 10) : decT n = [UInt8.ofNat (48 + n)] := by
  unfold decT
  by_cases h0 : n = 0
  · subst h0; rfl
  · rw [if_neg h0, dec_pos h0, show n / 10 = 0 from by omega, dec_zero, List.nil_append, show n % 10 = n from by omega]
theorem out_small {s : Bool} {n d : Nat} (hn : n < 10) (hd : d < 10) : out3 (s, n, d) = (⟨((if s then [45] else []) ++ [UInt8.ofNat (48 + n)] ++ (if d = 1 then [] else [47, UInt8.ofNat (48 + d)])).toArray⟩, 0) := by
  have h1 := dig_le (n := n) (k := 1) (by omega) (by omega)
  have h2 := dig_le (n := d) (k := 1) (by omega) (by omega)
  unfold out3 outQ
  rw [if_pos (by unfold fitQ; exact decide_eq_true ⟨by show Dig n ≤ 300; omega, by show Dig d ≤ 300; omega⟩)]
  unfold ratText
  rw [dec_small hn, dec_small hd]
theorem alive_a1 : addT ⟨#[49, 47, 50]⟩ ⟨#[49, 47, 51]⟩ = (⟨#[53, 47, 54]⟩, 0) := by
  have h1 : readQ [49, 47, 50] = some (false, 1, 2) := rfl
  have h2 : readQ [49, 47, 51] = some (false, 1, 3) := rfl
  show two _ _ _ = _
  unfold two
  simp only [h1, h2]
  rw [show addQ (false, 1, 2) (false, 1, 3) = (false, 5, 6) from rfl, out_small (by omega) (by omega)]; rfl
theorem alive_a2 : mulT ⟨#[50, 47, 51]⟩ ⟨#[51, 47, 50]⟩ = (⟨#[49]⟩, 0) := by
  have h1 : readQ [50, 47, 51] = some (false, 2, 3) := rfl
  have h2 : readQ [51, 47, 50] = some (false, 3, 2) := rfl
  show two _ _ _ = _
  unfold two
  simp only [h1, h2]
  rw [show mulQ (false, 2, 3) (false, 3, 2) = (false, 1, 1) from rfl, out_small (by omega) (by omega)]; rfl
theorem alive_a3 : floorT ⟨#[45, 49, 47, 50]⟩ = (⟨#[45, 49]⟩, 0) := by
  have h1 : readQ [45, 49, 47, 50] = some (true, 1, 2) := rfl
  show oneT _ _ = _
  unfold oneT
  simp only [h1]
  rw [show floorQ (true, 1, 2) = (true, 1, 1) from rfl, out_small (by omega) (by omega)]; rfl
theorem alive_a4 : roundT ⟨#[53, 47, 50]⟩ = (⟨#[50]⟩, 0) := by
  have h1 : readQ [53, 47, 50] = some (false, 5, 2) := rfl
  show oneT _ _ = _
  unfold oneT
  simp only [h1]
  rw [show roundQ (false, 5, 2) = (false, 2, 1) from rfl, out_small (by omega) (by omega)]; rfl
theorem alive_a5 : simT ⟨#[49, 47, 51]⟩ ⟨#[49, 47, 50]⟩ = (⟨#[49, 47, 50]⟩, 0) := by
  have h1 : readQ [49, 47, 51] = some (false, 1, 3) := rfl
  have h2 : readQ [49, 47, 50] = some (false, 1, 2) := rfl
  have h3 : simpl 1 3 1 2 = (1, 2) := by
    rw [simpl_rec (by omega) (by omega) (by omega), show 1 % 3 = 1 from rfl, show 1 - 1 / 3 * 2 = 1 from rfl, simpl_exact (by omega)]
    rfl
  have h4 : simQ (false, 1, 3) (false, 1, 2) = (false, 1, 2) := by
    have e : simQ (false, 1, 3) (false, 1, 2) = (false, (simpl 1 3 1 2).1, (simpl 1 3 1 2).2) := rfl
    rw [e, h3]
  have h5 : simF (false, 1, 3) (false, 1, 2) = out3 (simQ (false, 1, 3) (false, 1, 2)) := rfl
  show twoG _ _ _ _ = _
  unfold twoG
  simp only [h1, h2]
  rw [h5, h4, out_small (by omega) (by omega)]; rfl
theorem alive_a6 : comT [⟨#[49, 47, 50]⟩, ⟨#[51, 47, 52]⟩] = (⟨#[49, 47, 52]⟩, 0) := by
  have h1 : readQ [49, 47, 50] = some (false, 1, 2) := rfl
  have h2 : readQ [51, 47, 52] = some (false, 3, 4) := rfl
  have h3 : readAll [⟨#[49, 47, 50]⟩, ⟨#[51, 47, 52]⟩] = some [(false, 1, 2), (false, 3, 4)] := by simp only [readAll, h1, h2]
  have hc : comStep (false, 1, 2) (false, 3, 4) = (false, 1, 4) := rfl
  have hf : fitQ 1 4 = true := by
    have g1 := dig_le (n := 1) (k := 1) (by omega) (by omega)
    have g2 := dig_le (n := 4) (k := 1) (by omega) (by omega)
    unfold fitQ; exact decide_eq_true ⟨by omega, by omega⟩
  have h4 : comFold (false, 1, 2) [(false, 3, 4)] = some (false, 1, 4) := by
    simp only [comFold, hc, hf]; rfl
  have h5 : comF [(false, 1, 2), (false, 3, 4)] = match comFold (false, 1, 2) [(false, 3, 4)] with | none => (⟨#[]⟩, 2) | some c => out3 c := rfl
  unfold comT
  rw [h3]
  show comF _ = _
  rw [h5, h4]
  show out3 (false, 1, 4) = _
  rw [out_small (by omega) (by omega)]; rfl
theorem alive_a7 : multT ⟨#[51, 47, 50]⟩ ⟨#[49, 47, 50]⟩ = (true, 0) := by
  have h1 : readQ [51, 47, 50] = some (false, 3, 2) := rfl
  have h2 : readQ [49, 47, 50] = some (false, 1, 2) := rfl
  show twoG _ _ _ _ = _
  unfold twoG
  simp only [h1, h2]
  rfl

end Go.Proofs.YtegobakoflbnfaaGreatDoor.QA

-- from IsV
/- The numbers of the program as rational numbers. Plain arithmetic. Texts and the rational numbers that they are. -/
namespace Go.Proofs.YtegobakoflbnfaaGreatDoor.QA

def sgi (s : Bool) (n : Nat) : Int := if s then -(n : Int) else n
def Can (q : Q3) : Prop := 0 < q.2.2 ∧ Nat.Coprime q.2.1 q.2.2 ∧ (q.1 = true → q.2.1 ≠ 0)
def toR (q : Q3) : Rat := mkRat (sgi q.1 q.2.1) q.2.2

theorem sgi_natAbs (s : Bool) (n : Nat) : (sgi s n).natAbs = n := by unfold sgi; cases s <;> simp
theorem toR_num {q : Q3} (h : Can q) : (toR q).num = sgi q.1 q.2.1 := by
  unfold toR
  rw [Rat.num_mkRat, if_neg (by have := h.1; omega), sgi_natAbs, Nat.gcd_comm, h.2.1.gcd_eq_one]
  simp
theorem toR_den {q : Q3} (h : Can q) : (toR q).den = q.2.2 := by
  unfold toR
  rw [Rat.den_mkRat, if_neg (by have := h.1; omega), sgi_natAbs, Nat.gcd_comm, h.2.1.gcd_eq_one]
  simp
theorem sgi_inj {s t : Bool} {n m : Nat} (hs : s = true → n ≠ 0) (ht : t = true → m ≠ 0) (h : sgi s n = sgi t m) : s = t ∧ n = m := by
  unfold sgi at h
  cases s <;> cases t <;> simp at h ⊢
  · omega
  · have := ht rfl; omega
  · have := hs rfl; omega
  · omega
theorem toR_inj {p q : Q3} (hp : Can p) (hq : Can q) (h : toR p = toR q) : p = q := by
  have h1 : sgi p.1 p.2.1 = sgi q.1 q.2.1 := by rw [← toR_num hp, ← toR_num hq, h]
  have h2 : p.2.2 = q.2.2 := by rw [← toR_den hp, ← toR_den hq, h]
  obtain ⟨h3, h4⟩ := sgi_inj hp.2.2 hq.2.2 h1
  obtain ⟨a, b, c⟩ := p
  obtain ⟨a', b', c'⟩ := q
  simp only at h2 h3 h4
  subst h2 h3 h4
  rfl
theorem readQ_can {l : List UInt8} {q : Q3} (h : readQ l = some q) : Can q := by
  obtain ⟨_, _, h3, h4, h5, _⟩ := readQ_q h
  exact ⟨h3, h4, h5⟩

theorem sgi_dec (s : Bool) (X : Nat) : sgi (s && decide (X ≠ 0)) X = sgi s X := by
  unfold sgi
  by_cases h : X = 0
  · subst h; cases s <;> simp
  · cases s <;> simp [h]
theorem sgi_mul (s : Bool) (n m : Nat) : sgi s (n * m) = sgi s n * m := by
  unfold sgi; cases s <;> simp [Int.neg_mul]
theorem add_int (s t : Bool) (X Y : Nat) : sgi (addS s X t Y) (addN s X t Y) = sgi s X + sgi t Y := by
  by_cases h : s = t
  · subst h
    rw [add_same.1, add_same.2]
    unfold sgi; cases s <;> simp
    omega
  · rw [(add_diff h).1, (add_diff h).2]
    rcases Nat.lt_or_ge X Y with h1 | h1
    · rw [if_pos h1, if_pos h1]
      unfold sgi; cases s <;> cases t <;> simp at h ⊢ <;> omega
    · rw [if_neg (by omega), if_neg (by omega)]
      unfold sgi; cases s <;> cases t <;> simp at h ⊢ <;> omega
theorem addN_dvd {e : Nat} {s t : Bool} {X Y : Nat} (h : e ∣ addN s X t Y) (hY : e ∣ Y) : e ∣ X := by
  unfold addN at h
  split at h
  · exact (Nat.dvd_add_iff_left hY).2 h
  · split at h
    · rename_i h1
      have : X = Y - (Y - X) := by omega
      rw [this]; exact Nat.dvd_sub hY h
    · rename_i h1
      have : X = (X - Y) + Y := by omega
      rw [this]; exact Nat.dvd_add h hY
theorem addN_dvd' {e : Nat} {s t : Bool} {X Y : Nat} (h : e ∣ addN s X t Y) (hX : e ∣ X) : e ∣ Y := by
  unfold addN at h
  split at h
  · exact (Nat.dvd_add_iff_right hX).2 h
  · split at h
    · rename_i h1
      have : Y = (Y - X) + X := by omega
      rw [this]; exact Nat.dvd_add h hX
    · rename_i h1
      have : Y = X - (X - Y) := by omega
      rw [this]; exact Nat.dvd_sub hX h

theorem addQ_spec {p q : Q3} (hp : Can p) (hq : Can q) : Can (addQ p q) ∧ toR (addQ p q) = toR p + toR q := by
  obtain ⟨s, n, d⟩ := p
  obtain ⟨t, m, c⟩ := q
  obtain ⟨d0, hnd, hs⟩ := hp
  obtain ⟨c0, hmc, ht⟩ := hq
  simp only at d0 hnd hs c0 hmc ht
  have hgp : 0 < Nat.gcd d c := Nat.gcd_pos_of_pos_left _ d0
  have hdd := Nat.div_mul_cancel (Nat.gcd_dvd_left d c)
  have hcc := Nat.div_mul_cancel (Nat.gcd_dvd_right d c)
  have hco := Nat.coprime_div_gcd_div_gcd hgp
  have e1 := add_int (s && decide (plusX n d c ≠ 0)) (t && decide (plusY m d c ≠ 0)) (plusX n d c) (plusY m d c)
  rw [sgi_dec, sgi_dec] at e1
  have hdN : ∀ e, e ∣ plusN s n d t m c → e ∣ plusY m d c → e ∣ plusX n d c := fun e h => addN_dvd h
  have hdN' : ∀ e, e ∣ plusN s n d t m c → e ∣ plusX n d c → e ∣ plusY m d c := fun e h => addN_dvd' h
  change sgi (plusS s n d t m c) (plusN s n d t m c) = _ at e1
  unfold addQ sumS sumN sumD
  simp only
  generalize plusS s n d t m c = S at *
  generalize plusN s n d t m c = N at *
  unfold plusX plusY at *
  rw [sgi_mul, sgi_mul] at e1
  generalize hg : Nat.gcd d c = g at *
  generalize hd' : d / g = d' at *
  generalize hc' : c / g = c' at *
  have d'0 : 0 < d' := by
    rcases Nat.eq_zero_or_pos d' with h | h
    · subst h; omega
    · exact h
  have c'0 : 0 < c' := by
    rcases Nat.eq_zero_or_pos c' with h | h
    · subst h; omega
    · exact h
  have key : toR (s, n, d) + toR (t, m, c) = mkRat (sgi s n * c + sgi t m * d) (d * c) :=
    Rat.mkRat_add_mkRat _ _ (Nat.ne_of_gt d0) (Nat.ne_of_gt c0)
  rw [key]
  have cop : ∀ N', N' ∣ N → Nat.Coprime N' d' ∧ Nat.Coprime N' c' := fun N' hN' => by
    constructor
    · have a1 : Nat.gcd N' d' ∣ n * c' := hdN _ (Nat.dvd_trans (Nat.gcd_dvd_left _ _) hN') (Nat.dvd_trans (Nat.gcd_dvd_right _ _) (Nat.dvd_mul_left _ _))
      have a2 : Nat.gcd N' d' ∣ n := (hco.coprime_dvd_left (Nat.gcd_dvd_right _ _)).dvd_of_dvd_mul_right a1
      have a3 : Nat.gcd N' d' ∣ d := by rw [← hdd]; exact Nat.dvd_trans (Nat.gcd_dvd_right _ _) (Nat.dvd_mul_right _ _)
      have a4 := Nat.dvd_gcd a2 a3
      rw [hnd.gcd_eq_one] at a4
      exact Nat.dvd_one.1 a4
    · have a1 : Nat.gcd N' c' ∣ m * d' := hdN' _ (Nat.dvd_trans (Nat.gcd_dvd_left _ _) hN') (Nat.dvd_trans (Nat.gcd_dvd_right _ _) (Nat.dvd_mul_left _ _))
      have a2 : Nat.gcd N' c' ∣ m := (hco.symm.coprime_dvd_left (Nat.gcd_dvd_right _ _)).dvd_of_dvd_mul_right a1
      have a3 : Nat.gcd N' c' ∣ c := by rw [← hcc]; exact Nat.dvd_trans (Nat.gcd_dvd_right _ _) (Nat.dvd_mul_right _ _)
      have a4 := Nat.dvd_gcd a2 a3
      rw [hmc.gcd_eq_one] at a4
      exact Nat.dvd_one.1 a4
  by_cases hN0 : N = 0
  · subst hN0
    have e2 : sgi s n * (c : Int) + sgi t m * d = 0 := by
      have e3 : sgi s n * (c' : Int) + sgi t m * d' = 0 := by rw [← e1]; unfold sgi; cases S <;> simp
      rw [← hdd, ← hcc]
      push_cast
      grind
    rw [e2, Rat.zero_mkRat]
    simp only [Nat.zero_div, ne_eq, not_true_eq_false, decide_false, Bool.and_false, if_true]
    exact ⟨⟨by show 0 < 1; omega, Nat.coprime_one_right _, fun h => by simp at h⟩, by unfold toR; rw [show sgi false 0 = 0 from rfl, Rat.zero_mkRat]⟩
  · have hh0 : 0 < Nat.gcd N g := Nat.gcd_pos_of_pos_right _ hgp
    have hNN := Nat.div_mul_cancel (Nat.gcd_dvd_left N g)
    have hgg := Nat.div_mul_cancel (Nat.gcd_dvd_right N g)
    have hco2 := Nat.coprime_div_gcd_div_gcd hh0
    obtain ⟨k1, k2⟩ := cop (N / Nat.gcd N g) (Nat.div_dvd_of_dvd (Nat.gcd_dvd_left N g))
    rw [if_neg hN0]
    simp only [ne_eq, hN0, not_false_eq_true, decide_true, Bool.and_true]
    generalize Nat.gcd N g = h at *
    generalize N / h = N' at *
    generalize g / h = g' at *
    have g'0 : 0 < g' := by
      rcases Nat.eq_zero_or_pos g' with h | h
      · subst h; omega
      · exact h
    have N'0 : N' ≠ 0 := by rintro rfl; omega
    have hD : 0 < g' * d' * c' := Nat.mul_pos (Nat.mul_pos g'0 d'0) c'0
    refine ⟨⟨hD, (hco2.mul_right k1).mul_right k2, fun _ => N'0⟩, ?_⟩
    show mkRat (sgi S N') (g' * d' * c') = _
    rw [Rat.mkRat_eq_iff (Nat.ne_of_gt hD) (Nat.ne_of_gt (Nat.mul_pos d0 c0))]
    have e4 : sgi S N = sgi S N' * h := by rw [← hNN, sgi_mul]
    rw [e4] at e1
    rw [← hdd, ← hcc, ← hgg]
    push_cast
    grind

theorem sgi_times (s t : Bool) (n m : Nat) (x y : Bool) (hx : n ≠ 0 → x = true) (hy : m ≠ 0 → y = true) : sgi (((s && x) != (t && y)) && decide (n * m ≠ 0)) (n * m) = sgi s n * sgi t m := by
  by_cases hn : n = 0
  · subst hn; unfold sgi; cases s <;> cases t <;> simp
  · by_cases hm : m = 0
    · subst hm; unfold sgi; cases s <;> cases t <;> simp
    · rw [hx hn, hy hm]
      have : decide (n * m ≠ 0) = true := decide_eq_true (Nat.mul_ne_zero hn hm)
      rw [this]
      unfold sgi; cases s <;> cases t <;> simp [Int.neg_mul, Int.mul_neg]
theorem mulQ_spec {p q : Q3} (hp : Can p) (hq : Can q) : Can (mulQ p q) ∧ toR (mulQ p q) = toR p * toR q := by
  obtain ⟨s, n, d⟩ := p
  obtain ⟨t, m, c⟩ := q
  obtain ⟨d0, hnd, hs⟩ := hp
  obtain ⟨c0, hmc, ht⟩ := hq
  simp only at d0 hnd hs c0 hmc ht
  have h10 : 0 < Nat.gcd n c := Nat.gcd_pos_of_pos_right _ c0
  have h20 : 0 < Nat.gcd m d := Nat.gcd_pos_of_pos_right _ d0
  have hn := Nat.div_mul_cancel (Nat.gcd_dvd_left n c)
  have hc := Nat.div_mul_cancel (Nat.gcd_dvd_right n c)
  have hm := Nat.div_mul_cancel (Nat.gcd_dvd_left m d)
  have hd := Nat.div_mul_cancel (Nat.gcd_dvd_right m d)
  have k1 := Nat.coprime_div_gcd_div_gcd h10
  have k2 := Nat.coprime_div_gcd_div_gcd h20
  have k3 : Nat.Coprime (n / Nat.gcd n c) (d / Nat.gcd m d) := (hnd.coprime_div_left (Nat.gcd_dvd_left n c)).coprime_div_right (Nat.gcd_dvd_right m d)
  have k4 : Nat.Coprime (m / Nat.gcd m d) (c / Nat.gcd n c) := (hmc.coprime_div_left (Nat.gcd_dvd_left m d)).coprime_div_right (Nat.gcd_dvd_right n c)
  have key : toR (s, n, d) * toR (t, m, c) = mkRat (sgi s n * sgi t m) (d * c) := Rat.mkRat_mul_mkRat _ _ _ _
  rw [key]
  unfold mulQ
  simp only
  generalize Nat.gcd n c = g1 at *
  generalize Nat.gcd m d = g2 at *
  generalize n / g1 = n' at *
  generalize c / g1 = c' at *
  generalize m / g2 = m' at *
  generalize d / g2 = d' at *
  have c'0 : 0 < c' := by
    rcases Nat.eq_zero_or_pos c' with h | h
    · subst h; omega
    · exact h
  have d'0 : 0 < d' := by
    rcases Nat.eq_zero_or_pos d' with h | h
    · subst h; omega
    · exact h
  have hD : 0 < c' * d' := Nat.mul_pos c'0 d'0
  have hsg := sgi_times s t n' m' (decide (n ≠ 0)) (decide (m ≠ 0)) (fun h => by
    have : n ≠ 0 := by rintro rfl; rcases Nat.mul_eq_zero.1 hn with h' | h' <;> omega
    simp [this]) (fun h => by
    have : m ≠ 0 := by rintro rfl; rcases Nat.mul_eq_zero.1 hm with h' | h' <;> omega
    simp [this])
  refine ⟨⟨hD, (k1.mul_right k3).mul_left (k4.mul_right k2), fun h => ?_⟩, ?_⟩
  · simp only [Bool.and_eq_true, decide_eq_true_eq] at h
    exact h.2
  · show mkRat (sgi _ (n' * m')) (c' * d') = _
    rw [hsg, Rat.mkRat_eq_iff (Nat.ne_of_gt hD) (Nat.ne_of_gt (Nat.mul_pos d0 c0))]
    have e1 : sgi s n = sgi s n' * g1 := by rw [← hn, sgi_mul]
    have e2 : sgi t m = sgi t m' * g2 := by rw [← hm, sgi_mul]
    rw [e1, e2, ← hc, ← hd]
    push_cast
    grind
theorem negQ_spec {q : Q3} (hq : Can q) : Can (negQ q) ∧ toR (negQ q) = -toR q := by
  obtain ⟨t, m, c⟩ := q
  obtain ⟨c0, hmc, ht⟩ := hq
  simp only at c0 hmc ht
  unfold negQ
  refine ⟨⟨c0, hmc, fun h => ?_⟩, ?_⟩
  · simp only [Bool.and_eq_true, decide_eq_true_eq] at h
    exact h.2
  · show mkRat (sgi _ m) c = -mkRat (sgi t m) c
    rw [sgi_dec, Rat.neg_mkRat]
    congr 1
    unfold sgi; cases t <;> simp
theorem subQ_spec {p q : Q3} (hp : Can p) (hq : Can q) : Can (subQ p q) ∧ toR (subQ p q) = toR p - toR q := by
  obtain ⟨h1, h2⟩ := negQ_spec hq
  obtain ⟨h3, h4⟩ := addQ_spec hp h1
  exact ⟨h3, by unfold subQ; rw [h4, h2, Rat.sub_eq_add_neg]⟩
theorem invQ_spec {q : Q3} (hq : Can q) (h0 : q.2.1 ≠ 0) : Can (invQ q) ∧ toR (invQ q) = (toR q)⁻¹ := by
  obtain ⟨t, m, c⟩ := q
  obtain ⟨c0, hmc, ht⟩ := hq
  simp only at c0 hmc ht h0
  have m0 : 0 < m := Nat.pos_of_ne_zero h0
  refine ⟨⟨m0, hmc.symm, fun _ => Nat.ne_of_gt c0⟩, ?_⟩
  symm
  apply Rat.inv_eq_of_mul_eq_one
  show mkRat (sgi t m) c * mkRat (sgi t c) m = 1
  rw [Rat.mkRat_mul_mkRat]
  have e : sgi t m * sgi t c = ((c * m : Nat) : Int) := by unfold sgi; cases t <;> simp [Int.neg_mul_neg, Int.mul_comm]
  rw [e]
  have hne : c * m ≠ 0 := Nat.ne_of_gt (Nat.mul_pos c0 m0)
  have : mkRat ((c * m : Nat) : Int) (c * m) = mkRat 1 1 := by
    rw [Rat.mkRat_eq_iff hne (by omega)]; push_cast; grind
  rw [this]; rfl
theorem divQ_spec {p q : Q3} (hp : Can p) (hq : Can q) (h0 : q.2.1 ≠ 0) : Can (divQ p q) ∧ toR (divQ p q) = toR p / toR q := by
  obtain ⟨h1, h2⟩ := invQ_spec hq h0
  obtain ⟨h3, h4⟩ := mulQ_spec hp h1
  exact ⟨h3, by unfold divQ; rw [h4, h2, Rat.div_def]⟩
theorem toR_zero {q : Q3} (hq : Can q) : toR q = 0 ↔ q.2.1 = 0 := by
  unfold toR
  rw [Rat.mkRat_eq_zero (Nat.ne_of_gt hq.1)]
  unfold sgi; split <;> omega
theorem sgn_sign {s : Bool} {n : Nat} : sgn (s && decide (n ≠ 0)) n = (sgi s n).sign := by
  unfold sgn sgi
  by_cases h : n = 0
  · subst h; cases s <;> simp
  · cases s
    · simp [h, Int.sign_eq_one_of_pos (show 0 < (n : Int) by omega)]
    · simp [h, Int.sign_eq_one_of_pos (show 0 < (n : Int) by omega)]
theorem cmpQ_sign (p q : Q3) : cmpQ p q = (sgi p.1 p.2.1 * q.2.2 - sgi q.1 q.2.1 * p.2.2).sign := by
  unfold cmpQ
  rw [sgn_sign, add_int, sgi_dec, sgi_dec, sgi_mul, sgi_mul]
  congr 1
  have : sgi (!q.1) q.2.1 = -sgi q.1 q.2.1 := by unfold sgi; cases q.1 <;> simp
  rw [this, Int.neg_mul]; omega
theorem cmpQ_lt {p q : Q3} (hp : Can p) (hq : Can q) : cmpQ p q < 0 ↔ toR p < toR q := by
  rw [cmpQ_sign, Rat.lt_iff, toR_num hp, toR_num hq, toR_den hp, toR_den hq, Int.sign_neg_iff]
  omega
theorem cmpQ_gt {p q : Q3} (hp : Can p) (hq : Can q) : 0 < cmpQ p q ↔ toR q < toR p := by
  rw [cmpQ_sign, Rat.lt_iff, toR_num hp, toR_num hq, toR_den hp, toR_den hq, Int.sign_pos_iff]
  omega
theorem cmpQ_eq {p q : Q3} (hp : Can p) (hq : Can q) : cmpQ p q = 0 ↔ toR p = toR q := by
  rw [cmpQ_sign, Rat.eq_iff_mul_eq_mul, toR_num hp, toR_num hq, toR_den hp, toR_den hq, Int.sign_eq_zero_iff_zero]
  omega
theorem cmpQ_three (p q : Q3) : cmpQ p q = -1 ∨ cmpQ p q = 0 ∨ cmpQ p q = 1 := by
  rw [cmpQ_sign]
  rcases Int.lt_trichotomy (sgi p.1 p.2.1 * q.2.2 - sgi q.1 q.2.1 * p.2.2) 0 with h | h | h
  · left; exact Int.sign_eq_neg_one_of_neg h
  · right; left; rw [h]; rfl
  · right; right; exact Int.sign_eq_one_of_pos h
end Go.Proofs.YtegobakoflbnfaaGreatDoor.QA

namespace Go.Proofs.YtegobakoflbnfaaGreatDoor.QA

theorem digit_ne {c : UInt8} (h : isD c = true) : (c != 47) = true := by
  rw [bne_iff_ne]
  rintro rfl
  revert h; decide
theorem decT_while (n : Nat) (l : List UInt8) (hl : l.head? = none ∨ l.head? = some 47) : (decT n ++ l).takeWhile (· != 47) = decT n ∧ (decT n ++ l).dropWhile (· != 47) = l := by
  have h := decT_all n
  generalize decT n = m at *
  induction m with
  | nil =>
    cases l with
    | nil => simp
    | cons c l =>
      have : c = 47 := by simpa using hl
      subst this; simp
  | cons c m ih =>
    rw [List.all_cons, Bool.and_eq_true] at h
    have h1 := digit_ne h.1
    have h2 := ih h.2
    simp only [List.cons_append, List.takeWhile_cons, List.dropWhile_cons, h1, if_true]
    exact ⟨by rw [h2.1], h2.2⟩
theorem readR_text {s : Bool} {n d : Nat} (hd : 0 < d) (hg : Nat.Coprime n d) (hs : s = true → n ≠ 0) (h1 : Dig n ≤ 300) (h2 : Dig d ≤ 300) : readR s (decT n ++ (if d = 1 then [] else 47 :: decT d)) = some (s, n, d) := by
  have hw := decT_while n (if d = 1 then [] else 47 :: decT d) (by split <;> simp)
  unfold readR
  rw [hw.1, hw.2, goodD_decT h1, decT_val]
  have e : (!(s && decide (n = 0))) = true := by
    cases s
    · rfl
    · simp [hs rfl]
  rw [e, if_pos (show (true && true) = true from rfl)]
  by_cases h : d = 1
  · rw [if_pos h]; simp only; rw [h]
  · rw [if_neg h]
    simp only
    rw [goodD_decT h2, decT_val]
    have e1 : decide (d = 0) = false := by simp; omega
    have e2 : decide (d = 1) = false := by simp [h]
    have e3 : decide (Nat.gcd n d = 1) = true := by simp [hg.gcd_eq_one]
    rw [e1, e2, e3]; rfl
theorem readQ_text {q : Q3} (hc : Can q) (hf : fitQ q.2.1 q.2.2 = true) : readQ (ratText q.1 q.2.1 q.2.2) = some q := by
  obtain ⟨s, n, d⟩ := q
  obtain ⟨hd, hg, hs⟩ := hc
  simp only at hd hg hs hf ⊢
  have hfd := of_decide_eq_true hf
  have h := readR_text hd hg hs hfd.1 hfd.2
  unfold readQ ratText
  cases s
  · have hh : ((if (false = true) then [45] else []) ++ decT n ++ (if d = 1 then [] else 47 :: decT d)).head? ≠ some 45 := by
      have hne := decT_ne n
      have ha := decT_all n
      cases hx : decT n with
      | nil => exact absurd hx hne
      | cons c m =>
        rw [hx, List.all_cons, Bool.and_eq_true] at ha
        simp
        rintro rfl
        have := ha.1
        revert this; decide
    rw [if_neg hh]
    simpa using h
  · have hh : ((if (true = true) then [45] else []) ++ decT n ++ (if d = 1 then [] else 47 :: decT d)).head? = some (45 : UInt8) := by simp
    rw [if_pos hh]
    simpa using h

/-- the text is the number x -/
def IsV (a : ByteArray) (x : Rat) : Prop := ∃ q, readQ a.data.toList = some q ∧ toR q = x
theorem IsV.inj {a b : ByteArray} {x : Rat} (h : IsV a x) (k : IsV b x) : a = b := by
  obtain ⟨p, hp, rfl⟩ := h
  obtain ⟨q, hq, e⟩ := k
  have := toR_inj (readQ_can hq) (readQ_can hp) e
  subst this
  have e1 := (readQ_q hp).2.2.2.2.2
  have e2 := (readQ_q hq).2.2.2.2.2
  have e3 : a.data.toList = b.data.toList := by rw [e1, e2]
  have e4 : a.data = b.data := Array.toList_inj.1 e3
  cases a; cases b; simp only at e4; rw [e4]
theorem IsV.val {a : ByteArray} {x y : Rat} (h : IsV a x) (k : IsV a y) : x = y := by
  obtain ⟨p, hp, rfl⟩ := h
  obtain ⟨q, hq, rfl⟩ := k
  rw [hp] at hq; cases hq; rfl
theorem out3_isV {q : Q3} (hc : Can q) (h : (out3 q).2 = 0) : IsV (out3 q).1 (toR q) := by
  unfold out3 at h ⊢
  cases hf : fitQ q.2.1 q.2.2
  · rw [outQ_long hf] at h; cases h
  · rw [outQ_fit hf]
    exact ⟨q, readQ_text hc hf, rfl⟩
theorem isV_of {a : ByteArray} (h : (readQ a.data.toList).isSome = true) : ∃ x, IsV a x := by
  cases hq : readQ a.data.toList with
  | none => rw [hq] at h; cases h
  | some q => exact ⟨toR q, q, hq, rfl⟩
theorem addT_isV {a b : ByteArray} {x y : Rat} (ha : IsV a x) (hb : IsV b y) (h : (addT a b).2 = 0) : IsV (addT a b).1 (x + y) := by
  obtain ⟨p, hp, rfl⟩ := ha
  obtain ⟨q, hq, rfl⟩ := hb
  have e : addT a b = out3 (addQ p q) := by unfold addT two; rw [hp, hq]
  obtain ⟨h1, h2⟩ := addQ_spec (readQ_can hp) (readQ_can hq)
  rw [e] at h ⊢
  rw [← h2]; exact out3_isV h1 h
theorem mulT_isV {a b : ByteArray} {x y : Rat} (ha : IsV a x) (hb : IsV b y) (h : (mulT a b).2 = 0) : IsV (mulT a b).1 (x * y) := by
  obtain ⟨p, hp, rfl⟩ := ha
  obtain ⟨q, hq, rfl⟩ := hb
  have e : mulT a b = out3 (mulQ p q) := by unfold mulT two; rw [hp, hq]
  obtain ⟨h1, h2⟩ := mulQ_spec (readQ_can hp) (readQ_can hq)
  rw [e] at h ⊢
  rw [← h2]; exact out3_isV h1 h
theorem subT_isV {a b : ByteArray} {x y : Rat} (ha : IsV a x) (hb : IsV b y) (h : (subT a b).2 = 0) : IsV (subT a b).1 (x - y) := by
  obtain ⟨p, hp, rfl⟩ := ha
  obtain ⟨q, hq, rfl⟩ := hb
  have e : subT a b = out3 (subQ p q) := by unfold subT two; rw [hp, hq]
  obtain ⟨h1, h2⟩ := subQ_spec (readQ_can hp) (readQ_can hq)
  rw [e] at h ⊢
  rw [← h2]; exact out3_isV h1 h
theorem out3_code (q : Q3) : (out3 q).2 = 0 ∨ (out3 q).2 = 2 := by
  unfold out3
  cases hf : fitQ q.2.1 q.2.2
  · rw [outQ_long hf]; right; rfl
  · rw [outQ_fit hf]; left; rfl
theorem divT_isV {a b : ByteArray} {x y : Rat} (ha : IsV a x) (hb : IsV b y) : ((divT a b).2 = 12 ↔ y = 0) ∧ ((divT a b).2 = 0 → IsV (divT a b).1 (x / y) ∧ y ≠ 0) := by
  obtain ⟨p, hp, rfl⟩ := ha
  obtain ⟨q, hq, rfl⟩ := hb
  have cq := readQ_can hq
  have e : divT a b = divF p q := by unfold divT twoG; rw [hp, hq]
  rw [e]
  unfold divF
  have hz : signQ q = 0 ↔ toR q = 0 := by rw [toR_zero cq]; exact sgn_zero cq.2.2
  by_cases h : signQ q = 0
  · rw [if_pos h]
    exact ⟨⟨fun _ => hz.1 h, fun _ => rfl⟩, fun h => by cases h⟩
  · rw [if_neg h]
    have hn : toR q ≠ 0 := fun h' => h (hz.2 h')
    obtain ⟨h1, h2⟩ := divQ_spec (readQ_can hp) cq (fun h' => hn ((toR_zero cq).2 h'))
    refine ⟨⟨fun h3 => ?_, fun h3 => absurd h3 hn⟩, fun h3 => ⟨?_, hn⟩⟩
    · rcases out3_code (divQ p q) with h4 | h4 <;> omega
    · rw [← h2]; exact out3_isV h1 h3
theorem addT_comm {a b : ByteArray} {x y : Rat} (ha : IsV a x) (hb : IsV b y) : addT a b = addT b a := by
  obtain ⟨p, hp, rfl⟩ := ha
  obtain ⟨q, hq, rfl⟩ := hb
  unfold addT two
  rw [hp, hq]
  obtain ⟨h1, h2⟩ := addQ_spec (readQ_can hp) (readQ_can hq)
  obtain ⟨h3, h4⟩ := addQ_spec (readQ_can hq) (readQ_can hp)
  have : addQ p q = addQ q p := toR_inj h1 h3 (by rw [h2, h4, Rat.add_comm])
  show out3 (addQ p q) = out3 (addQ q p)
  rw [this]
theorem mulT_comm {a b : ByteArray} {x y : Rat} (ha : IsV a x) (hb : IsV b y) : mulT a b = mulT b a := by
  obtain ⟨p, hp, rfl⟩ := ha
  obtain ⟨q, hq, rfl⟩ := hb
  unfold mulT two
  rw [hp, hq]
  obtain ⟨h1, h2⟩ := mulQ_spec (readQ_can hp) (readQ_can hq)
  obtain ⟨h3, h4⟩ := mulQ_spec (readQ_can hq) (readQ_can hp)
  have : mulQ p q = mulQ q p := toR_inj h1 h3 (by rw [h2, h4, Rat.mul_comm])
  show out3 (mulQ p q) = out3 (mulQ q p)
  rw [this]
theorem signT_isV {a : ByteArray} {x : Rat} (ha : IsV a x) : (signT a).1 = 0 ↔ x = 0 := by
  obtain ⟨p, hp, rfl⟩ := ha
  have cp := readQ_can hp
  unfold signT oneG
  rw [hp]
  show signQ p = 0 ↔ _
  rw [toR_zero cp]; exact sgn_zero cp.2.2
/-- every result's text is short -/
theorem out3_size (q : Q3) : (out3 q).1.size ≤ 1000 := by
  unfold out3
  cases hf : fitQ q.2.1 q.2.2
  · rw [outQ_long hf]; decide
  · rw [outQ_fit hf]
    have hfd := of_decide_eq_true hf
    show (ratText q.1 q.2.1 q.2.2).toArray.size ≤ 1000
    have h1 := decT_len q.2.1
    have h2 := decT_len q.2.2
    rw [List.size_toArray]
    unfold ratText
    simp only [List.length_append]
    have e1 : (if q.1 = true then [(45 : UInt8)] else []).length ≤ 1 := by split <;> simp
    have e2 : (if q.2.2 = 1 then [] else (47 : UInt8) :: decT q.2.2).length ≤ 301 := by
      split
      · simp
      · rw [List.length_cons, h2]; omega
    omega
theorem two_size {f : Q3 → Q3 → Q3} (a b : ByteArray) : (two (fun p q => out3 (f p q)) a b).1.size ≤ 1000 := by
  unfold two
  split
  · exact out3_size _
  · decide
theorem addT_size (a b : ByteArray) : (addT a b).1.size ≤ 1000 := two_size a b
theorem mulT_size (a b : ByteArray) : (mulT a b).1.size ≤ 1000 := two_size a b
theorem subT_size (a b : ByteArray) : (subT a b).1.size ≤ 1000 := two_size a b
theorem divT_size (a b : ByteArray) : (divT a b).1.size ≤ 1000 := by
  unfold divT twoG
  split
  · unfold divF; split
    · decide
    · exact out3_size _
  · decide
end Go.Proofs.YtegobakoflbnfaaGreatDoor.QA


