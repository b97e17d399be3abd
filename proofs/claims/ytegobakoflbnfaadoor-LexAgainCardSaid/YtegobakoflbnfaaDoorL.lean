/- gap: how many bytes at a text's beginning are between tokens. -/
import Derived.Test.YtegobakoflbnfaaDoorJ
namespace Go.Proofs.YtegobakoflbnfaaDoor
open Go Go.RowKit

def wsC : List Int := [2, 1]
def lineLen (t : List UInt8) : Nat := (Lib.cut t [10]).1.length
def tailG : Nat → List UInt8 → Nat
  | 0, _ => 0
  | f + 1, t => if Lib.hasPrefix t [47, 47] then lineLen t + pre (inC wsC) (t.drop (lineLen t)) + tailG f (t.drop (lineLen t + pre (inC wsC) (t.drop (lineLen t)))) else 0
def gapT (s : List UInt8) : Nat := pre (inC wsC) s + tailG (s.length + 1) (s.drop (pre (inC wsC) s))
/-- the library's variable that a search reads -/
def MaxL (w : World) : Prop := ∃ m, w.cell? ⟨2, 0, none⟩ = some (.int .i64 m)
theorem MaxL.go {w w' : World} (h : MaxL w) (hb : Below w.heap.size w w') : MaxL w' := by
  obtain ⟨m, h⟩ := h
  exact ⟨m, (hb.cell (World.block_lt_of_cell? w _ h)).trans h⟩
theorem below_drewN (B : Nat) (w : World) (n : Nat) : Below B w (w.drewN n) := ⟨rfl, rfl, rfl, Nat.le_refl _, fun _ _ => rfl⟩
theorem wadd {a b : Nat} (h : a + b ≤ 140737488355328) : wrap64 ((a : Int) + (b : Int)) = ((a + b : Nat) : Int) := by unfold wrap64; omega
theorem line_le (t : List UInt8) : lineLen t ≤ t.length := by
  unfold lineLen Lib.cut
  split
  · simp; omega
  · exact Nat.le_refl _
theorem line_two {t : List UInt8} (h : Lib.hasPrefix t [47, 47] = true) : 2 ≤ lineLen t := by
  unfold Lib.hasPrefix at h
  obtain ⟨u, hu⟩ := List.isPrefixOf_iff_prefix.1 h
  subst hu
  unfold lineLen Lib.cut
  split
  · rename_i hi
    have hroom := Lib.index_room ([47, 47] ++ u) [10] hi
    rw [Lib.index_one] at hi ⊢
    rw [Lib.index_one] at hroom
    obtain ⟨o, ho⟩ : ∃ o : Nat, Lib.indexByte ([47, 47] ++ u) 10 = o := ⟨(Lib.indexByte ([47, 47] ++ u) 10).toNat, by omega⟩
    obtain ⟨h1, -⟩ := Lib.indexByte_some ho
    rw [ho, List.length_take]
    have : o ≠ 0 := by rintro rfl; simp at h1
    have : o ≠ 1 := by rintro rfl; simp at h1
    rw [ho] at hroom
    simp only [List.length_append, List.length_cons, List.length_nil] at hroom ⊢
    simp
    omega
  · simp
theorem tail_step {f : Nat} {t : List UInt8} (h : Lib.hasPrefix t [47, 47] = true) : tailG (f + 1) t = lineLen t + pre (inC wsC) (t.drop (lineLen t)) + tailG f (t.drop (lineLen t + pre (inC wsC) (t.drop (lineLen t)))) := by
  rw [tailG, if_pos h]
theorem tail_end {f : Nat} {t : List UInt8} (h : Lib.hasPrefix t [47, 47] = false) : tailG f t = 0 := by
  cases f with
  | zero => rfl
  | succ f => rw [tailG, h]; rfl

set_option maxHeartbeats 4000000 in
set_option maxRecDepth 100000 in
theorem gap_any (w : World) (s : ByteArray) (hs : s.size ≤ 140737488355328) (hs2 : s.size < 4294967281) (hm : MaxL w) : Calls Tryd.prog 27 #[.string s] w fun e w' => e = .returned (.int .i64 (gapT s.data.toList : Nat)) ∧ Below w.heap.size w w' := by
  have CW : ∀ W : World, Cls (W.alloc (.cells #[.int .i64 2, .int .i64 1] 63)) (.slice (some ⟨W.heap.size, 0, none⟩) 2 2) wsC := fun W => cls_new W wsC 63
  have RN : Hid (∀ (W : World) (t : ByteArray), Calls Tryd.prog 34 #[.string t, .slice (some ⟨W.heap.size, 0, none⟩) 2 2] (W.alloc (.cells #[.int .i64 2, .int .i64 1] 63)) fun e w' => e = .returned (.int .i64 (pre (inC wsC) t.data.toList : Nat)) ∧ Below W.heap.size W w') := fun W t => by
    refine (run_any (CW W) (by decide) (by decide) t).mono ?_
    rintro e w' ⟨rfl, hb⟩
    exact ⟨rfl, bstep (below_alloc W _) hb⟩
  have HP := Lib.hid (fun W t => Tryd.strings_HasPrefix t ⟨#[47, 47]⟩ W)
  have CT : Hid (∀ (W : World) (t : ByteArray), Below w.heap.size w W → t.size < 4294967281 → Calls Tryd.prog 36 #[.string t, .string ⟨#[10]⟩] W fun e w' => e = .returned (.tuple #[.string ⟨(Lib.cut t.data.toList [10]).1.toArray⟩, .string ⟨(Lib.cut t.data.toList [10]).2.1.toArray⟩, .bool (Lib.cut t.data.toList [10]).2.2]) ∧ Below W.heap.size W w') := fun W t hb ht => by
    obtain ⟨m, hm'⟩ := hm.go hb
    refine (Tryd.strings_Cut t ⟨#[10]⟩ m W ht hm').mono ?_
    rintro e w' ⟨rfl, n, rfl⟩
    exact ⟨rfl, below_drewN _ _ n⟩
  obtain ⟨G, hG⟩ : ∃ G, G = gapT s.data.toList := ⟨_, rfl⟩
  rw [← hG]
  unfold gapT at hG
  obtain ⟨n0, hn0⟩ : ∃ n0, n0 = pre (inC wsC) s.data.toList := ⟨_, rfl⟩
  have hle := pre_le (inC wsC) s.data.toList
  rw [Array.length_toList] at hle
  rw [← hn0] at hG hle
  have HG := Lib.hid hG
  have HN0 := Lib.hid hn0
  have HLE : Hid (n0 ≤ s.size) := hle
  have HS2 := Lib.hid hs2
  clear CW hG hn0 hle hs2 hm
  go_enter Tryd.func27, Tryd.ntmps27
  go_wp2_with fail
  refine (RN.out _ s).mono ?_; rintro e w2 ⟨rfl, hb⟩
  rw [← HN0.out]
  have HB := Lib.hid hb; clear hb
  go_wp2_with fail
  go_loopw [3] (fun v3 wr => ∃ n f : Nat, v3 = .int .i64 (n : Int) ∧ n ≤ s.size ∧ s.size - n < f ∧ Hid (G = n + tailG f (s.data.toList.drop n)) ∧ Hid (Below w.heap.size w wr)) (fun v3 _ => s.size - (intOf v3).toNat)
  case atStart => exact ⟨n0, s.data.toList.length + 1, rfl, HLE.out, by have : s.data.toList.length = s.size := Array.length_toList; omega, HG.out, HB⟩
  case round =>
    clear HB HG HN0 HLE
    obtain ⟨n, f, rfl, hn, hf, HGn, HBn⟩ := hrel
    obtain ⟨t, ht⟩ : ∃ t, t = s.extract n s.size := ⟨_, rfl⟩
    have htl : t.data.toList = s.data.toList.drop n := by rw [ht]; exact toList_from _ _
    have hts : t.size = s.size - n := by rw [ht]; simp [ByteArray.size_extract]
    have HT := Lib.hid ht; have HTL := Lib.hid htl
    cases hp : Lib.hasPrefix t.data.toList [47, 47]
    · have HGE : Hid (G = n) := by show _ = _; rw [HGn.out, ← htl, tail_end hp, Nat.add_zero]
      have HPI := Lib.hid (HP.out wr t)
      rw [hp] at HPI
      clear hp htl hts hf
      rw [ht] at HPI
      clear ht
      go_wp2_with fail
      refine HPI.out.mono ?_; rintro e w3 ⟨rfl, rfl⟩
      go_wp2_with fail
      go_ret
      exact ⟨by rw [HGE.out]; rfl, HBn.out⟩
    · obtain ⟨g, rfl⟩ : ∃ g, f = g + 1 := ⟨f - 1, by omega⟩
      have HPI := Lib.hid (HP.out wr t)
      rw [hp] at HPI
      have h2 := line_two hp
      have hl := line_le t.data.toList
      have htn : t.data.toList.length = t.size := Array.length_toList
      obtain ⟨a, ha⟩ : ∃ a, a = lineLen t.data.toList := ⟨_, rfl⟩
      obtain ⟨b, hb⟩ : ∃ b, b = pre (inC wsC) (t.data.toList.drop a) := ⟨_, rfl⟩
      have hbl := pre_le (inC wsC) (t.data.toList.drop a)
      rw [List.length_drop] at hbl
      have hst := tail_step (f := g) hp
      rw [← ha, ← hb] at hst
      have hdd : t.data.toList.drop a = s.data.toList.drop (n + a) := by rw [htl, List.drop_drop]
      have hdd2 : t.data.toList.drop (a + b) = s.data.toList.drop (n + a + b) := by rw [htl, List.drop_drop, Nat.add_assoc]
      have HGN : Hid (G = n + a + b + tailG g (s.data.toList.drop (n + a + b))) := by
        show _ = _
        rw [HGn.out, ← htl, hst, hdd2]; omega
      rw [← ha] at h2 hl
      rw [← hb] at hbl
      have hnab : n + a + b ≤ s.size := by omega
      have hna : n + a ≤ s.size := by omega
      have HF : Hid (s.size - (n + a + b) < g ∧ s.size - (n + a + b) < s.size - n) := ⟨by omega, by omega⟩
      have CT2 := Lib.hid (CT.out wr t HBn.out (by have := HS2.out; omega))
      obtain ⟨c1, hc1⟩ : ∃ c : ByteArray, c = ⟨(Lib.cut t.data.toList [10]).1.toArray⟩ := ⟨_, rfl⟩
      have hcs : c1.size = a := by rw [hc1, ha]; unfold lineLen; simp [ByteArray.size]
      rw [← hc1] at CT2
      have HCS := Lib.hid hcs
      have hw1 : wrap64 ((n : Int) + (c1.size : Int)) = ((n + a : Nat) : Int) := by rw [hcs]; exact wadd (Nat.le_trans hna hs)
      have hw2 : wrap64 (((n + a : Nat) : Int) + (b : Int)) = ((n + a + b : Nat) : Int) := wadd (Nat.le_trans hnab hs)
      have HW2 := Lib.hid hw2; clear hw2
      have RB : Hid (∀ W, Calls Tryd.prog 34 #[.string (s.extract (n + a) s.size), .slice (some ⟨W.heap.size, 0, none⟩) 2 2] (W.alloc (.cells #[.int .i64 2, .int .i64 1] 63)) fun e w' => e = .returned (.int .i64 (b : Int)) ∧ Below W.heap.size W w') := fun W => by
        have := RN.out W (s.extract (n + a) s.size)
        rw [toList_from, ← hdd, ← hb] at this
        exact this
      rw [ht] at HPI CT2
      clear hp htl hts hf ht h2 hl htn ha hb hbl hst hdd hdd2 hc1 hcs
      go_wp2_with fail
      refine HPI.out.mono ?_; rintro e w3 ⟨rfl, rfl⟩
      go_wp2_with fail
      refine CT2.out.mono ?_; rintro e w4 ⟨rfl, hb4⟩
      have HB4 := Lib.hid hb4; clear hb4
      go_wp2_with fail
      refine (RB.out _).mono ?_; rintro e w5 ⟨rfl, hb5⟩
      have HB5 : Hid (Below w.heap.size w w5) := bstep (bstep HBn.out HB4.out) hb5
      clear hb5 HB4
      go_wp2_with fail
      go_roundw
      case rel => exact ⟨n + a + b, g, congrArg (Value.int .i64) (by omega), hnab, HF.out.1, HGN, HB5⟩
      case measure => have := HF.out.2; simp [intOf]; omega
end Go.Proofs.YtegobakoflbnfaaDoor
