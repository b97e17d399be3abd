/- strings.IndexRune and ContainsRune of an ASCII text at a rune beyond ASCII; classOf. strings.ContainsRune of the symbols' bytes; classOf. run: how many bytes at a text's beginning are of some classes. isKeyword; what a box that holds a token says; word. word, quoted: what they read. quoted, symbol: what they read. symbol: what it reads. power, divisor. strconv.FormatUint to base 10. The mathematics of math/bits.Div64: two digits of the quotient, each guessed and put right. -/
import Derived.Test.YtegobakoflbnfaaGreatDoorGa
import Derived.Test.YtegobakoflbnfaaGreatDoorS
import Derived.Lib.IndexLaws
import Derived.WalkMore
import Derived.ScopeJumps
import Derived.Laws.DeepStrings4
import Derived.Lib.ItoaMem
import Derived.Lib.AppendIntMem
import Derived.Lib.Walk
import Derived.BigCall
import Derived.BigGuard
import Derived.Laws.BitsLemmas
import Derived.Lib.EndianBits
namespace Go.Proofs.YtegobakoflbnfaaGreatDoor
open Go Go.RowKit

theorem indexByte_not : ∀ (l : List UInt8) (c : UInt8), c ∉ l → Lib.indexByte l c = -1
  | [], _, _ => rfl
  | b :: l, c, h => by
    have h1 : (b == c) = false := by rw [beq_eq_false_iff_ne]; intro e; exact h (by simp [e])
    have h2 := indexByte_not l c (fun hm => h (by simp [hm]))
    unfold Lib.indexByte
    rw [h1, h2]; rfl
theorem bel_iter {B : Nat} {a w : World} (h : Below B a w) {k : Nat} (hk : B ≤ k) (s : ByteArray) (pos : Nat) : Below B a (w.iterAt k s pos) := Lib.below_iterAt h hk s pos

set_option maxHeartbeats 4000000 in
set_option maxRecDepth 100000 in
theorem index_rune_err {s : ByteArray} (hs : ∀ i (h : i < s.size), s[i].toNat < 128) (w : World) : Calls Tryz.prog 69 #[.string s, .int .i32 65533] w fun e w' => e = .returned (.int .i64 (-1)) ∧ Below w.heap.size w w' := by
  have HS := Lib.hid hs; clear hs
  go_enter Tryz.func69, Tryz.ntmps69
  go_wp2_with fail
  go_loopg [] s.size (fun gf wx => ∃ pos : Nat, wx.heap[w.heap.size]? = some (.stringIter s pos) ∧ Below w.heap.size w wx ∧ s.size ≤ pos + gf)
  case atStart => exact ⟨0, World.iter_heap w s 0, (Below.refl _ w).alloc (Nat.le_refl _) _, by omega⟩
  case round =>
    obtain ⟨pos, hit, hbw, hfu⟩ := hrel
    by_cases hps : pos < s.size
    · obtain ⟨g', rfl⟩ : ∃ g', gk = g' + 1 := ⟨gk - 1, by omega⟩
      have hnx : ∀ ty, (Instr.next (.pointer (some ⟨w.heap.size, 0, none⟩)) true ty).run Tryz.prog wr = _ := fun ty => Lib.run_next_any_at wr w.heap.size s pos ty hit hps
      have hd := decode_ascii s pos hps (HS.out pos hps)
      have hlt := HS.out pos hps
      rw [hd] at hnx
      have hne : (((s[pos].toNat : Nat) : Int) == 65533) = false := by rw [beq_eq_false_iff_ne]; omega
      have hit2 := Lib.iterAt_heap wr w.heap.size s pos (pos + 1) hit
      have hbw2 := Lib.below_iterAt hbw (k := w.heap.size) (Nat.le_refl _) s (pos + 1)
      obtain ⟨W, hWd⟩ : ∃ W, wr.iterAt w.heap.size s (pos + 1) = W := ⟨_, rfl⟩
      rw [hWd] at hnx hit2 hbw2
      generalize s[pos].toNat = x at *
      clear hd
      go_wp2_with fail
      go_roundg g'
      case measure => omega
      case rel => exact ⟨pos + 1, hit2, hbw2, by omega⟩
    · have hnx : ∀ ty, (Instr.next (.pointer (some ⟨w.heap.size, 0, none⟩)) true ty).run Tryz.prog wr = _ := fun ty => Lib.run_next_end_at wr w.heap.size s pos ty hit hps
      go_wp2_with fail
      go_ret
      exact ⟨rfl, hbw⟩

set_option maxHeartbeats 4000000 in
set_option maxRecDepth 100000 in
theorem index_rune_high {s : ByteArray} (hs : ∀ b ∈ s.data.toList, b.toNat < 128) (h1 : 4 ≤ s.size) (h2 : s.size ≤ 1000) (w : World) (r : Int) (hr : 128 ≤ r) (hne : r ≠ 65533) : Calls Tryz.prog 69 #[.string s, .int .i32 r] w fun e w' => e = .returned (.int .i64 (-1)) ∧ Below w.heap.size w w' := by
  have VR := Lib.hid (Tryz.utf8_ValidRune r)
  have t1 : decide (0 ≤ r) = true := decide_eq_true (by omega)
  have t2 : decide (r < 128) = false := decide_eq_false (by omega)
  have t3 : (r == 65533) = false := by rw [beq_eq_false_iff_ne]; exact hne
  cases hv : Lib.validRune r
  · rw [hv] at VR
    clear hs h1 h2 hr hne hv
    go_enter Tryz.func69, Tryz.ntmps69
    go_wp2_with fail
    refine (VR.out _).mono ?_; rintro e w1 ⟨rfl, rfl⟩
    go_wp2_with fail
    go_ret
    exact ⟨rfl, Below.refl _ _⟩
  · rw [hv] at VR
    have hvv : Utf8.valid r = true := by rw [validRune_eq]; exact hv
    obtain ⟨e1, e2, e3⟩ := encode_facts r hvv hr
    obtain ⟨E, hE⟩ : ∃ E, Utf8.encode r = E := ⟨_, rfl⟩
    rw [hE] at e1 e2 e3
    obtain ⟨k, hk⟩ : ∃ k, E.size = k + 1 := ⟨E.size - 1, by omega⟩
    have hk1 : k < E.size := by omega
    have hk2 : k < s.size := by omega
    have hx : 128 ≤ E[k].toNat := by
      have h9 := e3 (by omega)
      have e9 : E.size - 1 = k := by omega
      simpa [e9] using h9
    have hy : s[k].toNat < 128 := hs _ (by show s.data[k]'hk2 ∈ s.data.toList; simp)
    have hsub : wrap64 ((E.size : Int) - 1) = (k : Int) := by rw [hk]; unfold wrap64; omega
    have hadd : wrap64 ((k : Int) + 1) = ((k + 1 : Nat) : Int) := wnat (by omega)
    have hadd2 : IntKind.i64.wrap ((k : Int) + 1) = ((k + 1 : Nat) : Int) := by rw [wrap_small _ (by omega) (by omega)]; omega
    have hsl : 0 ≤ (k : Int) + 1 ∧ (k : Int) + 1 ≤ (s.size : Int) := by omega
    have hnx : ((s[k].toNat : Int) != (E[k].toNat : Int)) = true := by rw [bne_iff_ne]; omega
    have IB : Hid (∀ W, Calls Tryz.prog 98 #[.string (s.extract (k + 1) s.size), .int .u8 (E[k].toNat : Int)] W fun e w' => e = .returned (.int .i64 (-1)) ∧ w' = W) := fun W => by
      have h9 := Tryz.strings_IndexByte (s.extract (k + 1) s.size) (E[k].toNat : Int) W
      have h8 : Lib.indexByte (s.extract (k + 1) s.size).data.toList ((E[k].toNat : Int).toNat.toUInt8) = -1 := indexByte_not _ _ (fun hm => by
        have h7 := hs _ (mem_extract hm)
        have h6 : ((E[k].toNat : Int).toNat.toUInt8).toNat = E[k].toNat := by simp
        omega)
      rwa [h8] at h9
    have hk3 : k + 1 ≤ s.size := by omega
    have hcv : ∀ w, (convert 21 9 (.int .i32 r)).run Tryz.prog w = .ok (.string E) w := fun w => by rw [run_convert_int_string w 21 9 .i32 r (by rw [Tryz.underlying21]; rfl) Tryz.underlying9, hE]
    clear hs h1 h2 hr hne hv e1 e2 e3 hvv hk hx hy
    go_enter Tryz.func69, Tryz.ntmps69
    go_wp2_with fail
    refine (VR.out _).mono ?_; rintro e w1 ⟨rfl, rfl⟩
    go_wp2_with fail
    go_step3
    go_wp2_with fail
    go_loopw [9] (fun v9 wr => v9 = .int .i64 (k : Int) ∧ wr = w1) (fun _ _ => 0)
    case atStart => exact ⟨congrArg (Value.int .i64) hsub, rfl⟩
    case round =>
      obtain ⟨rfl, rfl⟩ := hrel
      go_wp2_with fail
      go_step3
      go_wp2_with fail
      rw [hsub]
      refine region_inv 6 187 [(27, Is (.string s)), (28, Is (.int .i64 (k : Int))), (29, Is (.int .u8 (s[k].toNat : Int))), (30, Is (.string E)), (31, Is (.int .i64 (k : Int))), (32, Is (.int .u8 (E[k].toNat : Int)))] (by kernel_rfl) rfl (by kernel_rfl) ?_ ?_
      · refine steps_cons rfl (fun A_ W hb hr hg K hK => ?_) <| steps_cons rfl (fun A_ W hb hr hg K hK => ?_) <| steps_cons rfl (fun A_ W hb hr hg K hK => ?_) <| steps_cons rfl (fun A_ W hb hr hg K hK => ?_) <| steps_cons rfl (fun A_ W hb hr hg K hK => ?_) <| steps_cons rfl (fun A_ W hb hr hg K hK => ?_) trivial
        · have e0 : A_.tmps[0]?.getD undef = .string s := hb 0 (by kernel_rfl)
          clear hb hr; go_simp; exact hK _ _ (Below.refl _ _) rfl
        · have e0 : A_.tmps[9]?.getD undef = .int .i64 (k : Int) := hb 9 (by kernel_rfl)
          clear hb hr; go_simp; exact hK _ _ (Below.refl _ _) rfl
        · have e0 : A_.tmps[27]?.getD undef = .string s := hr 27 (by kernel_rfl)
          have e1 : A_.tmps[28]?.getD undef = .int .i64 (k : Int) := hr 28 (by kernel_rfl)
          clear hb hr; go_simp; exact hK _ _ (Below.refl _ _) rfl
        · have e0 : A_.tmps[7]?.getD undef = .string E := hb 7 (by kernel_rfl)
          clear hb hr; go_simp; exact hK _ _ (Below.refl _ _) rfl
        · have e0 : A_.tmps[8]?.getD undef = .int .i64 (k : Int) := hb 8 (by kernel_rfl)
          clear hb hr; go_simp; exact hK _ _ (Below.refl _ _) rfl
        · have e0 : A_.tmps[30]?.getD undef = .string E := hr 30 (by kernel_rfl)
          have e1 : A_.tmps[31]?.getD undef = .int .i64 (k : Int) := hr 31 (by kernel_rfl)
          clear hb hr; go_simp; exact hK _ _ (Below.refl _ _) rfl
      rintro g4 w2 hb2 ⟨-, -, h29, -, -, h32, -⟩
      simp only [List.drop_succ_cons, List.drop_zero, List.take_succ_cons, List.take_zero, putHead, Option.getD_some, Act.put, List.setIfInBounds_toArray, List.set_cons_zero, List.set_cons_succ]
      replace h29 : g4 29 = .int .u8 (s[k].toNat : Int) := h29
      replace h32 : g4 32 = .int .u8 (E[k].toNat : Int) := h32
      generalize g4 29 = v29 at *
      generalize g4 32 = v32 at *
      subst h29 h32
      go_wp2_with fail
      refine region_inv 8 187 [(34, Is (.string s)), (35, Is (.int .i64 (k : Int))), (36, Is (.int .i64 ((k + 1 : Nat) : Int))), (37, Is (.string (s.extract (k + 1) s.size))), (38, Is (.string E)), (39, Is (.int .i64 (k : Int))), (40, Is (.int .u8 (E[k].toNat : Int))), (41, Is (.int .i64 (-1)))] (by kernel_rfl) rfl (by kernel_rfl) ?_ ?_
      · refine steps_cons rfl (fun A_ W hb hr hg K hK => ?_) <| steps_cons rfl (fun A_ W hb hr hg K hK => ?_) <| steps_cons rfl (fun A_ W hb hr hg K hK => ?_) <| steps_cons rfl (fun A_ W hb hr hg K hK => ?_) <| steps_cons rfl (fun A_ W hb hr hg K hK => ?_) <| steps_cons rfl (fun A_ W hb hr hg K hK => ?_) <| steps_cons rfl (fun A_ W hb hr hg K hK => ?_) <| steps_cons rfl (fun A_ W hb hr hg K hK => ?_) trivial
        · have e0 : A_.tmps[0]?.getD undef = .string s := hb 0 (by kernel_rfl)
          clear hb hr; go_simp; exact hK _ _ (Below.refl _ _) rfl
        · have e0 : A_.tmps[9]?.getD undef = .int .i64 (k : Int) := hb 9 (by kernel_rfl)
          clear hb hr; go_simp; exact hK _ _ (Below.refl _ _) rfl
        · have e0 : A_.tmps[35]?.getD undef = .int .i64 (k : Int) := hr 35 (by kernel_rfl)
          clear hb hr; go_simp; exact hK _ _ (Below.refl _ _) (congrArg (Value.int .i64) (by omega))
        · have e0 : A_.tmps[34]?.getD undef = .string s := hr 34 (by kernel_rfl)
          have e1 : A_.tmps[36]?.getD undef = .int .i64 ((k + 1 : Nat) : Int) := hr 36 (by kernel_rfl)
          clear hb hr; go_simp; exact hK _ _ (Below.refl _ _) rfl
        · have e0 : A_.tmps[7]?.getD undef = .string E := hb 7 (by kernel_rfl)
          clear hb hr; go_simp; exact hK _ _ (Below.refl _ _) rfl
        · have e0 : A_.tmps[8]?.getD undef = .int .i64 (k : Int) := hb 8 (by kernel_rfl)
          clear hb hr; go_simp; exact hK _ _ (Below.refl _ _) rfl
        · have e0 : A_.tmps[38]?.getD undef = .string E := hr 38 (by kernel_rfl)
          have e1 : A_.tmps[39]?.getD undef = .int .i64 (k : Int) := hr 39 (by kernel_rfl)
          clear hb hr; go_simp; exact hK _ _ (Below.refl _ _) rfl
        · have e0 : A_.tmps[37]?.getD undef = .string (s.extract (k + 1) s.size) := hr 37 (by kernel_rfl)
          have e1 : A_.tmps[40]?.getD undef = .int .u8 (E[k].toNat : Int) := hr 40 (by kernel_rfl)
          clear hb hr; go_simp
          refine (IB.out _).mono ?_; rintro e w5 ⟨rfl, rfl⟩
          exact hK _ _ (Below.refl _ _) rfl
      rintro g4 w3 hb3 ⟨-, -, -, -, -, -, -, h41, -⟩
      have HBX := Lib.hid (hb2.trans (hb3.mono hb2.size))
      simp only [List.drop_succ_cons, List.drop_zero, List.take_succ_cons, List.take_zero, putHead, Option.getD_some, Act.put, List.setIfInBounds_toArray, List.set_cons_zero, List.set_cons_succ]
      replace h41 : g4 41 = .int .i64 (-1) := h41
      generalize g4 41 = v41 at *
      subst h41
      go_wp2_with fail
      change bodyPost Tryz.prog Tryz.f69 (fun e w' => e = Ending.returned (Value.int IntKind.i64 (-1)) ∧ Below wr.heap.size wr w') Exit.ret _ _
      go_ret
      exact ⟨rfl, HBX.out⟩

end Go.Proofs.YtegobakoflbnfaaGreatDoor

namespace Go.Proofs.YtegobakoflbnfaaGreatDoor
open Go Go.RowKit

def sigB : ByteArray := ⟨#[40, 41, 91, 93, 123, 125, 44, 59, 58, 46, 61, 60, 62, 43, 45, 42, 47]⟩
def isSig (r : Nat) : Bool := sigB.data.toList.any fun b => b.toNat == r
theorem sig_index : ∀ r : Nat, r < 128 → decide (0 ≤ Lib.indexByte sigB.data.toList r.toUInt8) = isSig r := by decide +kernel
theorem sig_high (r : Nat) (h : 128 ≤ r) : isSig r = false := by
  unfold isSig
  rw [List.any_eq_false]
  intro b hb
  have : b.toNat < 128 := by
    have h1 : ∀ b ∈ sigB.data.toList, b.toNat < 128 := by decide
    exact h1 b hb
  simp; omega
def classN (r : Nat) : Int :=
  if r = 9 ∨ r = 10 then 1 else if r = 32 then 2 else if (97 ≤ r ∧ r ≤ 122) ∨ (65 ≤ r ∧ r ≤ 90) then 3 else if 48 ≤ r ∧ r ≤ 57 then 4 else if r = 95 then 5 else if r = 34 then 6
  else if isSig r then 7 else if 33 ≤ r ∧ r ≤ 126 then 8 else 0

set_option maxHeartbeats 2000000 in
set_option maxRecDepth 100000 in
theorem contains_rune (w : World) (r : Nat) : Calls Tryz.prog 45 #[.string sigB, .int .i32 (r : Int)] w fun e w' => e = .returned (.bool (isSig r)) ∧ Below w.heap.size w w' := by
  by_cases h : r < 128
  · refine (Tryz.strings_ContainsRune_ascii sigB r w (by omega) (by omega)).mono ?_
    rintro e w' ⟨rfl, rfl⟩
    refine ⟨?_, Below.refl _ _⟩
    rw [← sig_index r h]; rfl
  · rw [sig_high r (by omega)]
    have IX : Hid (Calls Tryz.prog 69 #[.string sigB, .int .i32 (r : Int)] w fun e w' => e = .returned (.int .i64 (-1)) ∧ Below w.heap.size w w') := by
      by_cases hr : r = 65533
      · subst hr
        exact index_rune_err (s := sigB) (by decide) w
      · exact index_rune_high (s := sigB) (by decide) (by decide) (by decide) w r (by omega) (by omega)
    obtain ⟨s, hs⟩ : ∃ s, s = sigB := ⟨_, rfl⟩
    rw [← hs] at IX ⊢
    clear hs h
    go_enter Tryz.func45, Tryz.ntmps45
    go_wp2_with fail
    refine IX.out.mono ?_; rintro e w1 ⟨rfl, hb⟩
    have HB := Lib.hid hb; clear hb
    go_wp2_with fail
    go_ret
    exact ⟨rfl, HB.out⟩
set_option maxHeartbeats 8000000 in
set_option maxRecDepth 100000 in
theorem class_any (w : World) (r : Nat) : Calls Tryz.prog 23 #[.int .i32 (r : Int)] w fun e w' => e = .returned (.int .i64 (classN r)) ∧ Below w.heap.size w w' := by
  have CR := Lib.hid (contains_rune w r)
  have hsg : (⟨#[40, 41, 91, 93, 123, 125, 44, 59, 58, 46, 61, 60, 62, 43, 45, 42, 47]⟩ : ByteArray) = sigB := rfl
  obtain ⟨x, hx⟩ : ∃ x, x = classN r := ⟨_, rfl⟩
  have HX := Lib.hid hx
  rw [← hx]
  clear hx
  have HBR : Hid (Below w.heap.size w w) := Below.refl _ _
  have HS : Hid (isSig r = isSig r) := rfl
  generalize hg : isSig r = sg at CR
  go_enter Tryz.func23, Tryz.ntmps23
  go_wp2_with fail
  all_goals first
    | (go_ret
       refine ⟨?_, HBR.out⟩
       rw [HX.out]
       simp only [beq_iff_eq, beq_eq_false_iff_ne, decide_eq_true_eq, decide_eq_false_iff_not] at *
       show Ending.returned (Value.int IntKind.i64 _) = Ending.returned (Value.int IntKind.i64 (classN r))
       unfold classN
       (repeat' split) <;> first | rfl | omega)
    | (refine CR.out.mono ?_
       rintro e w1 ⟨rfl, hb1⟩
       have HB1 := Lib.hid hb1
       clear hb1
       cases sg
       · go_wp2_with fail
         all_goals
           go_ret
           refine ⟨?_, HB1.out⟩
           rw [HX.out]
           simp only [beq_iff_eq, beq_eq_false_iff_ne, decide_eq_true_eq, decide_eq_false_iff_not] at *
           show Ending.returned (Value.int IntKind.i64 _) = Ending.returned (Value.int IntKind.i64 (classN r))
           unfold classN
           rw [hg]
           (repeat' split) <;> first | rfl | omega | (exfalso; simp_all; done)
       · go_wp2_with fail
         go_ret
         refine ⟨?_, HB1.out⟩
         rw [HX.out]
         simp only [beq_iff_eq, beq_eq_false_iff_ne, decide_eq_true_eq, decide_eq_false_iff_not] at *
         show Ending.returned (Value.int IntKind.i64 _) = Ending.returned (Value.int IntKind.i64 (classN r))
         unfold classN
         rw [hg]
         (repeat' split) <;> first | rfl | omega | (exfalso; simp_all; done))
end Go.Proofs.YtegobakoflbnfaaGreatDoor

namespace Go.Proofs.YtegobakoflbnfaaGreatDoor
open Go Go.RowKit

def inC (l : List Int) (b : UInt8) : Bool := decide (classN b.toNat ∈ l)
/-- the number of bytes at the beginning of which all are so -/
def pre (p : UInt8 → Bool) (s : List UInt8) : Nat := (s.takeWhile p).length
theorem class_high (r : Nat) (h : 128 ≤ r) : classN r = 0 := by
  unfold classN
  rw [sig_high r h]
  (repeat' split) <;> first | rfl | omega | (exfalso; simp_all; done)
theorem pre_at : ∀ (p : UInt8 → Bool) (l : List UInt8) (k : Nat), (l.take k).all p = true → k ≤ l.length → (l[k]? = none ∨ ∃ x, l[k]? = some x ∧ p x = false) → pre p l = k
  | p, [], k, _, hk, _ => by simp at hk; subst hk; rfl
  | p, b :: l, 0, _, _, h => by
    rcases h with h | ⟨x, h, hx⟩
    · simp at h
    · simp at h; subst h
      unfold pre; rw [List.takeWhile_cons, hx]; rfl
  | p, b :: l, k + 1, ha, hk, h => by
    rw [List.take_succ_cons, List.all_cons, Bool.and_eq_true] at ha
    have := pre_at p l k ha.2 (by simpa using hk) (by simpa using h)
    unfold pre at this ⊢
    rw [List.takeWhile_cons, ha.1]
    simp [this]
theorem pre_le (p : UInt8 → Bool) (l : List UInt8) : pre p l ≤ l.length := by
  induction l with
  | nil => exact Nat.le_refl _
  | cons b l ih =>
    unfold pre at ih ⊢
    rw [List.takeWhile_cons]
    split
    · simp; exact ih
    · simp
theorem pre_all : ∀ (p : UInt8 → Bool) (l : List UInt8), (l.take (pre p l)).all p = true
  | p, [] => rfl
  | p, b :: l => by
    unfold pre
    rw [List.takeWhile_cons]
    split
    · rename_i h
      have := pre_all p l
      unfold pre at this
      rw [List.length_cons, List.take_succ_cons, List.all_cons, h, this]; rfl
    · rfl

set_option maxHeartbeats 4000000 in
set_option maxRecDepth 100000 in
theorem run_any {w : World} {v : Value} {l : List Int} (hv : Cls w v l) (hn : l.length ≤ 1000) (h0 : (0 : Int) ∉ l) (s : ByteArray) : Calls Tryz.prog 20 #[.string s, v] w fun e w' => e = .returned (.int .i64 (pre (inC l) s.data.toList : Nat)) ∧ Below w.heap.size w w' := by
  have CN : Hid (∀ W c, Below w.heap.size w W → Calls Tryz.prog 42 #[v, .int .i64 c] W fun e w' => e = .returned (.bool (decide (c ∈ l))) ∧ w' = W) := fun W c hb => contains_any (hv.go hb) hn c
  obtain ⟨b, off, cap, rfl, -⟩ := hv
  have H0 := Lib.hid h0
  obtain ⟨n, hl⟩ : ∃ n, l.length = n := ⟨_, rfl⟩
  rw [hl] at CN ⊢
  clear hn h0 hl
  go_enter Tryz.func20, Tryz.ntmps20
  go_wp2_with fail
  go_loopg [] s.size (fun gf wx => ∃ pos : Nat, wx.heap[w.heap.size]? = some (.stringIter s pos) ∧ Below w.heap.size w wx ∧ pos ≤ s.size ∧ s.size ≤ pos + gf ∧ Hid ((s.data.toList.take pos).all (inC l) = true))
  case atStart => exact ⟨0, World.iter_heap w s 0, (Below.refl _ w).alloc (Nat.le_refl _) _, Nat.zero_le _, by omega, by rw [List.take_zero]; rfl⟩
  case round =>
    obtain ⟨pos, hit, hbw, hle, hfu, hall⟩ := hrel
    have HALL := Lib.hid hall.out; clear hall
    by_cases hps : pos < s.size
    · obtain ⟨g', rfl⟩ : ∃ g', gk = g' + 1 := ⟨gk - 1, by omega⟩
      have hnx : ∀ ty, (Instr.next (.pointer (some ⟨w.heap.size, 0, none⟩)) true ty).run Tryz.prog wr = _ := fun ty => Lib.run_next_any_at wr w.heap.size s pos ty hit hps
      have hg : s.data.toList[pos]? = some s[pos] := by rw [List.getElem?_eq_getElem (by rw [Array.length_toList]; exact hps)]; rfl
      by_cases ha : s[pos].toNat < 128
      · have hd := decode_ascii s pos hps ha
        rw [hd] at hnx
        have hit2 := Lib.iterAt_heap wr w.heap.size s pos (pos + 1) hit
        have hbw2 := Lib.below_iterAt hbw (k := w.heap.size) (Nat.le_refl _) s (pos + 1)
        obtain ⟨W, hWd⟩ : ∃ W, wr.iterAt w.heap.size s (pos + 1) = W := ⟨_, rfl⟩
        rw [hWd] at hnx hit2 hbw2
        have CA := Lib.hid (class_any W s[pos].toNat)
        have HP : Hid (inC l s[pos] = decide (classN s[pos].toNat ∈ l)) := rfl
        have HT : Hid (s.data.toList.take (pos + 1) = s.data.toList.take pos ++ [s[pos]]) := by show _ = _; rw [List.take_add_one, hg]; rfl
        have HG := Lib.hid hg
        clear hd hit hbw hg
        generalize s[pos] = x at *
        go_wp2_with fail
        refine CA.out.mono ?_; rintro e w1 ⟨rfl, hb1⟩
        have hbw3 := hbw2.trans (hb1.mono hbw2.size)
        have hit3 := (hb1.block w.heap.size (lt_of_block hit2)).trans hit2
        have CC := Lib.hid (CN.out w1 (classN x.toNat) hbw3)
        have HB3 := Lib.hid hbw3; have HI3 := Lib.hid hit3
        clear hb1 hbw2 hit2 hbw3 hit3 CA
        rw [← HP.out] at CC
        cases hp : inC l x
        · rw [hp] at CC
          have HR : Hid (pre (inC l) s.data.toList = pos) := pre_at _ _ _ HALL.out (by rw [Array.length_toList]; exact hle) (.inr ⟨x, HG.out, hp⟩)
          clear hp
          go_wp2_with fail
          refine CC.out.mono ?_; rintro e w2 ⟨rfl, rfl⟩
          go_wp2_with fail
          go_ret
          exact ⟨by rw [HR.out]; rfl, HB3.out⟩
        · rw [hp] at CC
          have HA : Hid ((s.data.toList.take (pos + 1)).all (inC l) = true) := by show _ = _; rw [HT.out, List.all_append, HALL.out]; simp [hp]
          clear hp
          go_wp2_with fail
          refine CC.out.mono ?_; rintro e w2 ⟨rfl, rfl⟩
          go_wp2_with fail
          go_roundg g'
          case measure => omega
          case rel => exact ⟨pos + 1, HI3.out, HB3.out, hps, by omega, HA.out⟩
      · obtain ⟨hd, hd2⟩ := decode_high s pos hps (by omega)
        have HP : Hid (inC l s[pos] = false) := by
          show _ = _
          unfold inC
          rw [class_high _ (by omega), decide_eq_false H0.out]
        have hit2 := Lib.iterAt_heap wr w.heap.size s pos (pos + (Utf8.decode s pos).2) hit
        have hbw2 := Lib.below_iterAt hbw (k := w.heap.size) (Nat.le_refl _) s (pos + (Utf8.decode s pos).2)
        obtain ⟨R, hR⟩ : ∃ R, (Utf8.decode s pos).1 = R := ⟨_, rfl⟩
        obtain ⟨K, hK⟩ : ∃ K, (Utf8.decode s pos).2 = K := ⟨_, rfl⟩
        rw [hR, hK] at hnx
        rw [hK] at hit2 hbw2
        rw [hR] at hd
        obtain ⟨W, hWd⟩ : ∃ W, wr.iterAt w.heap.size s (pos + K) = W := ⟨_, rfl⟩
        rw [hWd] at hnx hit2 hbw2
        have CA : Hid (Calls Tryz.prog 23 #[.int .i32 (R : Int)] W fun e w' => e = .returned (.int .i64 0) ∧ Below W.heap.size W w') := by
          have := class_any W R
          rwa [class_high R hd] at this
        have HR : Hid (pre (inC l) s.data.toList = pos) := pre_at _ _ _ HALL.out (by rw [Array.length_toList]; exact hle) (.inr ⟨_, hg, HP.out⟩)
        clear hd hd2 hit hbw hg hR hK ha HP hWd
        go_wp2_with fail
        refine CA.out.mono ?_; rintro e w1 ⟨rfl, hb1⟩
        have hbw3 := hbw2.trans (hb1.mono hbw2.size)
        have CC := Lib.hid (CN.out w1 0 hbw3)
        rw [decide_eq_false H0.out] at CC
        have HB3 := Lib.hid hbw3
        clear hb1 hbw2 hit2 hbw3 CA
        go_wp2_with fail
        refine CC.out.mono ?_; rintro e w2 ⟨rfl, rfl⟩
        go_wp2_with fail
        go_ret
        exact ⟨by rw [HR.out]; rfl, HB3.out⟩
    · have hnx : ∀ ty, (Instr.next (.pointer (some ⟨w.heap.size, 0, none⟩)) true ty).run Tryz.prog wr = _ := fun ty => Lib.run_next_end_at wr w.heap.size s pos ty hit hps
      have HR : Hid ((pre (inC l) s.data.toList : Nat) = s.size) := by
        show _ = _
        have h1 := pre_at (inC l) s.data.toList pos HALL.out (by rw [Array.length_toList]; exact hle) (.inl (List.getElem?_eq_none (by rw [Array.length_toList]; exact Nat.le_of_not_lt hps)))
        omega
      go_wp2_with fail
      go_ret
      exact ⟨by rw [HR.out]; rfl, hbw⟩
end Go.Proofs.YtegobakoflbnfaaGreatDoor

namespace Go.Proofs.YtegobakoflbnfaaGreatDoor
open Go Go.RowKit

def keysL : List (List UInt8) := [[97, 110, 100], [99, 111, 110, 110, 101, 99, 116], [99, 111, 110, 110, 101, 99, 116, 111, 114], [100, 101, 114], [100, 105, 115, 99, 114, 101, 116, 101], [101, 108, 115, 101], [101, 110, 100], [101, 113, 117, 97, 116, 105, 111, 110], [101, 120, 116, 101, 110, 100, 115], [102, 97, 108, 115, 101], [102, 108, 111, 119], [102, 111, 114], [105, 102], [105, 110], [105, 110, 105, 116, 105, 97, 108], [105, 110, 112, 117, 116], [108, 111, 111, 112], [109, 111, 100, 101, 108], [110, 111, 116], [111, 114], [112, 97, 114, 97, 109, 101, 116, 101, 114], [112, 114, 101], [114, 101, 100, 101, 99, 108, 97, 114, 101], [114, 101, 105, 110, 105, 116], [114, 101, 112, 108, 97, 99, 101, 97, 98, 108, 101], [115, 97, 109, 112, 108, 101], [115, 105, 122, 101], [115, 117, 109], [116, 104, 101, 110], [116, 105, 109, 101], [116, 114, 117, 101], [119, 104, 101, 110]]
def isKey (s : List UInt8) : Bool := keysL.any fun k => s == k

set_option maxHeartbeats 8000000 in
set_option maxRecDepth 100000 in
theorem key_any (w : World) (s : ByteArray) : Calls Tryz.prog 46 #[.string s] w fun e w' => e = .returned (.bool (isKey s.toList)) ∧ w' = w := by
  obtain ⟨x, hx⟩ : ∃ x, x = isKey s.toList := ⟨_, rfl⟩
  have HX := Lib.hid hx
  rw [← hx]
  clear hx
  go_enter Tryz.func46, Tryz.ntmps46
  go_wp2_with fail
  all_goals first
    | (rename_i h1 h2; rw [h1] at h2; cases h2; done)
    | (go_ret
       refine ⟨?_, rfl⟩
       rw [HX.out]
       show Ending.returned (Value.bool _) = Ending.returned (Value.bool (isKey s.toList))
       unfold isKey keysL
       simp only [List.any_cons, List.any_nil, Bool.or_false, Bool.false_or, Bool.true_or, *]
       done)
    | (go_ret
       refine ⟨?_, rfl⟩
       rw [HX.out]
       show Ending.returned (Value.bool _) = Ending.returned (Value.bool (isKey s.toList))
       unfold isKey keysL
       simp only [List.any_cons, List.any_nil, Bool.or_false, Bool.false_or, Bool.true_or, *]
       rfl)
end Go.Proofs.YtegobakoflbnfaaGreatDoor

namespace Go.Proofs.YtegobakoflbnfaaGreatDoor
open Go Go.RowKit

theorem bstep {w w1 w2 : World} (h : Below w.heap.size w w1) (k : Below w1.heap.size w1 w2) : Below w.heap.size w w2 := h.trans (k.mono h.size)
theorem below_alloc (w : World) (o : Obj) : Below w.heap.size w (w.alloc o) := (Below.refl _ w).alloc (Nat.le_refl _) o
theorem cls_new (w : World) (l : List Int) (t : TypeId) : Cls (w.alloc (.cells (l.map (Value.int .i64)).toArray t)) (.slice (some ⟨w.heap.size, 0, none⟩) l.length l.length) l := by
  refine ⟨w.heap.size, 0, l.length, rfl, fun i hi => ?_⟩
  rw [cell_of_row _ _ _ _ _ _ (heap_alloc_new w _)]
  simp [hi]
/-- a box of a token -/
def BoxT (w : World) (p : Nat) (a b c : Value) : Prop := w.heap[p]? = some (.cells #[a, b, c] 37 (0, 0))
theorem BoxT.go {w w' : World} {p : Nat} {a b c : Value} (h : BoxT w p a b c) (hb : Below w.heap.size w w') : BoxT w' p a b c := (hb.block p (lt_of_block h)).trans h
theorem BoxT.new (w : World) (a b c : Value) : BoxT (w.alloc (.cells #[a, b, c] 37)) w.heap.size a b c := heap_alloc_new w _
theorem BoxT.facts {w : World} {p : Nat} {a b c : Value} (h : BoxT w p a b c) : w.cell? ⟨p, 0, none⟩ = some a ∧ w.cell? ⟨p, 1, none⟩ = some b ∧ w.cell? ⟨p, 2, none⟩ = some c ∧ w.frozen? ⟨p, 0, none⟩ = false ∧ w.frozen? ⟨p, 1, none⟩ = false ∧ w.frozen? ⟨p, 2, none⟩ = false := by
  refine ⟨?_, ?_, ?_, frozen_of_row _ _ 0 _ _ h, frozen_of_row _ _ 1 _ _ h, frozen_of_row _ _ 2 _ _ h⟩ <;> (rw [cell_of_row _ _ _ _ _ _ h]; rfl)
theorem BoxT.set {w : World} {p : Nat} {a b c : Value} (h : BoxT w p a b c) (a' b' c' : Value) : BoxT (((w.setCell ⟨p, 0, none⟩ a').setCell ⟨p, 1, none⟩ b').setCell ⟨p, 2, none⟩ c') p a' b' c' := by
  have h1 := heap_setCell_same w p 0 _ 37 a' h
  have h2 := heap_setCell_same _ p 1 _ 37 b' h1
  have h3 := heap_setCell_same _ p 2 _ 37 c' h2
  exact h3
theorem tok_ret {w w' : World} {p : Nat} {a b c : Value} (bx : BoxT w' p a b c) (a' b' c' : Value) (hb : Below w.heap.size w w') (hp : w.heap.size ≤ p) :
    (((w'.setCell ⟨p, 0, none⟩ a').setCell ⟨p, 1, none⟩ b').setCell ⟨p, 2, none⟩ c').cell? ⟨p, 0, none⟩ = some a' ∧
    (((w'.setCell ⟨p, 0, none⟩ a').setCell ⟨p, 1, none⟩ b').setCell ⟨p, 2, none⟩ c').cell? ⟨p, 1, none⟩ = some b' ∧
    (((w'.setCell ⟨p, 0, none⟩ a').setCell ⟨p, 1, none⟩ b').setCell ⟨p, 2, none⟩ c').cell? ⟨p, 2, none⟩ = some c' ∧
    Below w.heap.size w (((w'.setCell ⟨p, 0, none⟩ a').setCell ⟨p, 1, none⟩ b').setCell ⟨p, 2, none⟩ c') := by
  have h := (bx.set a' b' c').facts
  exact ⟨h.1, h.2.1, h.2.2.1, ((hb.setCell (p := ⟨p, 0, none⟩) hp _).setCell (p := ⟨p, 1, none⟩) hp _).setCell (p := ⟨p, 2, none⟩) hp _⟩

/-- a token that was read: its kind, its text, how many bytes it has; no bytes: there is none -/
abbrev T3 := Int × ByteArray × Nat
def noT : T3 := (0, ⟨#[]⟩, 0)
def RetTok (w : World) (x : T3) (e : Ending) (w' : World) : Prop := e = .returned (.tuple #[.agg #[.int .i64 x.1, .string x.2.1, .int .i64 0], .int .i64 (x.2.2 : Nat)]) ∧ Below w.heap.size w w'
def wordT (s : ByteArray) : T3 :=
  if 20 < pre (inC [3, 4, 5]) s.data.toList then noT
  else if isKey (s.extract 0 (pre (inC [3, 4, 5]) s.data.toList)).toList then (2, s.extract 0 (pre (inC [3, 4, 5]) s.data.toList), pre (inC [3, 4, 5]) s.data.toList)
  else (1, s.extract 0 (pre (inC [3, 4, 5]) s.data.toList), pre (inC [3, 4, 5]) s.data.toList)

set_option maxHeartbeats 4000000 in
set_option maxRecDepth 100000 in
theorem word_any (w : World) (s : ByteArray) : Calls Tryz.prog 24 #[.string s] w (RetTok w (wordT s)) := by
  have BX0 := BoxT.new w (.int .i64 0) (.string ⟨#[]⟩) (.int .i64 0)
  have B0 := below_alloc w (.cells #[.int .i64 0, .string ⟨#[]⟩, .int .i64 0] 37)
  have s1 : (w.alloc (.cells #[.int .i64 0, .string ⟨#[]⟩, .int .i64 0] 37)).heap.size = w.heap.size + 1 := by simp
  have C : Cls ((w.alloc (.cells #[.int .i64 0, .string ⟨#[]⟩, .int .i64 0] 37)).alloc (.cells #[.int .i64 3, .int .i64 4, .int .i64 5] 49)) (.slice (some ⟨w.heap.size + 1, 0, none⟩) 3 3) [3, 4, 5] := by
    rw [← s1]; exact cls_new (w.alloc (.cells #[.int .i64 0, .string ⟨#[]⟩, .int .i64 0] 37)) [3, 4, 5] 49
  have B1 := below_alloc (w.alloc (.cells #[.int .i64 0, .string ⟨#[]⟩, .int .i64 0] 37)) (.cells #[.int .i64 3, .int .i64 4, .int .i64 5] 49)
  have RN := Lib.hid (run_any C (by simp) (by decide) s)
  have BX := Lib.hid (BX0.go B1); have HB := Lib.hid (bstep B0 B1)
  have hle := pre_le (inC [3, 4, 5]) s.data.toList
  rw [Array.length_toList] at hle
  obtain ⟨x, hx⟩ : ∃ x, x = wordT s := ⟨_, rfl⟩
  have HX := Lib.hid hx
  rw [← hx]
  unfold wordT at HX
  obtain ⟨n, hn⟩ : ∃ n, pre (inC [3, 4, 5]) s.data.toList = n := ⟨_, rfl⟩
  rw [hn] at RN HX
  have hns : n ≤ s.size := by rw [← hn]; exact hle
  clear BX0 B0 C B1 hle hx hn s1
  go_enter Tryz.func24, Tryz.ntmps24
  go_wp2_with fail
  generalize ((w.alloc (.cells #[.int .i64 0, .string ⟨#[]⟩, .int .i64 0] 37)).alloc (.cells #[.int .i64 3, .int .i64 4, .int .i64 5] 49)) = w1 at *
  refine RN.out.mono ?_; rintro e w2 ⟨rfl, hb2⟩
  have BX2 := Lib.hid (BX.out.go hb2); have HB2 := Lib.hid (bstep HB.out hb2)
  clear hb2 RN BX HB
  obtain ⟨x0, x1, x2, f0, f1, f2⟩ := BX2.out.facts
  by_cases h20 : 20 < n
  · have t1 : decide (20 < (n : Int)) = true := decide_eq_true (by omega)
    have HR : Hid (x = noT) := by show _ = _; rw [HX.out, if_pos h20]
    clear h20
    go_wp2_with fail
    obtain ⟨e0, e1, e2, hb⟩ := tok_ret BX2.out (.int .i64 0) (.string ⟨#[]⟩) (.int .i64 0) HB2.out (by omega)
    refine bodyPost_ret (v := .tuple #[.agg #[.int .i64 0, .string ⟨#[]⟩, .int .i64 0], .int .i64 0]) ?_ rfl ⟨by rw [HR.out]; rfl, hb⟩
    simp [results, Tryz.f24, go_sem, e0, e1, e2]
  · have t1 : decide (20 < (n : Int)) = false := decide_eq_false (by omega)
    have KY := Lib.hid (fun W => key_any W (s.extract 0 n))
    cases hk : isKey (s.extract 0 n).toList
    · rw [hk] at KY
      have HR : Hid (x = (1, s.extract 0 n, n)) := by show _ = _; rw [HX.out, if_neg h20, if_neg (by rw [hk]; decide)]
      clear h20 hk
      go_wp2_with fail
      refine (KY.out _).mono ?_; rintro e w3 ⟨rfl, rfl⟩
      go_wp2_with fail
      obtain ⟨e0, e1, e2, hb⟩ := tok_ret BX2.out (.int .i64 1) (.string (s.extract 0 n)) (.int .i64 0) HB2.out (by omega)
      refine bodyPost_ret (v := .tuple #[.agg #[.int .i64 1, .string (s.extract 0 n), .int .i64 0], .int .i64 (n : Nat)]) ?_ rfl ⟨by rw [HR.out], hb⟩
      simp [results, Tryz.f24, go_sem, e0, e1, e2]
    · rw [hk] at KY
      have HR : Hid (x = (2, s.extract 0 n, n)) := by show _ = _; rw [HX.out, if_neg h20, if_pos hk]
      clear h20 hk
      go_wp2_with fail
      refine (KY.out _).mono ?_; rintro e w3 ⟨rfl, rfl⟩
      go_wp2_with fail
      obtain ⟨e0, e1, e2, hb⟩ := tok_ret BX2.out (.int .i64 2) (.string (s.extract 0 n)) (.int .i64 0) HB2.out (by omega)
      refine bodyPost_ret (v := .tuple #[.agg #[.int .i64 2, .string (s.extract 0 n), .int .i64 0], .int .i64 (n : Nat)]) ?_ rfl ⟨by rw [HR.out], hb⟩
      simp [results, Tryz.f24, go_sem, e0, e1, e2]
end Go.Proofs.YtegobakoflbnfaaGreatDoor

namespace Go.Proofs.YtegobakoflbnfaaGreatDoor
open Go Go.RowKit

theorem toList_extract (s : ByteArray) (i j : Nat) : (s.extract i j).data.toList = (s.data.toList.take j).drop i := by
  rw [ByteArray.data_extract, Array.toList_extract, List.extract_eq_take_drop, List.drop_take]
theorem toList_from (s : ByteArray) (i : Nat) : (s.extract i s.size).data.toList = s.data.toList.drop i := by
  rw [toList_extract, List.take_of_length_le (by rw [Array.length_toList]; exact Nat.le_refl _)]
def strC : List Int := [2, 3, 4, 5, 7, 8]
def quotedT (s : ByteArray) : T3 :=
  if 40 < pre (inC strC) (s.data.toList.drop 1) ∨ Lib.hasPrefix (s.data.toList.drop (1 + pre (inC strC) (s.data.toList.drop 1))) [34] = false then noT
  else (4, s.extract 1 (1 + pre (inC strC) (s.data.toList.drop 1)), pre (inC strC) (s.data.toList.drop 1) + 2)

set_option maxHeartbeats 4000000 in
set_option maxRecDepth 100000 in
theorem quoted_any (w : World) (s : ByteArray) (hs : 0 < s.size) (hs2 : s.size ≤ 140737488355328) : Calls Tryz.prog 26 #[.string s] w (RetTok w (quotedT s)) := by
  have BX0 := BoxT.new w (.int .i64 0) (.string ⟨#[]⟩) (.int .i64 0)
  have B0 := below_alloc w (.cells #[.int .i64 0, .string ⟨#[]⟩, .int .i64 0] 37)
  have s1 : (w.alloc (.cells #[.int .i64 0, .string ⟨#[]⟩, .int .i64 0] 37)).heap.size = w.heap.size + 1 := by simp
  have C : Cls ((w.alloc (.cells #[.int .i64 0, .string ⟨#[]⟩, .int .i64 0] 37)).alloc (.cells #[.int .i64 2, .int .i64 3, .int .i64 4, .int .i64 5, .int .i64 7, .int .i64 8] 49)) (.slice (some ⟨w.heap.size + 1, 0, none⟩) 6 6) strC := by
    rw [← s1]; exact cls_new (w.alloc (.cells #[.int .i64 0, .string ⟨#[]⟩, .int .i64 0] 37)) strC 49
  have B1 := below_alloc (w.alloc (.cells #[.int .i64 0, .string ⟨#[]⟩, .int .i64 0] 37)) (.cells #[.int .i64 2, .int .i64 3, .int .i64 4, .int .i64 5, .int .i64 7, .int .i64 8] 49)
  have RN := run_any C (by decide) (by decide) (s.extract 1 s.size)
  rw [toList_from] at RN
  have BX := Lib.hid (BX0.go B1); have HB := Lib.hid (bstep B0 B1)
  have hle := pre_le (inC strC) (s.data.toList.drop 1)
  rw [List.length_drop, Array.length_toList] at hle
  obtain ⟨x, hx⟩ : ∃ x, x = quotedT s := ⟨_, rfl⟩
  have HX := Lib.hid hx
  rw [← hx]
  unfold quotedT at HX
  obtain ⟨n, hn⟩ : ∃ n, pre (inC strC) (s.data.toList.drop 1) = n := ⟨_, rfl⟩
  rw [hn] at RN HX
  have hns : 1 + n ≤ s.size := by
    have h9 : s.data.size = s.size := rfl
    rw [← hn]; omega
  have HP := Lib.hid (fun W => Tryz.strings_HasPrefix (s.extract (1 + n) s.size) ⟨#[34]⟩ W)
  rw [toList_from, show (⟨#[34]⟩ : ByteArray).data.toList = [34] from rfl] at HP
  have RN := Lib.hid RN
  have hw1 : wrap64 ((1 : Int) + (n : Int)) = ((1 + n : Nat) : Int) := by unfold wrap64; omega
  have hw2 : wrap64 ((n : Int) + 2) = ((n + 2 : Nat) : Int) := by unfold wrap64; omega
  have hsl : ∀ w, (Instr.slice 9 (.string s) (some (.int .i64 1)) (some (.int .i64 (1 + (n : Int)))) none).run Tryz.prog w = .ok (.string (s.extract 1 (1 + n))) w := fun w => by
    rw [run_slice_string_if w 9 s .i64 .i64 1 (1 + (n : Int)) Tryz.underlying9, if_pos (by omega), if_pos (by omega), show (1 + (n : Int)).toNat = 1 + n by omega]; rfl
  have hs1 : 1 ≤ s.size := hs
  have HW1 := Lib.hid hw1; have HW2 := Lib.hid hw2
  clear BX0 B0 C B1 hle hx hn s1 hs hs2 hw2
  go_enter Tryz.func26, Tryz.ntmps26
  go_wp2_with fail
  generalize ((w.alloc (.cells #[.int .i64 0, .string ⟨#[]⟩, .int .i64 0] 37)).alloc (.cells #[.int .i64 2, .int .i64 3, .int .i64 4, .int .i64 5, .int .i64 7, .int .i64 8] 49)) = w1 at *
  refine RN.out.mono ?_; rintro e w2 ⟨rfl, hb2⟩
  have BX2 := Lib.hid (BX.out.go hb2); have HB2 := Lib.hid (bstep HB.out hb2)
  clear hb2 RN BX HB
  obtain ⟨x0, x1, x2, f0, f1, f2⟩ := BX2.out.facts
  by_cases h20 : 40 < n
  · have t1 : decide (40 < (n : Int)) = true := decide_eq_true (by omega)
    have HR : Hid (x = noT) := by show _ = _; rw [HX.out, if_pos (.inl h20)]
    clear h20
    go_wp2_with fail
    obtain ⟨e0, e1, e2, hb⟩ := tok_ret BX2.out (.int .i64 0) (.string ⟨#[]⟩) (.int .i64 0) HB2.out (by omega)
    refine bodyPost_ret (v := .tuple #[.agg #[.int .i64 0, .string ⟨#[]⟩, .int .i64 0], .int .i64 0]) ?_ rfl ⟨by rw [HR.out]; rfl, hb⟩
    simp [results, Tryz.f26, go_sem, e0, e1, e2]
  · have t1 : decide (40 < (n : Int)) = false := decide_eq_false (by omega)
    cases hk : Lib.hasPrefix (s.data.toList.drop (1 + n)) [34]
    · rw [hk] at HP
      have HR : Hid (x = noT) := by show _ = _; rw [HX.out, if_pos (.inr hk)]
      clear h20 hk
      go_wp2_with fail
      refine (HP.out _).mono ?_; rintro e w3 ⟨rfl, rfl⟩
      go_wp2_with fail
      obtain ⟨e0, e1, e2, hb⟩ := tok_ret BX2.out (.int .i64 0) (.string ⟨#[]⟩) (.int .i64 0) HB2.out (by omega)
      refine bodyPost_ret (v := .tuple #[.agg #[.int .i64 0, .string ⟨#[]⟩, .int .i64 0], .int .i64 0]) ?_ rfl ⟨by rw [HR.out]; rfl, hb⟩
      simp [results, Tryz.f26, go_sem, e0, e1, e2]
    · rw [hk] at HP
      have HR : Hid (x = (4, s.extract 1 (1 + n), n + 2)) := by show _ = _; rw [HX.out, if_neg (by rintro (h | h); exact h20 h; rw [hk] at h; cases h)]
      clear h20 hk
      go_wp2_with fail
      refine (HP.out _).mono ?_; rintro e w3 ⟨rfl, rfl⟩
      go_wp2_with fail
      obtain ⟨e0, e1, e2, hb⟩ := tok_ret BX2.out (.int .i64 4) (.string (s.extract 1 (1 + n))) (.int .i64 0) HB2.out (by omega)
      refine bodyPost_ret (v := .tuple #[.agg #[.int .i64 4, .string (s.extract 1 (1 + n)), .int .i64 0], .int .i64 ((n + 2 : Nat) : Int)]) ?_ rfl ⟨by rw [HR.out], hb⟩
      simp [results, Tryz.f26, go_sem, e0, e1, e2, HW2.out]
end Go.Proofs.YtegobakoflbnfaaGreatDoor

namespace Go.Proofs.YtegobakoflbnfaaGreatDoor
open Go Go.RowKit

def dbl : List ByteArray := [⟨#[61, 61]⟩, ⟨#[60, 62]⟩, ⟨#[60, 61]⟩, ⟨#[62, 61]⟩]
def isDbl (l : List ByteArray) (s : List UInt8) : Bool := l.any fun d => Lib.hasPrefix s d.data.toList
def symN (s : List UInt8) : Nat := if isDbl dbl s then 2 else 1
def symT (s : ByteArray) : T3 := (5, s.extract 0 (symN s.data.toList), symN s.data.toList)
theorem dbl_two : ∀ d ∈ dbl, d.size = 2 := by decide
theorem hasPrefix_len {s p : List UInt8} (h : Lib.hasPrefix s p = true) : p.length ≤ s.length := by
  unfold Lib.hasPrefix at h
  exact (List.isPrefixOf_iff_prefix.1 h).length_le
theorem symN_le {s : ByteArray} (hs : 0 < s.size) : symN s.data.toList ≤ s.size := by
  unfold symN
  split
  · rename_i h
    obtain ⟨d, hd, hp⟩ := List.any_eq_true.1 h
    have h1 := hasPrefix_len hp
    have h2 := dbl_two d hd
    rw [Array.length_toList, Array.length_toList] at h1
    have h3 : d.data.size = d.size := rfl
    have h4 : s.data.size = s.size := rfl
    omega
  · omega

set_option maxHeartbeats 4000000 in
set_option maxRecDepth 100000 in
theorem symbol_any (w : World) (s : ByteArray) (hs : 0 < s.size) : Calls Tryz.prog 27 #[.string s] w (RetTok w (symT s)) := by
  have BX0 := BoxT.new w (.int .i64 0) (.string ⟨#[]⟩) (.int .i64 0)
  have B0 := below_alloc w (.cells #[.int .i64 0, .string ⟨#[]⟩, .int .i64 0] 37)
  have s1 : (w.alloc (.cells #[.int .i64 0, .string ⟨#[]⟩, .int .i64 0] 37)).heap.size = w.heap.size + 1 := by simp
  have B1 := below_alloc (w.alloc (.cells #[.int .i64 0, .string ⟨#[]⟩, .int .i64 0] 37)) (.cells #[.string ⟨#[61, 61]⟩, .string ⟨#[60, 62]⟩, .string ⟨#[60, 61]⟩, .string ⟨#[62, 61]⟩] 9)
  have CD : Hid (∀ i (hi : i < dbl.length), ((w.alloc (.cells #[.int .i64 0, .string ⟨#[]⟩, .int .i64 0] 37)).alloc (.cells #[.string ⟨#[61, 61]⟩, .string ⟨#[60, 62]⟩, .string ⟨#[60, 61]⟩, .string ⟨#[62, 61]⟩] 9)).cell? ⟨w.heap.size + 1, i, none⟩ = some (.string dbl[i])) := fun i hi => by
    rw [← s1, cell_of_row _ _ _ _ _ _ (heap_alloc_new (w.alloc (.cells #[.int .i64 0, .string ⟨#[]⟩, .int .i64 0] 37)) _)]
    have h4 : i < 4 := hi
    rcases (show i = 0 ∨ i = 1 ∨ i = 2 ∨ i = 3 by omega) with rfl | rfl | rfl | rfl <;> rfl
  have BX := Lib.hid (BX0.go B1); have HB := Lib.hid (bstep B0 B1)
  have HP := Lib.hid (fun W d => Tryz.strings_HasPrefix s d W)
  have HLE := Lib.hid (symN_le hs)
  clear BX0 B0 B1 s1 hs
  go_enter Tryz.func27, Tryz.ntmps27
  go_wp2_with fail
  generalize ((w.alloc (.cells #[.int .i64 0, .string ⟨#[]⟩, .int .i64 0] 37)).alloc (.cells #[.string ⟨#[61, 61]⟩, .string ⟨#[60, 62]⟩, .string ⟨#[60, 61]⟩, .string ⟨#[62, 61]⟩] 9)) = w1 at *
  go_loopw [4, 9] (fun v4 v9 wr => ∃ i : Nat, i ≤ 4 ∧ v9 = .int .i64 (i : Nat) ∧ wr = w1 ∧ v4 = .int .i64 ((if isDbl (dbl.take i) s.data.toList then 2 else 1 : Nat) : Int)) (fun _ vi _ => 4 - (intOf vi).toNat)
  case atStart => exact ⟨0, Nat.zero_le _, rfl, rfl, rfl⟩
  case round =>
    obtain ⟨i, hi, rfl, rfl, h4⟩ := hrel
    have HW := Lib.hid (wnat (n := i) (by omega))
    by_cases hlt : i < 4
    · have hli : i < dbl.length := hlt
      have hc := CD.out i hli
      have HT : Hid (dbl.take (i + 1) = dbl.take i ++ [dbl[i]]) := by show _ = _; rw [List.take_add_one, List.getElem?_eq_getElem hli]; rfl
      have HS : Hid (dbl[i].size = 2) := dbl_two _ (List.getElem_mem hli)
      have HPI := Lib.hid (HP.out wr dbl[i])
      have HLT := Lib.hid hlt
      have H4 := Lib.hid h4
      clear h4
      generalize dbl[i] = d at *
      have hsz : (d.size : Int) = 2 := by rw [HS.out]; rfl
      cases hp : Lib.hasPrefix s.data.toList d.data.toList
      · rw [hp] at HPI
        have HN : Hid (isDbl (dbl.take (i + 1)) s.data.toList = isDbl (dbl.take i) s.data.toList) := by show _ = _; rw [HT.out]; unfold isDbl; rw [List.any_append]; simp [hp]
        clear hp hi
        go_wp2_with fail
        refine HPI.out.mono ?_; rintro e w2 ⟨rfl, rfl⟩
        go_wp2_with fail
        go_roundw
        case rel => exact ⟨i + 1, HLT.out, by first | exact congrArg (Value.int .i64) HW.out | go_num, by first | trivial | rfl, by rw [HN.out]; exact H4.out⟩
        case measure => have := HLT.out; first | (rw [HW.out]; simp [intOf]; omega) | (simp [intOf]; omega)
      · rw [hp] at HPI
        have HN : Hid (isDbl (dbl.take (i + 1)) s.data.toList = true) := by show _ = _; rw [HT.out]; unfold isDbl; rw [List.any_append]; simp [hp]
        clear hp hi
        go_wp2_with fail
        refine HPI.out.mono ?_; rintro e w2 ⟨rfl, rfl⟩
        go_wp2_with fail
        go_roundw
        case rel => exact ⟨i + 1, HLT.out, by first | exact congrArg (Value.int .i64) HW.out | go_num, by first | trivial | rfl, by rw [HN.out]; first | rfl | (simp [hsz]; done) | exact congrArg (Value.int .i64) hsz⟩
        case measure => have := HLT.out; first | (rw [HW.out]; simp [intOf]; omega) | (simp [intOf]; omega)
    · have hi4 : i = 4 := by omega
      subst hi4
      have h4' : u4 = .int .i64 ((symN s.data.toList : Nat) : Int) := h4
      obtain ⟨n, hn⟩ : ∃ n, symN s.data.toList = n := ⟨_, rfl⟩
      have HN := Lib.hid hn
      have hle := HLE.out
      rw [hn] at h4' hle
      subst h4'
      obtain ⟨x0, x1, x2, f0, f1, f2⟩ := BX.out.facts
      clear hn h4 hi hlt
      go_wp2_with fail
      obtain ⟨e0, e1, e2, hb⟩ := tok_ret BX.out (.int .i64 5) (.string (s.extract 0 n)) (.int .i64 0) HB.out (by omega)
      refine bodyPost_ret (v := .tuple #[.agg #[.int .i64 5, .string (s.extract 0 n), .int .i64 0], .int .i64 (n : Nat)]) ?_ rfl ⟨by unfold symT; rw [HN.out], hb⟩
      simp [results, Tryz.f27, go_sem, e0, e1, e2]
end Go.Proofs.YtegobakoflbnfaaGreatDoor

namespace Go.Proofs.YtegobakoflbnfaaGreatDoor
open Go Go.RowKit

set_option maxHeartbeats 4000000 in
set_option maxRecDepth 100000 in
theorem power_any (w : World) (n : Nat) (hn : n ≤ 15) : Calls Tryz.prog 57 #[.int .i64 (n : Int)] w fun e w' => e = .returned (.int .u64 ((10 ^ n : Nat) : Int)) ∧ w' = w := by
  have HN := Lib.hid hn
  clear hn
  go_enter Tryz.func57, Tryz.ntmps57
  go_wp2_with fail
  go_loopw [3, 5] (fun v3 v5 wr => ∃ i : Nat, i ≤ n ∧ v5 = .int .i64 (i : Nat) ∧ wr = w ∧ v3 = .int .u64 ((10 ^ i : Nat) : Int)) (fun _ vi _ => n - (intOf vi).toNat)
  case atStart => exact ⟨0, Nat.zero_le _, rfl, rfl, rfl⟩
  case round =>
    obtain ⟨i, hi, rfl, rfl, rfl⟩ := hrel
    have HW := Lib.hid (wnat (n := i) (by have := HN.out; omega))
    by_cases hlt : i < n
    · have hp : 10 ^ (i + 1) ≤ 10 ^ 15 := Nat.pow_le_pow_right (by omega) (by have := HN.out; omega)
      have hm : IntKind.u64.wrap (((10 ^ i : Nat) : Int) * 10) = ((10 ^ (i + 1) : Nat) : Int) := by
        have e : ((10 ^ i : Nat) : Int) * 10 = ((10 ^ (i + 1) : Nat) : Int) := by rw [Nat.pow_succ, Int.natCast_mul]; rfl
        have h15 : (10 : Nat) ^ 15 = 1000000000000000 := by decide
        rw [e]
        generalize 10 ^ (i + 1) = x at *
        unfold IntKind.wrap
        simp [IntKind.bits, IntKind.signed]
        omega
      have HM := Lib.hid hm
      have HLT := Lib.hid hlt
      clear hm hp hi
      generalize ((10 ^ i : Nat) : Int) = x at *
      go_wp2_with fail
      go_roundw
      case rel => exact ⟨i + 1, HLT.out, by first | exact congrArg (Value.int .i64) HW.out | go_num, by first | trivial | rfl, by first | exact congrArg (Value.int .u64) HM.out | (rw [← HM.out]; first | rfl | go_num)⟩
      case measure => have := HLT.out; first | (rw [HW.out]; simp [intOf]; omega) | (simp [intOf]; omega)
    · obtain rfl : i = n := by omega
      go_wp2_with fail
      go_ret
      exact ⟨rfl, rfl⟩
set_option maxHeartbeats 4000000 in
set_option maxRecDepth 100000 in
theorem divisor_any (w : World) (a b : Nat) (hb : b < 18446744073709551616) : Calls Tryz.prog 70 #[.int .u64 (a : Int), .int .u64 (b : Int)] w fun e w' => e = .returned (.int .u64 ((Nat.gcd a b : Nat) : Int)) ∧ Below w.heap.size w w' := by
  go_enter Tryz.func70, Tryz.ntmps70
  go_wp2_with fail
  go_loopw [0, 1] (fun v0 v1 wr => ∃ x y : Nat, v0 = .int .u64 (x : Int) ∧ v1 = .int .u64 (y : Int) ∧ Below w.heap.size w wr ∧ Nat.gcd x y = Nat.gcd a b) (fun _ v1 _ => (intOf v1).toNat)
  case atStart => exact ⟨a, b, rfl, rfl, Below.refl _ _, rfl⟩
  case round =>
    obtain ⟨x, y, rfl, rfl, hbw, hg⟩ := hrel
    have HB := Lib.hid hbw
    by_cases hy : y = 0
    · subst hy
      have HR : Hid (x = Nat.gcd a b) := by show _ = _; rw [← hg, Nat.gcd_zero_right]
      clear hg hbw
      go_wp2_with fail
      go_ret
      exact ⟨by rw [← HR.out]; rfl, HB.out⟩
    · have HG : Hid (Nat.gcd y (x % y) = Nat.gcd a b) := by show _ = _; rw [← hg, Nat.gcd_comm x y, Nat.gcd_rec y x, Nat.gcd_comm]
      have HL := Lib.hid (Nat.mod_lt x (Nat.pos_of_ne_zero hy))
      have t1 : ((y : Int) != 0) = true := by rw [bne_iff_ne]; omega
      have t2 : ((y : Int) == 0) = false := by rw [beq_eq_false_iff_ne]; omega
      have t3 : ¬ (y : Int) = 0 := by omega
      clear hg hbw
      have HT : Hid ((Value.int .u64 (Int.tmod (x : Int) (y : Int))) = .int .u64 ((x % y : Nat) : Int)) := rfl
      go_wp2_with fail
      go_region
      have hz : (x : Int) % (y : Int) = ((x % y : Nat) : Int) := rfl
      rw [hz]
      obtain ⟨z, hz'⟩ : ∃ z, x % y = z := ⟨_, rfl⟩
      rw [hz'] at HG HL
      have HB2 : Hid (Below w.heap.size w wr.drew) := HB.out.drew
      go_roundw
      case rel => exact ⟨_, _, _, _, _, _, _, _, ⟨y, z, rfl, by rw [← hz'], HB2.out, HG.out⟩, rfl⟩
      case measure => have := HL.out; rw [hz']; simp [intOf]; omega
end Go.Proofs.YtegobakoflbnfaaGreatDoor

namespace Go.Proofs.YtegobakoflbnfaaGreatDoor
open Go Go.RowKit Go.Sort Go.Lib

theorem below_row (w : World) (o : Obj) (dk : Array UInt8) (k : Nat) : Below w.heap.size w ((putRow (fun (b : UInt8) => Value.int .u8 (b.toNat : Int)) (w.alloc o) w.heap.size 0 dk).drewN k) := by
  have e : ∃ os, (putRow (fun (b : UInt8) => Value.int .u8 (b.toNat : Int)) (w.alloc o) w.heap.size 0 dk).drewN k = grow (w.drewN k) os := by
    rw [alloc_eq_grow]
    obtain ⟨os', _, e⟩ := putRow_grow_new (fun (b : UInt8) => Value.int .u8 (b.toNat : Int)) w #[o] w.heap.size 0 dk (Nat.le_refl _)
    exact ⟨os', by rw [e]; rfl⟩
  obtain ⟨os, e⟩ := e
  rw [e]
  have hh : (grow (w.drewN k) os).heap = w.heap ++ os := rfl
  exact ⟨rfl, rfl, rfl, by rw [hh]; simp, fun j hj => by rw [hh]; exact Array.getElem?_append_left hj⟩
def Pow10 (w : World) : Prop := Lib.TabIs Tryz.prog w "internal/strconv.uint64pow10" .u64 Lib.pow10Tab

set_option maxHeartbeats 6400000 in
set_option maxRecDepth 100000 in
theorem fmt0_any (w : World) (u : Nat) (hu64 : u < 18446744073709551616) (ht : Pow10 w) : Calls Tryz.prog 85 #[.int .u64 (u : Int), .int .i64 10] w fun e w' => e = .returned (.string ⟨(Lib.decDigits u).toArray⟩) ∧ Below w.heap.size w w' := by
  by_cases hs : u < 100
  · have SM := Lib.hid (fun W => Tryz.internal_strconv_small u hs W)
    have hwr : IntKind.i64.wrap (u : Int) = (u : Int) := wrap_small _ (by omega) (by omega)
    clear ht hu64
    go_enter Tryz.func85, Tryz.ntmps85
    go_wp2_with fail
    refine (SM.out _).mono ?_; rintro e w1 ⟨rfl, rfl⟩
    go_wp2_with fail
    go_ret
    exact ⟨rfl, Below.refl _ _⟩
  · have hu1 : 1 ≤ u := by omega
    have hnd20 : Lib.nDigits u ≤ 20 := by have := Lib.numDigits_eq u hu1 hu64; split at this <;> omega
    have hal : Tryz.prog.arrayLen 125 = 24 := by kernel_rfl
    have hsl : ∀ W, (Instr.sliceAt 125 (.pointer (some ⟨w.heap.size, 0, none⟩)) none (some (.int .i64 (Lib.nDigits u : Int))) none).run Tryz.prog W = .ok (.slice (some ⟨w.heap.size, 0, none⟩) (Lib.nDigits u) 24) W := fun W => by
      rw [run_sliceAt_array_h W 125 ⟨w.heap.size, 0, none⟩ (by kernel_rfl) .i64 (Lib.nDigits u : Int) (by omega) (by rw [hal]; omega), hal]
      rfl
    have hH0 := Lib.holds_zero0 w 125 (Lib.nDigits u) (by omega)
    have hfmt := Tryz.internal_strconv_formatBase10 w.heap.size 0 24 u (Array.replicate (Lib.nDigits u) 0) (w.alloc (.cells Lib.zeros24 125)) hH0 (by rw [Array.size_replicate]; exact Lib.lt_pow_nDigits u) hu64 (by rw [Array.size_replicate]; omega)
    rw [Array.size_replicate] at hfmt
    have HH0 := Lib.hid hH0
    have ND := Lib.hid (fun W h => Tryz.internal_strconv_numDigits u hu1 hu64 W h)
    have HT : Hid (Lib.TabIs Tryz.prog (w.alloc (.cells Lib.zeros24 125)) "internal/strconv.uint64pow10" .u64 Lib.pow10Tab) := Lib.tabIs_alloc ht _
    clear hH0 hal hu1 hu64 ht
    go_enter Tryz.func85, Tryz.ntmps85
    go_wp2_with fail
    refine (ND.out _ HT.out).mono ?_; rintro e w1 ⟨rfl, rfl⟩
    go_wp2_with fail
    refine hfmt.mono ?_
    rintro e w' ⟨rfl, k, v', dk, rfl, hF⟩
    have hcv : (convert 30 9 (.slice (some ⟨w.heap.size, 0, none⟩) (Lib.nDigits u) 24)).run Tryz.prog ((putRow (fun (b : UInt8) => Value.int .u8 (b.toNat : Int)) (w.alloc (.cells Lib.zeros24 125)) w.heap.size 0 dk).drewN k) = .ok (.string ⟨(Lib.decDigits u).toArray⟩) ((putRow (fun (b : UInt8) => Value.int .u8 (b.toNat : Int)) (w.alloc (.cells Lib.zeros24 125)) w.heap.size 0 dk).drewN k) := by
      have h := run_convert_bytes_back (P := Tryz.prog) ((putRow (fun (b : UInt8) => Value.int .u8 (b.toNat : Int)) (w.alloc (.cells Lib.zeros24 125)) w.heap.size 0 dk).drewN k) 30 9 5 ⟨w.heap.size, 0, none⟩ 24 (Lib.decDigits u) Tryz.underlying30 Tryz.underlying5 Tryz.underlying9 (fun j hj => by
        rw [Lib.row_is_numeral hF j hj, Lib.add_plain, World.cell?_drewN]
        exact cell?_putRow (fun (b : UInt8) => Value.int .u8 (b.toNat : Int)) _ w.heap.size 0 _ dk HH0.out (by rw [hF.size, Array.size_replicate]) j (by rw [hF.size]; rw [Lib.decDigits_length] at hj; exact hj))
      rw [Lib.decDigits_length] at h
      exact h
    have HB := Lib.hid (below_row w (.cells Lib.zeros24 125) dk k)
    go_wp2_with fail
    go_ret
    exact ⟨rfl, HB.out⟩
set_option maxHeartbeats 2000000 in
set_option maxRecDepth 100000 in
theorem fmt_any (w : World) (u : Nat) (hu64 : u < 18446744073709551616) (ht : Pow10 w) : Calls Tryz.prog 58 #[.int .u64 (u : Int), .int .i64 10] w fun e w' => e = .returned (.string ⟨(Lib.decDigits u).toArray⟩) ∧ Below w.heap.size w w' := by
  have F := Lib.hid (fmt0_any w u hu64 ht)
  clear ht hu64
  go_enter Tryz.func58, Tryz.ntmps58
  go_wp2_with fail
  refine F.out.mono ?_; rintro e w1 ⟨rfl, hb⟩
  have HB := Lib.hid hb; clear hb
  go_wp2_with fail
  go_ret
  exact ⟨rfl, HB.out⟩
end Go.Proofs.YtegobakoflbnfaaGreatDoor

namespace Go.Proofs.YtegobakoflbnfaaGreatDoor
open Go Go.RowKit

/-- What one digit's guess is held against. -/
structure DG (Y Y1 Y0 u v q Q R : Nat) : Prop where
  yy : Y = Y1 * 4294967296 + Y0
  y1 : 2147483648 ≤ Y1
  y1' : Y1 < 4294967296
  y0 : Y0 < 4294967296
  uY : u < Y
  vB : v < 4294967296
  lo : q * Y ≤ u * 4294967296 + v
  hi : u * 4294967296 + v < (q + 1) * Y
  sum : Q * Y1 + R = u
  ge : q ≤ Q
  le : Q ≤ 4294967297
  rb : R < 4294967296
theorem DG.qB {Y Y1 Y0 u v q Q R : Nat} (h : DG Y Y1 Y0 u v q Q R) : q < 4294967296 := by
  have h1 := h.lo; have h2 := h.uY; have h3 := h.vB
  rcases Nat.lt_or_ge q 4294967296 with hq | hq
  · exact hq
  · exfalso
    have : 4294967296 * Y ≤ q * Y := Nat.mul_le_mul_right _ hq
    omega
theorem dg_start {Y Y1 Y0 u v : Nat} (yy : Y = Y1 * 4294967296 + Y0) (y1 : 2147483648 ≤ Y1) (y1' : Y1 < 4294967296) (y0 : Y0 < 4294967296) (uY : u < Y) (vB : v < 4294967296) : DG Y Y1 Y0 u v ((u * 4294967296 + v) / Y) (u / Y1) (u % Y1) := by
  have hY : 0 < Y := by omega
  have hs : u / Y1 * Y1 + u % Y1 = u := by rw [Nat.mul_comm]; exact Nat.div_add_mod u Y1
  have hr := Nat.mod_lt u (show 0 < Y1 by omega)
  refine ⟨yy, y1, y1', y0, uY, vB, Nat.div_mul_le_self _ _, ?_, hs, ?_, ?_, by omega⟩
  · have := Nat.lt_mul_div_succ (u * 4294967296 + v) hY
    rw [Nat.mul_comm Y] at this; exact this
  · apply Nat.le_of_lt_succ
    apply (Nat.div_lt_iff_lt_mul hY).2
    have e : u < (u / Y1 + 1) * Y1 := by rw [Nat.add_mul, Nat.one_mul]; omega
    have e2 : u + 1 ≤ (u / Y1 + 1) * Y1 := e
    generalize u / Y1 = Q at *
    have e3 : (u + 1) * 4294967296 ≤ (Q + 1) * Y1 * 4294967296 := Nat.mul_le_mul_right _ e2
    have e5 : (Q + 1) * Y = (Q + 1) * Y1 * 4294967296 + (Q + 1) * Y0 := by rw [yy, Nat.mul_add, Nat.mul_assoc]
    have e4 : (Q + 1) * Y1 * 4294967296 ≤ (Q + 1) * Y := by rw [e5]; exact Nat.le_add_right _ _
    show _ < (Q + 1) * Y
    omega
  · apply Nat.le_of_lt_succ
    apply (Nat.div_lt_iff_lt_mul (by omega)).2
    omega
theorem DG.down {Y Y1 Y0 u v q Q R : Nat} (h : DG Y Y1 Y0 u v q Q R) (ht : 4294967296 ≤ Q ∨ R * 4294967296 + v < Q * Y0) : q < Q := by
  have hq := h.qB
  rcases ht with ht | ht
  · omega
  · rcases Nat.lt_or_ge q Q with hlt | hge
    · exact hlt
    · exfalso
      obtain rfl : q = Q := Nat.le_antisymm h.ge hge
      have h1 := h.lo
      have h2 := h.sum
      have e : q * Y = q * Y1 * 4294967296 + q * Y0 := by rw [h.yy, Nat.mul_add, Nat.mul_assoc]
      omega
theorem DG.next {Y Y1 Y0 u v q Q R : Nat} (h : DG Y Y1 Y0 u v q Q R) (ht : 4294967296 ≤ Q ∨ R * 4294967296 + v < Q * Y0) (hr : R + Y1 < 4294967296) : DG Y Y1 Y0 u v q (Q - 1) (R + Y1) := by
  have hd := h.down ht
  obtain ⟨k, rfl⟩ : ∃ k, Q = k + 1 := ⟨Q - 1, by omega⟩
  have hs := h.sum
  have hle := h.le
  rw [Nat.add_mul, Nat.one_mul] at hs
  exact ⟨h.yy, h.y1, h.y1', h.y0, h.uY, h.vB, h.lo, h.hi, by rw [Nat.add_sub_cancel]; omega, by omega, by omega, hr⟩
theorem DG.broke {Y Y1 Y0 u v q Q R : Nat} (h : DG Y Y1 Y0 u v q Q R) (ht : 4294967296 ≤ Q ∨ R * 4294967296 + v < Q * Y0) (hr : 4294967296 ≤ R + Y1) : Q - 1 = q := by
  have hd := h.down ht
  obtain ⟨k, rfl⟩ : ∃ k, Q = k + 1 := ⟨Q - 1, by omega⟩
  have hs := h.sum
  have hle := h.le
  have h1 := h.hi
  have hy0 := h.y0
  have hY : 0 < Y := by have := h.yy; have := h.y1; omega
  rw [Nat.add_mul, Nat.one_mul] at hs
  have e : k * Y = k * Y1 * 4294967296 + k * Y0 := by rw [h.yy, Nat.mul_add, Nat.mul_assoc]
  have e2 : k * Y0 ≤ 4294967296 * 4294967296 := Nat.mul_le_mul (by omega) (by omega)
  have e3 : k * Y ≤ u * 4294967296 + v := by omega
  have e4 : k * Y < (q + 1) * Y := by omega
  have := Nat.lt_of_mul_lt_mul_right e4
  omega
theorem DG.stays {Y Y1 Y0 u v q Q R : Nat} (h : DG Y Y1 Y0 u v q Q R) (ht : ¬ (4294967296 ≤ Q ∨ R * 4294967296 + v < Q * Y0)) : Q = q := by
  have h1 := h.hi
  have h2 := h.sum
  have hY : 0 < Y := by have := h.yy; have := h.y1; omega
  have e : Q * Y = Q * Y1 * 4294967296 + Q * Y0 := by rw [h.yy, Nat.mul_add, Nat.mul_assoc]
  have e3 : Q * Y ≤ u * 4294967296 + v := by omega
  have e4 : Q * Y < (q + 1) * Y := by omega
  have := Nat.lt_of_mul_lt_mul_right e4
  have := h.ge
  omega
theorem wu64 {n : Nat} (h : n < 18446744073709551616) : IntKind.u64.wrap (n : Int) = (n : Int) := by rw [IntKind.wrap_u64]; omega
/-- a test's right side -/
theorem w_rhs {R v : Nat} (hr : R < 4294967296) (hv : v < 4294967296) : IntKind.u64.wrap (IntKind.u64.wrap (4294967296 * (R : Int)) + (v : Int)) = ((R * 4294967296 + v : Nat) : Int) := by
  rw [IntKind.wrap_u64, IntKind.wrap_u64]; omega
theorem w_lhs {Q Y0 : Nat} (hq : Q < 4294967296) (hy : Y0 < 4294967296) : IntKind.u64.wrap ((Q : Int) * (Y0 : Int)) = ((Q * Y0 : Nat) : Int) := by
  have h : Q * Y0 < 4294967296 * 4294967296 := Nat.mul_lt_mul_of_lt_of_le hq (Nat.le_of_lt hy) (by omega)
  rw [← Int.natCast_mul]
  exact wu64 (by omega)
/-- the rest behind a digit -/
theorem w_rest {u v q Y : Nat} (hlo : q * Y ≤ u * 4294967296 + v) (hY : Y < 18446744073709551616) (hhi : u * 4294967296 + v < (q + 1) * Y) : IntKind.u64.wrap (IntKind.u64.wrap (IntKind.u64.wrap ((u : Int) * 4294967296) + (v : Int)) - IntKind.u64.wrap ((q : Int) * (Y : Int))) = ((u * 4294967296 + v - q * Y : Nat) : Int) := by
  rw [Nat.add_mul, Nat.one_mul] at hhi
  rw [← Int.natCast_mul]
  obtain ⟨p, hp⟩ : ∃ p, p = q * Y := ⟨_, rfl⟩
  rw [← hp] at hlo hhi ⊢
  clear hp
  simp only [IntKind.wrap_u64]
  omega
theorem dg_rest {u v Y : Nat} : u * 4294967296 + v - (u * 4294967296 + v) / Y * Y = (u * 4294967296 + v) % Y := by
  have := Nat.div_add_mod (u * 4294967296 + v) Y
  rw [Nat.mul_comm Y] at this
  exact Nat.sub_eq_of_eq_add (by rw [Nat.add_comm (_ % _)]; exact this.symm)
theorem dg_two (n z B Y : Nat) : n * B + z = (n % Y * B + z) + Y * (n / Y * B) := by
  have this := Nat.div_add_mod n Y
  have e1 : n * B = (Y * (n / Y) + n % Y) * B := by rw [this]
  rw [Nat.add_mul, Nat.mul_assoc] at e1
  omega
theorem dg_quo {n z B Y : Nat} (hY : 0 < Y) : (n * B + z) / Y = n / Y * B + (n % Y * B + z) / Y := by
  rw [dg_two n z B Y, Nat.add_mul_div_left _ _ hY, Nat.add_comm]
theorem dg_rem {n z B Y : Nat} : (n * B + z) % Y = (n % Y * B + z) % Y := by
  rw [dg_two n z B Y, Nat.add_mul_mod_self_left]
/-- the shift that makes the divisor great -/
theorem lz_shift {y : Nat} (h0 : 0 < y) (h1 : y < 18446744073709551616) : ∃ s : Nat, s < 64 ∧ (64 - (Lib.bitLen y : Int)) = (s : Int) ∧ 9223372036854775808 ≤ y * 2 ^ s ∧ y * 2 ^ s < 18446744073709551616 := by
  obtain ⟨a, b, c⟩ := Lib.bitLenAux_bounds 64 y (by simpa using h1) (by omega)
  have d := Lib.bitLen_le y 64 (by decide) (by simpa using h1)
  change 1 ≤ Lib.bitLen y at a
  change 2 ^ (Lib.bitLen y - 1) ≤ y at b
  change y < 2 ^ Lib.bitLen y at c
  generalize Lib.bitLen y = L at *
  refine ⟨64 - L, by omega, by omega, ?_, ?_⟩
  · have e : 2 ^ (L - 1) * 2 ^ (64 - L) = 9223372036854775808 := by rw [← Nat.pow_add, show L - 1 + (64 - L) = 63 by omega]
    rw [← e]; exact Nat.mul_le_mul_right _ b
  · have e : 2 ^ L * 2 ^ (64 - L) = 18446744073709551616 := by rw [← Nat.pow_add, show L + (64 - L) = 64 by omega]
    rw [← e]; exact (Nat.mul_lt_mul_right (Nat.two_pow_pos _)).2 c
end Go.Proofs.YtegobakoflbnfaaGreatDoor
