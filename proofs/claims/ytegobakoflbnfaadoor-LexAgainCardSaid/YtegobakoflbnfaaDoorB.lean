/- strings.IndexRune and ContainsRune of an ASCII text at a rune beyond ASCII; classOf. -/
import Derived.Test.YtegobakoflbnfaaDoorR
import Derived.Test.YtegobakoflbnfaaDoorS
import Derived.Lib.IndexLaws
import Derived.WalkMore
import Derived.ScopeJumps
namespace Go.Proofs.YtegobakoflbnfaaDoor
open Go Go.RowKit

theorem indexByte_not : ∀ (l : List UInt8) (c : UInt8), c ∉ l → Lib.indexByte l c = -1
  | [], _, _ => rfl
  | b :: l, c, h => by
    have h1 : (b == c) = false := by rw [beq_eq_false_iff_ne]; intro e; exact h (by simp [e])
    have h2 := indexByte_not l c (fun hm => h (by simp [hm]))
    unfold Lib.indexByte
    rw [h1, h2]; rfl
theorem bel_iter {B : Nat} {a w : World} (h : Below B a w) {k : Nat} (hk : B ≤ k) (s : ByteArray) (pos : Nat) : Below B a (w.iterAt k s pos) := Lib.below_iterAt h hk s pos

set_option maxHeartbeats 4000000 in
set_option maxRecDepth 100000 in
theorem index_rune_err {s : ByteArray} (hs : ∀ i (h : i < s.size), s[i].toNat < 128) (w : World) : Calls Tryd.prog 67 #[.string s, .int .i32 65533] w fun e w' => e = .returned (.int .i64 (-1)) ∧ Below w.heap.size w w' := by
  have HS := Lib.hid hs; clear hs
  go_enter Tryd.func67, Tryd.ntmps67
  go_wp2_with fail
  go_loopg [] s.size (fun gf wx => ∃ pos : Nat, wx.heap[w.heap.size]? = some (.stringIter s pos) ∧ Below w.heap.size w wx ∧ s.size ≤ pos + gf)
  case atStart => exact ⟨0, World.iter_heap w s 0, (Below.refl _ w).alloc (Nat.le_refl _) _, by omega⟩
  case round =>
    obtain ⟨pos, hit, hbw, hfu⟩ := hrel
    by_cases hps : pos < s.size
    · obtain ⟨g', rfl⟩ : ∃ g', gk = g' + 1 := ⟨gk - 1, by omega⟩
      have hnx : ∀ ty, (Instr.next (.pointer (some ⟨w.heap.size, 0, none⟩)) true ty).run Tryd.prog wr = _ := fun ty => Lib.run_next_any_at wr w.heap.size s pos ty hit hps
      have hd := decode_ascii s pos hps (HS.out pos hps)
      have hlt := HS.out pos hps
      rw [hd] at hnx
      have hne : (((s[pos].toNat : Nat) : Int) == 65533) = false := by rw [beq_eq_false_iff_ne]; omega
      have hit2 := Lib.iterAt_heap wr w.heap.size s pos (pos + 1) hit
      have hbw2 := Lib.below_iterAt hbw (k := w.heap.size) (Nat.le_refl _) s (pos + 1)
      obtain ⟨W, hWd⟩ : ∃ W, wr.iterAt w.heap.size s (pos + 1) = W := ⟨_, rfl⟩
      rw [hWd] at hnx hit2 hbw2
      generalize s[pos].toNat = x at *
      clear hd
      go_wp2_with fail
      go_roundg g'
      case measure => omega
      case rel => exact ⟨pos + 1, hit2, hbw2, by omega⟩
    · have hnx : ∀ ty, (Instr.next (.pointer (some ⟨w.heap.size, 0, none⟩)) true ty).run Tryd.prog wr = _ := fun ty => Lib.run_next_end_at wr w.heap.size s pos ty hit hps
      go_wp2_with fail
      go_ret
      exact ⟨rfl, hbw⟩

set_option maxHeartbeats 4000000 in
set_option maxRecDepth 100000 in
theorem index_rune_high {s : ByteArray} (hs : ∀ b ∈ s.data.toList, b.toNat < 128) (h1 : 4 ≤ s.size) (h2 : s.size ≤ 1000) (w : World) (r : Int) (hr : 128 ≤ r) (hne : r ≠ 65533) : Calls Tryd.prog 67 #[.string s, .int .i32 r] w fun e w' => e = .returned (.int .i64 (-1)) ∧ Below w.heap.size w w' := by
  have VR := Lib.hid (Tryd.utf8_ValidRune r)
  have t1 : decide (0 ≤ r) = true := decide_eq_true (by omega)
  have t2 : decide (r < 128) = false := decide_eq_false (by omega)
  have t3 : (r == 65533) = false := by rw [beq_eq_false_iff_ne]; exact hne
  cases hv : Lib.validRune r
  · rw [hv] at VR
    clear hs h1 h2 hr hne hv
    go_enter Tryd.func67, Tryd.ntmps67
    go_wp2_with fail
    refine (VR.out _).mono ?_; rintro e w1 ⟨rfl, rfl⟩
    go_wp2_with fail
    go_ret
    exact ⟨rfl, Below.refl _ _⟩
  · rw [hv] at VR
    have hvv : Utf8.valid r = true := by rw [validRune_eq]; exact hv
    obtain ⟨e1, e2, e3⟩ := encode_facts r hvv hr
    obtain ⟨E, hE⟩ : ∃ E, Utf8.encode r = E := ⟨_, rfl⟩
    rw [hE] at e1 e2 e3
    obtain ⟨k, hk⟩ : ∃ k, E.size = k + 1 := ⟨E.size - 1, by omega⟩
    have hk1 : k < E.size := by omega
    have hk2 : k < s.size := by omega
    have hx : 128 ≤ E[k].toNat := by
      have h9 := e3 (by omega)
      have e9 : E.size - 1 = k := by omega
      simpa [e9] using h9
    have hy : s[k].toNat < 128 := hs _ (by show s.data[k]'hk2 ∈ s.data.toList; simp)
    have hsub : wrap64 ((E.size : Int) - 1) = (k : Int) := by rw [hk]; unfold wrap64; omega
    have hadd : wrap64 ((k : Int) + 1) = ((k + 1 : Nat) : Int) := wnat (by omega)
    have hadd2 : IntKind.i64.wrap ((k : Int) + 1) = ((k + 1 : Nat) : Int) := by rw [wrap_small _ (by omega) (by omega)]; omega
    have hsl : 0 ≤ (k : Int) + 1 ∧ (k : Int) + 1 ≤ (s.size : Int) := by omega
    have hnx : ((s[k].toNat : Int) != (E[k].toNat : Int)) = true := by rw [bne_iff_ne]; omega
    have IB : Hid (∀ W, Calls Tryd.prog 87 #[.string (s.extract (k + 1) s.size), .int .u8 (E[k].toNat : Int)] W fun e w' => e = .returned (.int .i64 (-1)) ∧ w' = W) := fun W => by
      have h9 := Tryd.strings_IndexByte (s.extract (k + 1) s.size) (E[k].toNat : Int) W
      have h8 : Lib.indexByte (s.extract (k + 1) s.size).data.toList ((E[k].toNat : Int).toNat.toUInt8) = -1 := indexByte_not _ _ (fun hm => by
        have h7 := hs _ (mem_extract hm)
        have h6 : ((E[k].toNat : Int).toNat.toUInt8).toNat = E[k].toNat := by simp
        omega)
      rwa [h8] at h9
    have hk3 : k + 1 ≤ s.size := by omega
    have hcv : ∀ w, (convert 21 9 (.int .i32 r)).run Tryd.prog w = .ok (.string E) w := fun w => by rw [run_convert_int_string w 21 9 .i32 r (by rw [Tryd.underlying21]; rfl) Tryd.underlying9, hE]
    clear hs h1 h2 hr hne hv e1 e2 e3 hvv hk hx hy
    go_enter Tryd.func67, Tryd.ntmps67
    go_wp2_with fail
    refine (VR.out _).mono ?_; rintro e w1 ⟨rfl, rfl⟩
    go_wp2_with fail
    go_step3
    go_wp2_with fail
    go_loopw [9] (fun v9 wr => v9 = .int .i64 (k : Int) ∧ wr = w1) (fun _ _ => 0)
    case atStart => exact ⟨congrArg (Value.int .i64) hsub, rfl⟩
    case round =>
      obtain ⟨rfl, rfl⟩ := hrel
      go_wp2_with fail
      go_step3
      go_wp2_with fail
      rw [hsub]
      refine region_inv 6 187 [(27, Is (.string s)), (28, Is (.int .i64 (k : Int))), (29, Is (.int .u8 (s[k].toNat : Int))), (30, Is (.string E)), (31, Is (.int .i64 (k : Int))), (32, Is (.int .u8 (E[k].toNat : Int)))] (by kernel_rfl) rfl (by kernel_rfl) ?_ ?_
      · refine steps_cons rfl (fun A_ W hb hr hg K hK => ?_) <| steps_cons rfl (fun A_ W hb hr hg K hK => ?_) <| steps_cons rfl (fun A_ W hb hr hg K hK => ?_) <| steps_cons rfl (fun A_ W hb hr hg K hK => ?_) <| steps_cons rfl (fun A_ W hb hr hg K hK => ?_) <| steps_cons rfl (fun A_ W hb hr hg K hK => ?_) trivial
        · have e0 : A_.tmps[0]?.getD undef = .string s := hb 0 (by kernel_rfl)
          clear hb hr; go_simp; exact hK _ _ (Below.refl _ _) rfl
        · have e0 : A_.tmps[9]?.getD undef = .int .i64 (k : Int) := hb 9 (by kernel_rfl)
          clear hb hr; go_simp; exact hK _ _ (Below.refl _ _) rfl
        · have e0 : A_.tmps[27]?.getD undef = .string s := hr 27 (by kernel_rfl)
          have e1 : A_.tmps[28]?.getD undef = .int .i64 (k : Int) := hr 28 (by kernel_rfl)
          clear hb hr; go_simp; exact hK _ _ (Below.refl _ _) rfl
        · have e0 : A_.tmps[7]?.getD undef = .string E := hb 7 (by kernel_rfl)
          clear hb hr; go_simp; exact hK _ _ (Below.refl _ _) rfl
        · have e0 : A_.tmps[8]?.getD undef = .int .i64 (k : Int) := hb 8 (by kernel_rfl)
          clear hb hr; go_simp; exact hK _ _ (Below.refl _ _) rfl
        · have e0 : A_.tmps[30]?.getD undef = .string E := hr 30 (by kernel_rfl)
          have e1 : A_.tmps[31]?.getD undef = .int .i64 (k : Int) := hr 31 (by kernel_rfl)
          clear hb hr; go_simp; exact hK _ _ (Below.refl _ _) rfl
      rintro g4 w2 hb2 ⟨-, -, h29, -, -, h32, -⟩
      simp only [List.drop_succ_cons, List.drop_zero, List.take_succ_cons, List.take_zero, putHead, Option.getD_some, Act.put, List.setIfInBounds_toArray, List.set_cons_zero, List.set_cons_succ]
      replace h29 : g4 29 = .int .u8 (s[k].toNat : Int) := h29
      replace h32 : g4 32 = .int .u8 (E[k].toNat : Int) := h32
      generalize g4 29 = v29 at *
      generalize g4 32 = v32 at *
      subst h29 h32
      go_wp2_with fail
      refine region_inv 8 187 [(34, Is (.string s)), (35, Is (.int .i64 (k : Int))), (36, Is (.int .i64 ((k + 1 : Nat) : Int))), (37, Is (.string (s.extract (k + 1) s.size))), (38, Is (.string E)), (39, Is (.int .i64 (k : Int))), (40, Is (.int .u8 (E[k].toNat : Int))), (41, Is (.int .i64 (-1)))] (by kernel_rfl) rfl (by kernel_rfl) ?_ ?_
      · refine steps_cons rfl (fun A_ W hb hr hg K hK => ?_) <| steps_cons rfl (fun A_ W hb hr hg K hK => ?_) <| steps_cons rfl (fun A_ W hb hr hg K hK => ?_) <| steps_cons rfl (fun A_ W hb hr hg K hK => ?_) <| steps_cons rfl (fun A_ W hb hr hg K hK => ?_) <| steps_cons rfl (fun A_ W hb hr hg K hK => ?_) <| steps_cons rfl (fun A_ W hb hr hg K hK => ?_) <| steps_cons rfl (fun A_ W hb hr hg K hK => ?_) trivial
        · have e0 : A_.tmps[0]?.getD undef = .string s := hb 0 (by kernel_rfl)
          clear hb hr; go_simp; exact hK _ _ (Below.refl _ _) rfl
        · have e0 : A_.tmps[9]?.getD undef = .int .i64 (k : Int) := hb 9 (by kernel_rfl)
          clear hb hr; go_simp; exact hK _ _ (Below.refl _ _) rfl
        · have e0 : A_.tmps[35]?.getD undef = .int .i64 (k : Int) := hr 35 (by kernel_rfl)
          clear hb hr; go_simp; exact hK _ _ (Below.refl _ _) (congrArg (Value.int .i64) (by omega))
        · have e0 : A_.tmps[34]?.getD undef = .string s := hr 34 (by kernel_rfl)
          have e1 : A_.tmps[36]?.getD undef = .int .i64 ((k + 1 : Nat) : Int) := hr 36 (by kernel_rfl)
          clear hb hr; go_simp; exact hK _ _ (Below.refl _ _) rfl
        · have e0 : A_.tmps[7]?.getD undef = .string E := hb 7 (by kernel_rfl)
          clear hb hr; go_simp; exact hK _ _ (Below.refl _ _) rfl
        · have e0 : A_.tmps[8]?.getD undef = .int .i64 (k : Int) := hb 8 (by kernel_rfl)
          clear hb hr; go_simp; exact hK _ _ (Below.refl _ _) rfl
        · have e0 : A_.tmps[38]?.getD undef = .string E := hr 38 (by kernel_rfl)
          have e1 : A_.tmps[39]?.getD undef = .int .i64 (k : Int) := hr 39 (by kernel_rfl)
          clear hb hr; go_simp; exact hK _ _ (Below.refl _ _) rfl
        · have e0 : A_.tmps[37]?.getD undef = .string (s.extract (k + 1) s.size) := hr 37 (by kernel_rfl)
          have e1 : A_.tmps[40]?.getD undef = .int .u8 (E[k].toNat : Int) := hr 40 (by kernel_rfl)
          clear hb hr; go_simp
          refine (IB.out _).mono ?_; rintro e w5 ⟨rfl, rfl⟩
          exact hK _ _ (Below.refl _ _) rfl
      rintro g4 w3 hb3 ⟨-, -, -, -, -, -, -, h41, -⟩
      have HBX := Lib.hid (hb2.trans (hb3.mono hb2.size))
      simp only [List.drop_succ_cons, List.drop_zero, List.take_succ_cons, List.take_zero, putHead, Option.getD_some, Act.put, List.setIfInBounds_toArray, List.set_cons_zero, List.set_cons_succ]
      replace h41 : g4 41 = .int .i64 (-1) := h41
      generalize g4 41 = v41 at *
      subst h41
      go_wp2_with fail
      change bodyPost Tryd.prog Tryd.f67 (fun e w' => e = Ending.returned (Value.int IntKind.i64 (-1)) ∧ Below wr.heap.size wr w') Exit.ret _ _
      go_ret
      exact ⟨rfl, HBX.out⟩

end Go.Proofs.YtegobakoflbnfaaDoor
