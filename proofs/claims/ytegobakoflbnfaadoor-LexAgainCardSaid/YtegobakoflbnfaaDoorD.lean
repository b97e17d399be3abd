/- run: how many bytes at a text's beginning are of some classes. -/
import Derived.Test.YtegobakoflbnfaaDoorC
namespace Go.Proofs.YtegobakoflbnfaaDoor
open Go Go.RowKit

def inC (l : List Int) (b : UInt8) : Bool := decide (classN b.toNat ∈ l)
/-- the number of bytes at the beginning of which all are so -/
def pre (p : UInt8 → Bool) (s : List UInt8) : Nat := (s.takeWhile p).length
theorem class_high (r : Nat) (h : 128 ≤ r) : classN r = 0 := by
  unfold classN
  rw [sig_high r h]
  (repeat' split) <;> first | rfl | omega | (exfalso; simp_all; done)
theorem pre_at : ∀ (p : UInt8 → Bool) (l : List UInt8) (k : Nat), (l.take k).all p = true → k ≤ l.length → (l[k]? = none ∨ ∃ x, l[k]? = some x ∧ p x = false) → pre p l = k
  | p, [], k, _, hk, _ => by simp at hk; subst hk; rfl
  | p, b :: l, 0, _, _, h => by
    rcases h with h | ⟨x, h, hx⟩
    · simp at h
    · simp at h; subst h
      unfold pre; rw [List.takeWhile_cons, hx]; rfl
  | p, b :: l, k + 1, ha, hk, h => by
    rw [List.take_succ_cons, List.all_cons, Bool.and_eq_true] at ha
    have := pre_at p l k ha.2 (by simpa using hk) (by simpa using h)
    unfold pre at this ⊢
    rw [List.takeWhile_cons, ha.1]
    simp [this]
theorem pre_le (p : UInt8 → Bool) (l : List UInt8) : pre p l ≤ l.length := by
  induction l with
  | nil => exact Nat.le_refl _
  | cons b l ih =>
    unfold pre at ih ⊢
    rw [List.takeWhile_cons]
    split
    · simp; exact ih
    · simp
theorem pre_all : ∀ (p : UInt8 → Bool) (l : List UInt8), (l.take (pre p l)).all p = true
  | p, [] => rfl
  | p, b :: l => by
    unfold pre
    rw [List.takeWhile_cons]
    split
    · rename_i h
      have := pre_all p l
      unfold pre at this
      rw [List.length_cons, List.take_succ_cons, List.all_cons, h, this]; rfl
    · rfl

set_option maxHeartbeats 4000000 in
set_option maxRecDepth 100000 in
theorem run_any {w : World} {v : Value} {l : List Int} (hv : Cls w v l) (hn : l.length ≤ 1000) (h0 : (0 : Int) ∉ l) (s : ByteArray) : Calls Tryd.prog 34 #[.string s, v] w fun e w' => e = .returned (.int .i64 (pre (inC l) s.data.toList : Nat)) ∧ Below w.heap.size w w' := by
  have CN : Hid (∀ W c, Below w.heap.size w W → Calls Tryd.prog 50 #[v, .int .i64 c] W fun e w' => e = .returned (.bool (decide (c ∈ l))) ∧ w' = W) := fun W c hb => contains_any (hv.go hb) hn c
  obtain ⟨b, off, cap, rfl, -⟩ := hv
  have H0 := Lib.hid h0
  obtain ⟨n, hl⟩ : ∃ n, l.length = n := ⟨_, rfl⟩
  rw [hl] at CN ⊢
  clear hn h0 hl
  go_enter Tryd.func34, Tryd.ntmps34
  go_wp2_with fail
  go_loopg [] s.size (fun gf wx => ∃ pos : Nat, wx.heap[w.heap.size]? = some (.stringIter s pos) ∧ Below w.heap.size w wx ∧ pos ≤ s.size ∧ s.size ≤ pos + gf ∧ Hid ((s.data.toList.take pos).all (inC l) = true))
  case atStart => exact ⟨0, World.iter_heap w s 0, (Below.refl _ w).alloc (Nat.le_refl _) _, Nat.zero_le _, by omega, by rw [List.take_zero]; rfl⟩
  case round =>
    obtain ⟨pos, hit, hbw, hle, hfu, hall⟩ := hrel
    have HALL := Lib.hid hall.out; clear hall
    by_cases hps : pos < s.size
    · obtain ⟨g', rfl⟩ : ∃ g', gk = g' + 1 := ⟨gk - 1, by omega⟩
      have hnx : ∀ ty, (Instr.next (.pointer (some ⟨w.heap.size, 0, none⟩)) true ty).run Tryd.prog wr = _ := fun ty => Lib.run_next_any_at wr w.heap.size s pos ty hit hps
      have hg : s.data.toList[pos]? = some s[pos] := by rw [List.getElem?_eq_getElem (by rw [Array.length_toList]; exact hps)]; rfl
      by_cases ha : s[pos].toNat < 128
      · have hd := decode_ascii s pos hps ha
        rw [hd] at hnx
        have hit2 := Lib.iterAt_heap wr w.heap.size s pos (pos + 1) hit
        have hbw2 := Lib.below_iterAt hbw (k := w.heap.size) (Nat.le_refl _) s (pos + 1)
        obtain ⟨W, hWd⟩ : ∃ W, wr.iterAt w.heap.size s (pos + 1) = W := ⟨_, rfl⟩
        rw [hWd] at hnx hit2 hbw2
        have CA := Lib.hid (class_any W s[pos].toNat)
        have HP : Hid (inC l s[pos] = decide (classN s[pos].toNat ∈ l)) := rfl
        have HT : Hid (s.data.toList.take (pos + 1) = s.data.toList.take pos ++ [s[pos]]) := by show _ = _; rw [List.take_add_one, hg]; rfl
        have HG := Lib.hid hg
        clear hd hit hbw hg
        generalize s[pos] = x at *
        go_wp2_with fail
        refine CA.out.mono ?_; rintro e w1 ⟨rfl, hb1⟩
        have hbw3 := hbw2.trans (hb1.mono hbw2.size)
        have hit3 := (hb1.block w.heap.size (lt_of_block hit2)).trans hit2
        have CC := Lib.hid (CN.out w1 (classN x.toNat) hbw3)
        have HB3 := Lib.hid hbw3; have HI3 := Lib.hid hit3
        clear hb1 hbw2 hit2 hbw3 hit3 CA
        rw [← HP.out] at CC
        cases hp : inC l x
        · rw [hp] at CC
          have HR : Hid (pre (inC l) s.data.toList = pos) := pre_at _ _ _ HALL.out (by rw [Array.length_toList]; exact hle) (.inr ⟨x, HG.out, hp⟩)
          clear hp
          go_wp2_with fail
          refine CC.out.mono ?_; rintro e w2 ⟨rfl, rfl⟩
          go_wp2_with fail
          go_ret
          exact ⟨by rw [HR.out]; rfl, HB3.out⟩
        · rw [hp] at CC
          have HA : Hid ((s.data.toList.take (pos + 1)).all (inC l) = true) := by show _ = _; rw [HT.out, List.all_append, HALL.out]; simp [hp]
          clear hp
          go_wp2_with fail
          refine CC.out.mono ?_; rintro e w2 ⟨rfl, rfl⟩
          go_wp2_with fail
          go_roundg g'
          case measure => omega
          case rel => exact ⟨pos + 1, HI3.out, HB3.out, hps, by omega, HA.out⟩
      · obtain ⟨hd, hd2⟩ := decode_high s pos hps (by omega)
        have HP : Hid (inC l s[pos] = false) := by
          show _ = _
          unfold inC
          rw [class_high _ (by omega), decide_eq_false H0.out]
        have hit2 := Lib.iterAt_heap wr w.heap.size s pos (pos + (Utf8.decode s pos).2) hit
        have hbw2 := Lib.below_iterAt hbw (k := w.heap.size) (Nat.le_refl _) s (pos + (Utf8.decode s pos).2)
        obtain ⟨R, hR⟩ : ∃ R, (Utf8.decode s pos).1 = R := ⟨_, rfl⟩
        obtain ⟨K, hK⟩ : ∃ K, (Utf8.decode s pos).2 = K := ⟨_, rfl⟩
        rw [hR, hK] at hnx
        rw [hK] at hit2 hbw2
        rw [hR] at hd
        obtain ⟨W, hWd⟩ : ∃ W, wr.iterAt w.heap.size s (pos + K) = W := ⟨_, rfl⟩
        rw [hWd] at hnx hit2 hbw2
        have CA : Hid (Calls Tryd.prog 37 #[.int .i32 (R : Int)] W fun e w' => e = .returned (.int .i64 0) ∧ Below W.heap.size W w') := by
          have := class_any W R
          rwa [class_high R hd] at this
        have HR : Hid (pre (inC l) s.data.toList = pos) := pre_at _ _ _ HALL.out (by rw [Array.length_toList]; exact hle) (.inr ⟨_, hg, HP.out⟩)
        clear hd hd2 hit hbw hg hR hK ha HP hWd
        go_wp2_with fail
        refine CA.out.mono ?_; rintro e w1 ⟨rfl, hb1⟩
        have hbw3 := hbw2.trans (hb1.mono hbw2.size)
        have CC := Lib.hid (CN.out w1 0 hbw3)
        rw [decide_eq_false H0.out] at CC
        have HB3 := Lib.hid hbw3
        clear hb1 hbw2 hit2 hbw3 CA
        go_wp2_with fail
        refine CC.out.mono ?_; rintro e w2 ⟨rfl, rfl⟩
        go_wp2_with fail
        go_ret
        exact ⟨by rw [HR.out]; rfl, HB3.out⟩
    · have hnx : ∀ ty, (Instr.next (.pointer (some ⟨w.heap.size, 0, none⟩)) true ty).run Tryd.prog wr = _ := fun ty => Lib.run_next_end_at wr w.heap.size s pos ty hit hps
      have HR : Hid ((pre (inC l) s.data.toList : Nat) = s.size) := by
        show _ = _
        have h1 := pre_at (inC l) s.data.toList pos HALL.out (by rw [Array.length_toList]; exact hle) (.inl (List.getElem?_eq_none (by rw [Array.length_toList]; exact Nat.le_of_not_lt hps)))
        omega
      go_wp2_with fail
      go_ret
      exact ⟨by rw [HR.out]; rfl, hbw⟩
end Go.Proofs.YtegobakoflbnfaaDoor
