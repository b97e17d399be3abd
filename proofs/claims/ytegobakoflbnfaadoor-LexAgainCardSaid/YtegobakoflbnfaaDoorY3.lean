/- The reference's IsWord; both say the same; LexWords. -/
import Derived.Test.YtegobakoflbnfaaDoorY2
namespace Go.Proofs.YtegobakoflbnfaaDoor
open Go Go.RowKit

def headLet (l : List UInt8) : Bool := match l with
  | [] => false
  | b :: _ => isLet b.toNat
def refWordB (s : ByteArray) : Bool := decide (1 ≤ s.size) && decide (s.size ≤ 20) && headLet s.data.toList && decide (pre wordP s.data.toList = s.size) && !anyS keysB s
theorem let_cl : ∀ n : Fin 256, isLet n.val = decide (classN n.val = 3) := by decide +kernel
theorem let_class (b : UInt8) : isLet b.toNat = decide (classN b.toNat = 3) := let_cl ⟨b.toNat, b.toNat_lt⟩
theorem word_cl : ∀ n : Fin 256, (isDg n.val || isLet n.val || decide (n.val = 95)) = decide (classN n.val ∈ ([3, 4, 5] : List Int)) := by decide +kernel
theorem word_class : wordP = inC [3, 4, 5] := by
  funext b
  exact word_cl ⟨b.toNat, b.toNat_lt⟩
theorem any_key (s : ByteArray) : anyS keysB s = isKey s.toList := by
  unfold anyS keysB isKey
  rw [List.any_map]
  congr 1
  funext k
  show ((⟨k.toArray⟩ : ByteArray).toList == s.toList) = (s.toList == k)
  rw [Lib.toList_data (⟨k.toArray⟩ : ByteArray)]
  show (k == s.toList) = _
  rw [Bool.eq_iff_iff, beq_iff_eq, beq_iff_eq]
  exact eq_comm
theorem extract_all (s : ByteArray) : s.extract 0 s.size = s := by
  apply ByteArray.ext
  rw [ByteArray.data_extract]
  exact Array.extract_size
theorem same_word (s : ByteArray) : isWordB s = refWordB s := by
  unfold isWordB refWordB
  have hsz : s.data.toList.length = s.size := Array.length_toList
  cases hl : s.data.toList with
  | nil =>
    have h0 : s.size = 0 := by rw [← hsz, hl]; rfl
    have hc : cl0 s = -1 := by unfold cl0; rw [hl]
    have hf : firstT s = noT := by unfold firstT; rw [hc]; rfl
    rw [hf, h0]; rfl
  | cons b l =>
    have hs1 : 1 ≤ s.size := by rw [← hsz, hl]; simp
    have hc : cl0 s = classN b.toNat := by unfold cl0; rw [hl]
    have hh : headLet (b :: l) = decide (classN b.toNat = 3) := let_class b
    rw [hh]
    by_cases h3 : classN b.toNat = 3
    · have hf : firstT s = wordT s := by unfold firstT; rw [hc, if_pos h3]
      rw [hf, decide_eq_true h3, decide_eq_true hs1, word_class, ← hl]
      have hle := pre_le (inC [3, 4, 5]) s.data.toList
      unfold wordT
      generalize hp : pre (inC [3, 4, 5]) s.data.toList = p at *
      by_cases h20 : 20 < p
      · rw [if_pos h20]
        have : ¬ (s.size ≤ 20 ∧ p = s.size) := by omega
        by_cases hps : p = s.size
        · rw [decide_eq_false (show ¬ s.size ≤ 20 by omega)]; rfl
        · rw [decide_eq_false hps]; simp [noT]
      · rw [if_neg h20]
        by_cases hps : p = s.size
        · subst hps
          rw [extract_all, any_key]
          have : s.size ≤ 20 := by omega
          rw [decide_eq_true this]
          cases hk : isKey s.toList
          · simp; omega
          · simp
        · rw [decide_eq_false hps]
          split <;> simp [hps]
    · have hk : (firstT s).1 ≠ 1 := by
        unfold firstT
        rw [hc, if_neg h3]
        split
        · unfold numberT; split; exact (by decide : (0 : Int) ≠ 1); exact (by decide : (3 : Int) ≠ 1)
        · split
          · unfold quotedT; split; exact (by decide : (0 : Int) ≠ 1); exact (by decide : (4 : Int) ≠ 1)
          · split
            · show (5 : Int) ≠ 1; decide
            · decide
      rw [decide_eq_false h3, show ((firstT s).1 == 1) = false from by rw [beq_eq_false_iff_ne]; exact hk]
      simp

set_option maxHeartbeats 4000000 in
set_option maxRecDepth 100000 in
theorem refword_any (w : World) (s : ByteArray) (hs : s.size ≤ 140737488355328) : Calls Tryd.prog 12 #[.string s] w fun e w' => e = .returned (.bool (refWordB s)) ∧ Below w.heap.size w w' := by
  obtain ⟨x, hx⟩ : ∃ x, x = refWordB s := ⟨_, rfl⟩
  rw [← hx]
  unfold refWordB at hx
  have HX := Lib.hid hx
  clear hx
  by_cases h1 : 1 ≤ s.size
  · by_cases h20 : s.size ≤ 20
    · have hs0 : 0 < s.size := h1
      obtain ⟨b, hbe⟩ : ∃ b, b = s[0] := ⟨_, rfl⟩
      obtain ⟨l, hl⟩ : ∃ l, s.data.toList = b :: l := by
        have h1 := Lib.data_getElem? s 0 hs0
        cases hd : s.data.toList with
        | nil => rw [hd] at h1; simp at h1
        | cons a l => rw [hd] at h1; simp at h1; exact ⟨l, by rw [h1, hbe]⟩
      have hbi : (s[0].toNat : Int) = (b.toNat : Int) := by rw [hbe]
      have hh : headLet s.data.toList = isLet b.toNat := by rw [hl]; rfl
      have LA := Lib.hid (letter_any w b.toNat)
      have RU := Lib.hid (rrun_any w s hs)
      have KE := Lib.hid (keys_any w)
      have IN : Hid (∀ W v, StrAt W v keysB → Calls Tryd.prog 23 #[v, .string s] W fun e w' => e = .returned (.bool (anyS keysB s)) ∧ w' = W) := fun W v h => in_any W v keysB s h (by decide)
      have hple := pre_le wordP s.data.toList
      obtain ⟨p, hp⟩ : ∃ p, p = pre wordP s.data.toList := ⟨_, rfl⟩
      rw [← hp] at RU
      have HX2 : Hid (x = (isLet b.toNat && decide (p = s.size) && !anyS keysB s)) := by show _ = _; rw [HX.out, decide_eq_true h1, decide_eq_true h20, hh, ← hp]; rfl
      clear HX hl hbe hh hp hple hs
      cases hll : isLet b.toNat
      · rw [hll] at LA
        have HR : Hid (x = false) := by show _ = _; rw [HX2.out, hll]; rfl
        clear hll HX2
        go_enter Tryd.func12, Tryd.ntmps12
        go_wp2_with fail
        refine LA.out.mono ?_; rintro e w2 ⟨rfl, rfl⟩
        go_wp2_with fail
        go_ret
        exact ⟨by rw [HR.out]; rfl, Below.refl _ _⟩
      · rw [hll] at LA
        by_cases hps : p = s.size
        · have HR : Hid (x = !anyS keysB s) := by show _ = _; rw [HX2.out, hll, decide_eq_true hps]; rfl
          subst hps
          clear hll HX2
          go_enter Tryd.func12, Tryd.ntmps12
          go_wp2_with fail
          refine LA.out.mono ?_; rintro e w2 ⟨rfl, rfl⟩
          go_wp2_with fail
          refine RU.out.mono ?_; rintro e w2 ⟨rfl, rfl⟩
          go_wp2_with fail
          refine KE.out.mono ?_; rintro e w3 ⟨v, rfl, hv, hb⟩
          have HB := Lib.hid hb
          have IV := Lib.hid (IN.out w3 v hv)
          clear hb hv
          go_wp2_with fail
          refine IV.out.mono ?_; rintro e w4 ⟨rfl, rfl⟩
          go_wp2_with fail
          go_ret
          exact ⟨by rw [HR.out]; rfl, HB.out⟩
        · have HR : Hid (x = false) := by show _ = _; rw [HX2.out, hll, decide_eq_false hps]; rfl
          have p0 : ((p : Int) == (s.size : Int)) = false := by rw [beq_eq_false_iff_ne]; omega
          clear hll HX2
          go_enter Tryd.func12, Tryd.ntmps12
          go_wp2_with fail
          refine LA.out.mono ?_; rintro e w2 ⟨rfl, rfl⟩
          go_wp2_with fail
          refine RU.out.mono ?_; rintro e w2 ⟨rfl, rfl⟩
          go_wp2_with fail
          go_ret
          exact ⟨by rw [HR.out]; rfl, Below.refl _ _⟩
    · have HR : Hid (x = false) := by show _ = _; rw [HX.out, decide_eq_false h20]; simp
      go_enter Tryd.func12, Tryd.ntmps12
      go_wp2_with fail
      go_ret
      exact ⟨by rw [HR.out]; rfl, Below.refl _ _⟩
  · have HR : Hid (x = false) := by show _ = _; rw [HX.out, decide_eq_false h1]; rfl
    go_enter Tryd.func12, Tryd.ntmps12
    go_wp2_with fail
    go_ret
    exact ⟨by rw [HR.out]; rfl, Below.refl _ _⟩

set_option maxHeartbeats 4000000 in
set_option maxRecDepth 100000 in
theorem words_any (w : World) (s : ByteArray) (hs : s.size ≤ 140737488355328) (hm : MaxL w) (ht : Pow10 w) : Calls Tryd.prog 3 #[.string s] w fun e w' => e = .returned (.bool true) ∧ Below w.heap.size w w' := by
  have F := Lib.hid (isword_any w s hs hm ht)
  rw [same_word] at F
  have R : Hid (∀ W, Calls Tryd.prog 12 #[.string s] W fun e w' => e = .returned (.bool (refWordB s)) ∧ Below W.heap.size W w') := fun W => refword_any W s hs
  have AL : Hid (∀ W, Below w.heap.size w W → Calls Tryd.prog 13 #[] W fun e w' => e = .returned (.bool true) ∧ Below W.heap.size W w') := fun W hb => alive_any W (hm.go hb) (ht.go hb)
  obtain ⟨b, hb⟩ : ∃ b, b = refWordB s := ⟨_, rfl⟩
  rw [← hb] at F R
  have b0 : (b == b) = true := beq_self_eq_true b
  clear hb hs hm ht
  go_enter Tryd.func3, Tryd.ntmps3
  go_wp2_with fail
  refine F.out.mono ?_; rintro e w2 ⟨rfl, hb⟩
  have HB := Lib.hid hb; clear hb
  go_wp2_with fail
  refine (R.out _).mono ?_; rintro e w3 ⟨rfl, hb⟩
  have HB2 := Lib.hid (bstep HB.out hb); clear hb HB
  go_wp2_with fail
  refine (AL.out _ HB2.out).mono ?_; rintro e w4 ⟨rfl, hb⟩
  have HB3 := Lib.hid (bstep HB2.out hb); clear hb HB2
  go_wp2_with fail
  go_ret
  exact ⟨rfl, HB3.out⟩
end Go.Proofs.YtegobakoflbnfaaDoor
