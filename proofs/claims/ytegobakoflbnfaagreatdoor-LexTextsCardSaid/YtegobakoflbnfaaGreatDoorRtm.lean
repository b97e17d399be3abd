/- Text: lists of more than 2000 tokens; the joined text, token by token; a byte behind bytes. -/
import Derived.Test.YtegobakoflbnfaaGreatDoorRwr
namespace Go.Proofs.YtegobakoflbnfaaGreatDoor
open Go Go.RowKit

/-- what Text answers, of lists of any length -/
def textM (L : List Tk) : ByteArray × Int := if L.all isT = true then (if 2000 < L.length ∨ 8000 < (joinedT L).size then (⟨#[]⟩, 2) else (joinedT L, 0)) else (⟨#[]⟩, 1)
theorem textM_few {L : List Tk} (h : L.length ≤ 2000) : textT L = textM L := by
  unfold textT textM
  by_cases h1 : L.all isT = true
  · rw [if_pos h1, if_pos h1]
    by_cases h2 : 8000 < (joinedT L).size
    · rw [if_pos h2, if_pos (Or.inr h2)]
    · rw [if_neg h2, if_neg (by intro h9; rcases h9 with h9 | h9 <;> omega)]
  · rw [if_neg h1, if_neg h1]
def joinL (L : List Tk) : List UInt8 := Lib.join (L.map fun t => (wrT t).data.toList) [32]
theorem joined_size (L : List Tk) : (joinedT L).size = (joinL L).length := by
  show (joinL L).toArray.size = _
  rw [List.size_toArray]
theorem join_nil : joinL [] = [] := rfl
theorem join_snoc : ∀ (L : List Tk) (t : Tk), joinL (L ++ [t]) = joinL L ++ (if L.length = 0 then [] else [32]) ++ (wrT t).data.toList
  | [], t => by
    show Lib.join [(wrT t).data.toList] [32] = _
    rw [Lib.join_one]; rfl
  | a :: L, t => by
    rw [if_neg (by simp)]
    unfold joinL
    rw [List.cons_append]
    simp only [List.map_cons, List.map_append, List.map_nil, Lib.join_cons]
    simp [Lib.joinTail, List.append_assoc]
set_option maxRecDepth 100000 in
theorem bytes_one {ops : Array Oper} {rest : List Oper} {o : Oper} {a : Act} {w : World} {Q : Exit → Act → World → Prop} (hgd : o.guard = none) (sl x : Operand)
    (ho : o.op = .call { callee := .builtin .append, args := #[sl, x], argTypes := #[30, 30] }) {B g : Nat} {v : Value} {L : List UInt8} {c : UInt8} (hs : a.eval sl = v) (hown : QA.Bytes w B v L) (hB : B ≤ w.heap.size)
    (hx : a.eval x = .slice (some ⟨g, 0, none⟩) 1 1) (hc : w.cell? ⟨g, 0, none⟩ = some (.int .u8 (c.toNat : Int))) (hL : L.length ≤ 1000000)
    (h : ∀ v' w', QA.Bytes w' B v' (L ++ [c]) → B ≤ w'.heap.size → (∀ W C, C ≤ B → Below C W w → Below C W w') → wpList Tryz.prog ops Q rest (a.put o.dst v') w') : wpList Tryz.prog ops Q (o :: rest) a w := by
  obtain ⟨i0, hi, hz0, hz1, hz2⟩ := info_parts QA.Tryz.info5
  refine wpList_append_own w hgd sl x 30 ho B 5 i0 (.int .u8 0) 1 1 Tryz.underlying30 hi hz0 hz1 hz2 rfl (by omega) v L.length (QA.bv L) hs hown ⟨g, 0, none⟩ 1 1 (QA.bv [c]) hx rfl ?_ (by intro u hu; simp [QA.bv] at hu; subst hu; rfl) (by unfold maxLen; omega) (by omega) hB ?_
  · intro j u hu
    match j, hu with
    | 0, hu => simp [QA.bv] at hu; subst hu; exact hc
    | j + 1, hu => simp [QA.bv] at hu
  · intro v' w' h1 h2 _
    have hk : ∀ W C, C ≤ B → Below C W w → Below C W w' := fun W C hC hb => hb.grown h2 (Nat.le_trans hC hB) (fun k hk => Nat.le_trans hC (World.ownsRow.lt hown k hk).1)
    exact h v' w' (QA.Bytes.snoc h1) (Nat.le_trans hB (hk w 0 (Nat.zero_le _) (Below.refl 0 w)).size) hk
set_option maxHeartbeats 6400000 in
set_option maxRecDepth 100000 in
theorem text_far (w : World) (v : Value) (L : List Tk) (hL : TokO w v L) (hlen : L.length ≤ 3000) (hfar : 2000 < L.length) (hsz : ∀ t ∈ L, t.2.1.size ≤ 140737488351232) (he : ErrV w) (hm : MaxL w) (ht : Pow10 w) :
    Calls Tryz.prog 10 #[v] w fun e w' => e = .returned (.tuple #[.string (textM L).1, .int .i64 (textM L).2]) ∧ Below w.heap.size w w' := by
  have TA : Hid (∀ W (t : Tk) (z : Int), Below w.heap.size w W → t ∈ L → Calls Tryz.prog 16 #[.agg #[.int .i64 t.1, .string t.2.1, .int .i64 z]] W fun e w' => e = .returned (.bool (isT t)) ∧ Below W.heap.size W w') := fun W t z hb h => token_any W t.1 t.2.1 z (hsz t h) (he.go hb) (hm.go hb) (ht.go hb)
  have HT0 := Lib.hid hL
  have HLEN := Lib.hid hlen
  have HFAR := Lib.hid hfar
  obtain ⟨oT, cT, rfl, -⟩ := hL
  obtain ⟨x, hx⟩ : ∃ x, x = textM L := ⟨_, rfl⟩
  rw [← hx]
  have HX := Lib.hid hx
  clear hx hlen hfar hsz he hm ht
  go_enter Tryz.func10, Tryz.ntmps10
  go_wp2_with fail
  go_loopw [12] (fun v12 wr => ∃ i : Nat, v12 = .int .i64 (i : Int) ∧ i ≤ L.length ∧ Hid ((L.take i).all isT = true) ∧ Hid (TokO wr (.slice oT L.length cT) L) ∧ Hid (Below w.heap.size w wr)) (fun v12 _ => L.length - (intOf v12).toNat)
  case atStart => exact ⟨0, rfl, Nat.zero_le _, rfl, HT0, Below.refl _ _⟩
  case round =>
    obtain ⟨i, rfl, hi, HAL, HTn, HBn⟩ := hrel
    rename World => wk
    by_cases hlt : i < L.length
    · obtain ⟨gT, off, rfl⟩ : ∃ g off, oT = some ⟨g, off, none⟩ := by
        obtain ⟨o', c', e', h'⟩ := HTn.out
        injection e' with e1 e2 e3
        subst e1
        obtain ⟨g, off, rfl, h2⟩ := h' (by omega)
        exact ⟨g, off, rfl⟩
      obtain ⟨x0, x1, z, x2⟩ := HTn.out.cells hlt
      have hmem : L[i] ∈ L := List.getElem_mem hlt
      obtain ⟨t, hte⟩ : ∃ t, t = L[i] := ⟨_, rfl⟩
      rw [← hte] at x0 x1 hmem
      obtain ⟨kk, tt, p⟩ := t
      simp only [] at x0 x1
      have A1 := below_alloc wk (.cells #[.int .i64 kk, .string tt, .int .i64 z] 37)
      have HB1 := Lib.hid (bstep HBn.out A1)
      have HT1 := Lib.hid (HTn.out.go A1)
      have TK := Lib.hid (TA.out _ (kk, tt, p) z HB1.out hmem)
      have BX := BoxT.new wk (.int .i64 kk) (.string tt) (.int .i64 z)
      have BXH := Lib.hid BX
      have W3 : Hid (wrap64 ((i : Int) + 1) = ((i + 1 : Nat) : Int)) := wadd (a := i) (b := 1) (by have := HLEN.out; omega)
      have HLT := Lib.hid hlt
      have hii : (i : Int) < (L.length : Int) := by omega
      cases hb : isT (kk, tt, p)
      · rw [hb] at TK
        have HR : Hid (x = (⟨#[]⟩, 1)) := by
          show _ = _
          rw [HX.out]
          unfold textM
          rw [if_neg]
          rw [Bool.not_eq_true, List.all_eq_false]
          exact ⟨_, hmem, by rw [hb]; decide⟩
        clear A1 hte hmem hb hi hlt BX
        go_wp2_with fail
        refine TK.out.mono ?_; rintro e w3 ⟨rfl, hb3⟩
        have HB3 := Lib.hid (bstep HB1.out hb3); clear hb3
        go_wp2_with fail
        refine bodyPost_ret (v := .tuple #[.string ⟨#[]⟩, .int .i64 1]) (by simp [results, Tryz.f10, go_sem]) rfl ⟨by rw [HR.out], HB3.out⟩
      · rw [hb] at TK
        have HAL2 : Hid ((L.take (i + 1)).all isT = true) := by
          show _ = _
          rw [List.take_add_one, List.getElem?_eq_getElem hlt, List.all_append, HAL.out, ← hte]
          show (true && ((kk, tt, p) :: []).all isT) = true
          rw [List.all_cons, hb]; rfl
        clear A1 hte hmem hb hi hlt BX
        go_wp2_with fail
        refine TK.out.mono ?_; rintro e w3 ⟨rfl, hb3⟩
        have HB3 := Lib.hid (bstep HB1.out hb3)
        have HT3 := Lib.hid (HT1.out.go hb3); clear hb3
        go_wp2_with fail
        go_roundw
        case rel => exact ⟨i + 1, by first | exact congrArg (Value.int .i64) W3.out | go_num, HLT.out, HAL2, HT3, HB3⟩
        case measure => exact meas_one HLT.out W3.out
    · have hin : i = L.length := by omega
      subst hin
      have hall : L.all isT = true := by have h9 := HAL.out; rw [List.take_length] at h9; exact h9
      have hii : ¬ (L.length : Int) < (L.length : Int) := by omega
      have hfr := HFAR.out
      have h2000 : decide (2000 < (L.length : Int)) = true := decide_eq_true (by omega)
      have HR : Hid (x = (⟨#[]⟩, 2)) := by
        show _ = _
        rw [HX.out]
        unfold textM
        rw [if_pos hall, if_pos (Or.inl hfr)]
      clear hlt hi hall HAL hfr
      go_wp2_with fail
      refine bodyPost_ret (v := .tuple #[.string ⟨#[]⟩, .int .i64 2]) (by simp [results, Tryz.f10, go_sem]) rfl ⟨by rw [HR.out], HBn.out⟩
theorem text_all (w : World) (v : Value) (L : List Tk) (hL : TokO w v L) (hlen : L.length ≤ 3000) (hsz : ∀ t ∈ L, t.2.1.size ≤ 140737488351232) (he : ErrV w) (hm : MaxL w) (ht : Pow10 w) :
    Calls Tryz.prog 10 #[v] w fun e w' => e = .returned (.tuple #[.string (textM L).1, .int .i64 (textM L).2]) ∧ Below w.heap.size w w' := by
  rcases Nat.lt_or_ge 2000 L.length with h | h
  · exact text_far w v L hL hlen h hsz he hm ht
  · have := text_any w v L hL h hsz he hm ht
    rwa [textM_few h] at this
end Go.Proofs.YtegobakoflbnfaaGreatDoor
