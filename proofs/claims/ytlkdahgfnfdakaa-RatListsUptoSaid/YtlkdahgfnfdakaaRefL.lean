/- The reference's Read. -/
import Derived.Test.YtlkdahgfnfdakaaRefK
import Derived.Test.YtlkdahgfnfdakaaA9
namespace Go.Proofs.Ytlkdahgfnfdakaa
open Go Go.RowKit Go.Shelf WN LM

def BoxQ (w : World) (p : Nat) (a b c : Value) : Prop := w.heap[p]? = some (.cells #[a, b, c] 60 (0, 0))
theorem BoxQ.facts {w : World} {p : Nat} {a b c : Value} (h : BoxQ w p a b c) : w.cell? ⟨p, 0, none⟩ = some a ∧ w.cell? ⟨p, 1, none⟩ = some b ∧ w.cell? ⟨p, 2, none⟩ = some c ∧ w.frozen? ⟨p, 0, none⟩ = false ∧ w.frozen? ⟨p, 1, none⟩ = false ∧ w.frozen? ⟨p, 2, none⟩ = false := by
  refine ⟨?_, ?_, ?_, frozen_of_row _ _ 0 _ _ h, frozen_of_row _ _ 1 _ _ h, frozen_of_row _ _ 2 _ _ h⟩ <;> (rw [cell_of_row _ _ _ _ _ _ h]; rfl)
theorem BoxQ.go {w w' : World} {p : Nat} {a b c : Value} (h : BoxQ w p a b c) (hb : Below w.heap.size w w') : BoxQ w' p a b c := (hb.block p (lt_of_block h)).trans h
theorem BoxQ.new (w : World) (a b c : Value) : BoxQ (w.alloc (.cells #[a, b, c] 60)) w.heap.size a b c := alloc_at _ _ _ rfl
theorem BoxQ.set {w : World} {p : Nat} {a b c : Value} (h : BoxQ w p a b c) (a' b' c' : Value) : BoxQ (((w.setCell ⟨p, 0, none⟩ a').setCell ⟨p, 1, none⟩ b').setCell ⟨p, 2, none⟩ c') p a' b' c' := by
  have h1 := heap_setCell_same w p 0 _ 60 a' h
  have h2 := heap_setCell_same _ p 1 _ 60 b' h1
  have h3 := heap_setCell_same _ p 2 _ 60 c' h2
  exact h3
theorem RNum.set3 {w : World} {v : Value} {n p : Nat} (h : RNum w v n) {s : Bool} {o1 o2 : Option Addr} {k1 k2 c1 c2 : Nat} (hb : BoxQ w p (.bool s) (.slice o1 k1 c1) (.slice o2 k2 c2)) (x y z : Value) :
    RNum (((w.setCell ⟨p, 0, none⟩ x).setCell ⟨p, 1, none⟩ y).setCell ⟨p, 2, none⟩ z) v n := by
  obtain ⟨l, ⟨oa, ca, rfl, hc, hcell⟩, hl⟩ := h
  refine ⟨l, ⟨oa, ca, rfl, hc, fun i hi => ?_⟩, hl⟩
  obtain ⟨b, off, rfl, e⟩ := hcell i hi
  refine ⟨b, off, rfl, ?_⟩
  have hne : p ≠ b := by
    rintro rfl
    rw [cell_of_row _ _ _ _ _ _ hb] at e
    rcases Nat.lt_or_ge (off + i) 3 with h | h
    · rcases (show off + i = 0 ∨ off + i = 1 ∨ off + i = 2 by omega) with h | h | h <;> (rw [h] at e; simp at e)
    · rw [Array.getElem?_eq_none (by simpa using h)] at e; cases e
  rw [World.cell?_setCell_far _ _ _ _ hne, World.cell?_setCell_far _ _ _ _ hne, World.cell?_setCell_far _ _ _ _ hne]
  exact e
def RFrac (w : World) (v : Value) (s : Bool) (n d : Nat) : Prop := ∃ o1 k1 c1 o2 k2 c2, v = .agg #[.bool s, .slice o1 k1 c1, .slice o2 k2 c2] ∧ RNum w (.slice o1 k1 c1) n ∧ RNum w (.slice o2 k2 c2) d
theorem boxq_ret {w w' : World} {p : Nat} {s : Bool} {o1 o2 : Option Addr} {k1 k2 c1 c2 : Nat} (bx : BoxQ w' p (.bool s) (.slice o1 k1 c1) (.slice o2 k2 c2)) {t : Bool} {vn vd : Value} {n d : Nat} (hn : RNum w' vn n) (hd : RNum w' vd d) (hb : Below w.heap.size w w') (hp : w.heap.size ≤ p) :
    (((w'.setCell ⟨p, 0, none⟩ (.bool t)).setCell ⟨p, 1, none⟩ vn).setCell ⟨p, 2, none⟩ vd).cell? ⟨p, 0, none⟩ = some (.bool t) ∧
    (((w'.setCell ⟨p, 0, none⟩ (.bool t)).setCell ⟨p, 1, none⟩ vn).setCell ⟨p, 2, none⟩ vd).cell? ⟨p, 1, none⟩ = some vn ∧
    (((w'.setCell ⟨p, 0, none⟩ (.bool t)).setCell ⟨p, 1, none⟩ vn).setCell ⟨p, 2, none⟩ vd).cell? ⟨p, 2, none⟩ = some vd ∧
    RNum (((w'.setCell ⟨p, 0, none⟩ (.bool t)).setCell ⟨p, 1, none⟩ vn).setCell ⟨p, 2, none⟩ vd) vn n ∧ RNum (((w'.setCell ⟨p, 0, none⟩ (.bool t)).setCell ⟨p, 1, none⟩ vn).setCell ⟨p, 2, none⟩ vd) vd d ∧
    Below w.heap.size w (((w'.setCell ⟨p, 0, none⟩ (.bool t)).setCell ⟨p, 1, none⟩ vn).setCell ⟨p, 2, none⟩ vd) := by
  have h := (bx.set (.bool t) vn vd).facts
  exact ⟨h.1, h.2.1, h.2.2.1, hn.set3 bx _ _ _, hd.set3 bx _ _ _, three_below _ _ _ hb hp⟩
/-- what Read returns -/
def RReadOut (w : World) (o : Option (Bool × Nat × Nat)) (e : Ending) (w' : World) : Prop :=
  ∃ v, Below w.heap.size w w' ∧ match o with
    | none => v = .agg #[.bool false, .slice none 0 0, .slice none 0 0] ∧ e = .returned (.tuple #[v, .bool false])
    | some (s, n, d) => e = .returned (.tuple #[v, .bool true]) ∧ RFrac w' v s n d
theorem RReadOut.no {w w' : World} (h : Below w.heap.size w w') : RReadOut w none (.returned (.tuple #[.agg #[.bool false, .slice none 0 0, .slice none 0 0], .bool false])) w' := ⟨_, h, rfl, rfl⟩
theorem goodD_facts {l : List UInt8} (h : goodD l = true) : l.length ≤ 300 ∧ l.all isD = true := by
  unfold goodD at h
  simp only [Bool.and_eq_true, decide_eq_true_eq] at h
  exact ⟨h.1.1.2, h.2⟩
theorem rlen_pow {n j k : Nat} (h : n < 10 ^ j) (hj : j ≤ 4 * k) : RLen n ≤ k := by
  have hp : (10000 : Nat) ^ k = 10 ^ (4 * k) := by rw [Nat.pow_mul]
  refine rlen_lt (Nat.lt_of_lt_of_le h ?_)
  rw [hp]
  exact Nat.pow_le_pow_right (by omega) hj
theorem rlen_dval {l : List UInt8} (h : goodD l = true) : RLen (dval l) ≤ 75 := by
  obtain ⟨h1, h2⟩ := goodD_facts h
  exact rlen_pow (dval_lt h2) (by omega)
theorem rlen_eq_zero {n : Nat} : RLen n = 0 ↔ n = 0 := by
  constructor
  · intro h
    rcases Nat.eq_zero_or_pos n with h0 | h0
    · exact h0
    · have := rlen_pos h0; omega
  · rintro rfl; exact rlen_zero
theorem readR_no {neg : Bool} {r : List UInt8} (h : goodD (r.takeWhile (· != 47)) = false) : readR neg r = none := by unfold readR; rw [h]; rfl
theorem readR_neg {r : List UInt8} (h : dval (r.takeWhile (· != 47)) = 0) : readR true r = none := by unfold readR; rw [h]; simp
theorem readR_int {neg : Bool} {r : List UInt8} (h : goodD (r.takeWhile (· != 47)) = true) (hz : neg = true → dval (r.takeWhile (· != 47)) ≠ 0) (hd : r.dropWhile (· != 47) = []) : readR neg r = some (neg, dval (r.takeWhile (· != 47)), 1) := by
  unfold readR; rw [h, hd]
  have : (neg && decide (dval (r.takeWhile (· != 47)) = 0)) = false := by cases neg <;> simp at hz ⊢; exact hz
  rw [this]; rfl
theorem readR_none {neg : Bool} {r t : List UInt8} {c : UInt8} (hd : r.dropWhile (· != 47) = c :: t) (h : goodD t = false ∨ dval t ≤ 1 ∨ Nat.gcd (dval (r.takeWhile (· != 47))) (dval t) ≠ 1) : readR neg r = none := by
  unfold readR; rw [hd]
  have : (goodD t && !decide (dval t = 0) && !decide (dval t = 1) && decide (Nat.gcd (dval (r.takeWhile (· != 47))) (dval t) = 1)) = false := by
    rcases h with h | h | h
    · rw [h]; rfl
    · rcases (show dval t = 0 ∨ dval t = 1 by omega) with h | h <;> simp [h]
    · simp [h]
  simp only [this]
  split <;> simp
theorem readR_some {neg : Bool} {r t : List UInt8} {c : UInt8} (hd : r.dropWhile (· != 47) = c :: t) (h : goodD (r.takeWhile (· != 47)) = true) (hz : neg = true → dval (r.takeWhile (· != 47)) ≠ 0) (h1 : goodD t = true) (h2 : 1 < dval t) (h3 : Nat.gcd (dval (r.takeWhile (· != 47))) (dval t) = 1) : readR neg r = some (neg, dval (r.takeWhile (· != 47)), dval t) := by
  unfold readR; rw [h, hd]
  have : (neg && decide (dval (r.takeWhile (· != 47)) = 0)) = false := by cases neg <;> simp at hz ⊢; exact hz
  rw [this]
  have e : (goodD t && !decide (dval t = 0) && !decide (dval t = 1) && decide (Nat.gcd (dval (r.takeWhile (· != 47))) (dval t) = 1)) = true := by
    simp [h1, h3]; omega
  simp [e]
theorem rlen_one : RLen 1 = 1 := by
  have h1 := rlen_small (n := 1) (by omega)
  have h2 := rlen_pos (n := 1) (by omega)
  omega

set_option maxRecDepth 100000 in
set_option maxHeartbeats 8000000 in
theorem rread_true (s : ByteArray) (w : World) (hs : s.size ≤ 140737488355328) (h1 : 1 ≤ s.size) (hm : ((s[0].toNat : Int) == 45) = true) : Calls Try.prog 57 #[.string s] w (RReadOut w (readR true (s.data.toList.drop 1))) := by
  obtain ⟨r, hr⟩ : ∃ r, r = s.extract 1 s.size := ⟨_, rfl⟩
  have hrs : r.size ≤ s.size := by rw [hr]; simp
  have hrd : s.data.toList.drop 1 = r.data.toList := by
    rw [hr, toList_extract, List.take_of_length_le (by simp)]
  rw [hrd]
  clear hrd
  have HR := Lib.hid hr; clear hr
  have N1 : Hid (∀ W, Calls Try.prog 58 #[.int .u64 1] W (RRet W 1)) := fun W => natOf_any 1 (by omega) W
  have bR := BoxQ.new w (.bool false) (.slice none 0 0) (.slice none 0 0)
  have B1 := below_alloc w (.cells #[.bool false, .slice none 0 0, .slice none 0 0] 60)
  go_enter Try.func57, Try.ntmps57
  go_wp2_with fail
  rw [← HR.out]
  have HM := Lib.hid hm; clear hm
  clear HR
  have hrl : r.data.toList.length = r.size := by simp
  have HRL := Lib.hid hrl; clear hrl
  have BR := Lib.hid bR; have HB1 := Lib.hid B1
  clear bR B1
  generalize w.alloc (.cells #[.bool false, .slice none 0 0, .slice none 0 0] 60) = w1 at *
  go_loop [5] (fun v5 => ∃ i : Nat, i ≤ r.size ∧ v5 = .int .i64 i ∧ Hid (∀ c ∈ r.data.toList.take i, c ≠ 47)) (fun v5 => r.size - (intOf v5).toNat)
  case atStart => exact ⟨0, Nat.zero_le _, rfl, by intro c hc; simp at hc⟩
  case round =>
    obtain ⟨i, hi, rfl, hno⟩ := hrel
    by_cases hlt : i < r.size
    · have hgi : r.data.toList[i]? = some r[i] := by rw [List.getElem?_eq_getElem (by rw [HRL.out]; exact hlt)]; rfl
      by_cases hc : r[i] = 47
      · have hce : ((r[i].toNat : Int) != 47) = false := by rw [hc]; rfl
        have HC : Hid (r.data.toList[i]? = some 47) := by show _ = _; rw [hgi, hc]
        have hsp := split_at (by rw [HRL.out]; exact hi) hno.out (.inr HC.out)
        have hdr : r.data.toList.drop i = 47 :: r.data.toList.drop (i + 1) := by
          have h' := HC.out
          rw [List.getElem?_eq_getElem (by rw [HRL.out]; exact hlt)] at h'
          rw [List.drop_eq_getElem_cons (by rw [HRL.out]; exact hlt), Option.some.inj h']
        rw [hdr] at hsp
        have HSP := Lib.hid hsp
        clear hc hgi hno hsp hdr
        go_wp2_with fail
        refine (rdigits_any _ _ (by simp; omega)).mono ?_; rintro e w2 ⟨rfl, rfl⟩
        rw [toList_extract, List.drop_zero]
        cases hgd : goodD (r.data.toList.take i)
        · have HGD := Lib.hid hgd; clear hgd
          have HRO : Hid (∀ e w', RReadOut w none e w' → RReadOut w (readR true r.data.toList) e w') := fun _ _ h => by rw [readR_no (by rw [HSP.out.1]; exact HGD.out)]; exact h
          obtain ⟨r0, r1, r2, f0, f1, f2⟩ := BR.out.facts
          go_wp2_with fail
          obtain ⟨e0, e1, e2, -, -, hb⟩ := boxq_ret (t := false) (n := 0) (d := 0) BR.out (RNum.nil _) (RNum.nil _) HB1.out (by omega)
          refine bodyPost_ret (v := .tuple #[.agg #[.bool false, .slice none 0 0, .slice none 0 0], .bool false]) ?_ rfl (HRO.out _ _ (RReadOut.no hb))
          simp [results, Try.f57, go_sem, e0, e1, e2]
        · obtain ⟨hl300, hall⟩ := goodD_facts hgd
          have HGD := Lib.hid hgd
          have HSZ9 : Hid ((r.extract 0 i).size ≤ 1000000) := by
            have h1 : (r.extract 0 i).data.toList.length ≤ 300 := by rw [toList_extract, List.drop_zero]; exact hl300
            rw [Array.length_toList] at h1
            exact Nat.le_trans h1 (by omega)
          have HRL9 := Lib.hid (rlen_dval hgd)
          go_wp2_with fail
          refine (readNat_any _ _ HSZ9.out (by rw [toList_extract, List.drop_zero]; exact hall)).mono ?_; rintro e w3 ⟨v3, rfl, hv3, hb3⟩
          rw [toList_extract, List.drop_zero] at hv3
          have BR3 := Lib.hid (BR.out.go hb3); have HB3 := Lib.hid (bstep HB1.out hb3); have HV3 := Lib.hid hv3
          clear hb3 hv3 hl300 hall hgd
          go_wp2_with fail
          refine (N1.out _).mono ?_; rintro e w4 ⟨v4, rfl, hv4, hb4⟩
          have BR4 := Lib.hid (BR3.out.go hb4); have HB4 := Lib.hid (bstep HB3.out hb4); have HN4 := Lib.hid (HV3.out.go hb4); have HD4 := Lib.hid hv4
          clear hb4 hv4
          obtain ⟨o2, c2', rfl⟩ := HN4.out.shape
          obtain ⟨LN9, hln⟩ : ∃ L, RLen (dval (r.data.toList.take i)) = L := ⟨_, rfl⟩
          have HLN := Lib.hid hln
          rw [hln] at HN4 ⊢
          clear hln
          have hi1 : ((i : Int) + 1).toNat = i + 1 := by omega
          go_wp2_with fail
          refine (rdigits_any _ _ (by simp; omega)).mono ?_; rintro e w5 ⟨rfl, rfl⟩
          rw [toList_extract, show (r.data.toList.take r.size).drop (i + 1) = r.data.toList.drop (i + 1) from by rw [List.take_of_length_le (by rw [HRL.out]; exact Nat.le_refl _)]]
          cases hgd2 : goodD (r.data.toList.drop (i + 1))
          · have HGD2 := Lib.hid hgd2; clear hgd2
            have HRO : Hid (∀ e w', RReadOut w none e w' → RReadOut w (readR true r.data.toList) e w') := fun _ _ h => by rw [readR_none HSP.out.2 (.inl HGD2.out)]; exact h
            obtain ⟨r0, r1, r2, f0, f1, f2⟩ := BR4.out.facts
            go_wp2_with fail
            obtain ⟨e0, e1, e2, -, -, hb⟩ := boxq_ret (t := false) (n := 0) (d := 0) BR4.out (RNum.nil _) (RNum.nil _) HB4.out (by omega)
            refine bodyPost_ret (v := .tuple #[.agg #[.bool false, .slice none 0 0, .slice none 0 0], .bool false]) ?_ rfl (HRO.out _ _ (RReadOut.no hb))
            simp [results, Try.f57, go_sem, e0, e1, e2]
          · obtain ⟨hl300, hall⟩ := goodD_facts hgd2
            have HGD2 := Lib.hid hgd2
            have HRL8 := Lib.hid (rlen_dval hgd2)
            have HEX : Hid ((r.extract (i + 1) r.size).data.toList = r.data.toList.drop (i + 1)) := by
              show _ = _
              rw [toList_extract, List.take_of_length_le (by rw [HRL.out]; exact Nat.le_refl _)]
            have hsz : (r.extract (i + 1) r.size).size ≤ 1000000 := by
              have h1 : (r.extract (i + 1) r.size).data.toList.length ≤ 300 := by rw [HEX.out]; exact hl300
              rw [Array.length_toList] at h1
              exact Nat.le_trans h1 (by omega)
            have RN : Hid (∀ W, Calls Try.prog 102 #[.string (r.extract (i + 1) r.size)] W (RRet W (dval (r.data.toList.drop (i + 1))))) := fun W => by
              have := readNat_any (r.extract (i + 1) r.size) W hsz (by rw [HEX.out]; exact hall)
              rwa [HEX.out] at this
            clear hl300 hall hgd2 hsz
            go_wp2_with fail
            refine (RN.out _).mono ?_; rintro e w6 ⟨v6, rfl, hv6, hb6⟩
            have BR6 := Lib.hid (BR4.out.go hb6); have HB6 := Lib.hid (bstep HB4.out hb6); have HN6 := Lib.hid (HN4.out.go hb6); have HD6 := Lib.hid hv6
            clear hb6 hv6
            obtain ⟨o3, c3', rfl⟩ := HD6.out.shape
            obtain ⟨LD9, hld⟩ : ∃ L, RLen (dval (r.data.toList.drop (i + 1))) = L := ⟨_, rfl⟩
            have HLD := Lib.hid hld
            rw [hld] at HD6 ⊢
            clear hld
            have HNE : Hid (dval (r.data.toList.takeWhile (· != 47)) = dval (r.data.toList.take i)) := by show _ = _; rw [HSP.out.1]
            go_wp2_with fail
            refine (N1.out _).mono ?_; rintro e w7 ⟨v7, rfl, hv7, hb7⟩
            have BR7 := Lib.hid (BR6.out.go hb7); have HB7 := Lib.hid (bstep HB6.out hb7); have HN7 := Lib.hid (HN6.out.go hb7); have HD7 := Lib.hid (HD6.out.go hb7); have H17 := Lib.hid hv7
            clear hb7 hv7
            go_wp2_with fail
            refine (rcmp_any HD7.out H17.out (by have := HRL8.out; omega) (by rw [rlen_one]; omega)).mono ?_; rintro e w8 ⟨rfl, hb8⟩
            have BR8 := Lib.hid (BR7.out.go hb8); have HB8 := Lib.hid (bstep HB7.out hb8); have HN8 := Lib.hid (HN7.out.go hb8); have HD8 := Lib.hid (HD7.out.go hb8)
            clear hb8
            by_cases hd1 : dval (r.data.toList.drop (i + 1)) ≤ 1
            · have hcx : ∃ c : Int, cmpN (dval (r.data.toList.drop (i + 1))) 1 = c ∧ c ≤ 0 := by
                unfold cmpN
                split
                · exact ⟨_, rfl, by omega⟩
                · rw [if_neg (by omega)]; exact ⟨_, rfl, by omega⟩
              obtain ⟨c, hc, hc0⟩ := hcx
              rw [hc]
              have HD1 := Lib.hid hd1; clear hd1 hc
              have HRO : Hid (∀ e w', RReadOut w none e w' → RReadOut w (readR true r.data.toList) e w') := fun _ _ h => by rw [readR_none HSP.out.2 (.inr (.inl HD1.out))]; exact h
              obtain ⟨r0, r1, r2, f0, f1, f2⟩ := BR8.out.facts
              go_wp2_with fail
              obtain ⟨e0, e1, e2, -, -, hb⟩ := boxq_ret (t := false) (n := 0) (d := 0) BR8.out (RNum.nil _) (RNum.nil _) HB8.out (by omega)
              refine bodyPost_ret (v := .tuple #[.agg #[.bool false, .slice none 0 0, .slice none 0 0], .bool false]) ?_ rfl (HRO.out _ _ (RReadOut.no hb))
              simp [results, Try.f57, go_sem, e0, e1, e2]
            · have hc : cmpN (dval (r.data.toList.drop (i + 1))) 1 = 1 := by unfold cmpN; rw [if_neg (by omega), if_pos (by omega)]
              rw [hc]
              have HD1 : Hid (1 < dval (r.data.toList.drop (i + 1))) := by show _ < _; omega
              clear hc hd1
              go_wp2_with fail
              refine (rgcd_any HN8.out HD8.out (by have := HRL9.out; omega) (by have := HRL8.out; omega)).mono ?_; rintro e w9 ⟨v9, rfl, hv9, hb9⟩
              have BR9 := Lib.hid (BR8.out.go hb9); have HB9 := Lib.hid (bstep HB8.out hb9); have HN9 := Lib.hid (HN8.out.go hb9); have HD9 := Lib.hid (HD8.out.go hb9); have HG9 := Lib.hid hv9
              clear hb9 hv9
              go_wp2_with fail
              refine (N1.out _).mono ?_; rintro e w10 ⟨v10, rfl, hv10, hb10⟩
              have BR10 := Lib.hid (BR9.out.go hb10); have HB10 := Lib.hid (bstep HB9.out hb10); have HN10 := Lib.hid (HN9.out.go hb10); have HD10 := Lib.hid (HD9.out.go hb10); have HG10 := Lib.hid (HG9.out.go hb10); have H110 := Lib.hid hv10
              clear hb10 hv10
              go_wp2_with fail
              have lgd : RLen (Nat.gcd (dval (r.data.toList.take i)) (dval (r.data.toList.drop (i + 1)))) ≤ 75 := Nat.le_trans (rlen_mono (Nat.gcd_le_right _ (by have := HD1.out; omega))) HRL8.out
              refine (rcmp_any HG10.out H110.out (by omega) (by rw [rlen_one]; omega)).mono ?_; rintro e w11 ⟨rfl, hb11⟩
              have BR11 := Lib.hid (BR10.out.go hb11); have HB11 := Lib.hid (bstep HB10.out hb11); have HN11 := Lib.hid (HN10.out.go hb11); have HD11 := Lib.hid (HD10.out.go hb11)
              clear hb11 lgd
              by_cases hg1 : Nat.gcd (dval (r.data.toList.take i)) (dval (r.data.toList.drop (i + 1))) = 1
              · have hc : cmpN (Nat.gcd (dval (r.data.toList.take i)) (dval (r.data.toList.drop (i + 1)))) 1 = 0 := by rw [hg1]; rfl
                rw [hc]
                have HG1 := Lib.hid hg1; clear hg1 hc
                by_cases hz : dval (r.data.toList.take i) = 0
                · have hl0 : LN9 = 0 := by rw [← HLN.out]; exact rlen_eq_zero.2 hz
                  have HZ := Lib.hid hz; clear hz
                  have HRO : Hid (∀ e w', RReadOut w none e w' → RReadOut w (readR true r.data.toList) e w') := fun _ _ h => by rw [readR_neg (by rw [HNE.out]; exact HZ.out)]; exact h
                  obtain ⟨r0, r1, r2, f0, f1, f2⟩ := BR11.out.facts
                  go_wp2_with fail
                  obtain ⟨e0, e1, e2, -, -, hb⟩ := boxq_ret (t := false) (n := 0) (d := 0) BR11.out (RNum.nil _) (RNum.nil _) HB11.out (by omega)
                  refine bodyPost_ret (v := .tuple #[.agg #[.bool false, .slice none 0 0, .slice none 0 0], .bool false]) ?_ rfl (HRO.out _ _ (RReadOut.no hb))
                  simp [results, Try.f57, go_sem, e0, e1, e2]
                · have hl0 : ¬ LN9 = 0 := fun h => hz (rlen_eq_zero.1 (by rw [HLN.out]; exact h))
                  have tl0 : ((LN9 : Int) == 0) = false := by rw [beq_eq_false_iff_ne]; omega
                  have HZ := Lib.hid hz; clear hz
                  have HRO : Hid (∀ e w', RReadOut w (some (true, dval (r.data.toList.take i), dval (r.data.toList.drop (i + 1)))) e w' → RReadOut w (readR true r.data.toList) e w') := fun _ _ h => by rw [show readR true r.data.toList = some (true, dval (r.data.toList.take i), dval (r.data.toList.drop (i + 1))) from by rw [← HNE.out]; exact readR_some HSP.out.2 (by rw [HSP.out.1]; exact HGD.out) (fun _ => by rw [HNE.out]; exact HZ.out) HGD2.out HD1.out (by rw [HNE.out]; exact HG1.out)]; exact h
                  obtain ⟨r0, r1, r2, f0, f1, f2⟩ := BR11.out.facts
                  go_wp2_with fail
                  obtain ⟨e0, e1, e2, hn9, hd9, hb9⟩ := boxq_ret (t := true) BR11.out HN11.out HD11.out HB11.out (by omega)
                  refine bodyPost_ret (v := .tuple #[.agg #[.bool true, .slice o2 LN9 c2', .slice o3 LD9 c3'], .bool true]) ?_ rfl (HRO.out _ _ ⟨_, hb9, rfl, _, _, _, _, _, _, rfl, hn9, hd9⟩)
                  simp [results, Try.f57, go_sem, e0, e1, e2]
              · have hcx : ∃ c : Int, cmpN (Nat.gcd (dval (r.data.toList.take i)) (dval (r.data.toList.drop (i + 1)))) 1 = c ∧ c ≠ 0 := by
                  unfold cmpN
                  split
                  · exact ⟨_, rfl, by omega⟩
                  · rw [if_pos (by omega)]; exact ⟨_, rfl, by omega⟩
                obtain ⟨c, hc, hc0⟩ := hcx
                rw [hc]
                have tc : (c != 0) = true := by rw [bne_iff_ne]; exact hc0
                have HG1 := Lib.hid hg1; clear hg1 hc hc0
                have HRO : Hid (∀ e w', RReadOut w none e w' → RReadOut w (readR true r.data.toList) e w') := fun _ _ h => by rw [readR_none HSP.out.2 (.inr (.inr (by rw [HNE.out]; exact HG1.out)))]; exact h
                obtain ⟨r0, r1, r2, f0, f1, f2⟩ := BR11.out.facts
                go_wp2_with fail
                obtain ⟨e0, e1, e2, -, -, hb⟩ := boxq_ret (t := false) (n := 0) (d := 0) BR11.out (RNum.nil _) (RNum.nil _) HB11.out (by omega)
                refine bodyPost_ret (v := .tuple #[.agg #[.bool false, .slice none 0 0, .slice none 0 0], .bool false]) ?_ rfl (HRO.out _ _ (RReadOut.no hb))
                simp [results, Try.f57, go_sem, e0, e1, e2]
      · have hcn : r[i].toNat ≠ 47 := fun h => hc (UInt8.toNat_inj.1 h)
        have hce : ((r[i].toNat : Int) != 47) = true := by rw [bne_iff_ne]; omega
        have HN := Lib.hid (take_step hno.out hgi hc)
        clear hc hgi hno hcn
        go_wp2_with fail
        go_round
        case rel => exact ⟨i + 1, hlt, by go_num, HN.out⟩
        case measure => simp [intOf]; omega
    · obtain rfl : i = r.size := by omega
      have hsp := split_at (by rw [HRL.out]; exact hi) hno.out (.inl HRL.out.symm)
      rw [List.drop_of_length_le (by rw [HRL.out]; exact Nat.le_refl _), List.take_of_length_le (by rw [HRL.out]; exact Nat.le_refl _)] at hsp
      have HSP := Lib.hid hsp
      clear hno hsp hlt
      go_wp2_with fail
      refine (rdigits_any _ _ (by omega)).mono ?_; rintro e w2 ⟨rfl, rfl⟩
      cases hgd : goodD r.data.toList
      · have HGD := Lib.hid hgd; clear hgd
        have HRO : Hid (∀ e w', RReadOut w none e w' → RReadOut w (readR true r.data.toList) e w') := fun _ _ h => by rw [readR_no (by rw [HSP.out.1]; exact HGD.out)]; exact h
        obtain ⟨r0, r1, r2, f0, f1, f2⟩ := BR.out.facts
        go_wp2_with fail
        obtain ⟨e0, e1, e2, -, -, hb⟩ := boxq_ret (t := false) (n := 0) (d := 0) BR.out (RNum.nil _) (RNum.nil _) HB1.out (by omega)
        refine bodyPost_ret (v := .tuple #[.agg #[.bool false, .slice none 0 0, .slice none 0 0], .bool false]) ?_ rfl (HRO.out _ _ (RReadOut.no hb))
        simp [results, Try.f57, go_sem, e0, e1, e2]
      · obtain ⟨hl300, hall⟩ := goodD_facts hgd
        have HGD := Lib.hid hgd
        have HSZ9 : Hid (r.size ≤ 1000000) := by
          have := HRL.out
          show _ ≤ _
          omega
        have HRL9 := Lib.hid (rlen_dval hgd)
        go_wp2_with fail
        refine (readNat_any _ _ HSZ9.out hall).mono ?_; rintro e w3 ⟨v3, rfl, hv3, hb3⟩
        have BR3 := Lib.hid (BR.out.go hb3); have HB3 := Lib.hid (bstep HB1.out hb3); have HV3 := Lib.hid hv3
        clear hb3 hv3 hl300 hall hgd
        go_wp2_with fail
        refine (N1.out _).mono ?_; rintro e w4 ⟨v4, rfl, hv4, hb4⟩
        have BR4 := Lib.hid (BR3.out.go hb4); have HB4 := Lib.hid (bstep HB3.out hb4); have HN4 := Lib.hid (HV3.out.go hb4); have HD4 := Lib.hid hv4
        clear hb4 hv4
        obtain ⟨o2, c2', rfl⟩ := HN4.out.shape
        obtain ⟨LN9, hln⟩ : ∃ L, RLen (dval (r.data.toList)) = L := ⟨_, rfl⟩
        have HLN := Lib.hid hln
        rw [hln] at HN4 ⊢
        clear hln
        have HNE : Hid (dval (r.data.toList.takeWhile (· != 47)) = dval r.data.toList) := by show _ = _; rw [HSP.out.1]
        obtain ⟨o3, c3', rfl⟩ := HD4.out.shape
        rw [rlen_one] at HD4 ⊢
        by_cases hz : dval r.data.toList = 0
        · have hl0 : LN9 = 0 := by rw [← HLN.out]; exact rlen_eq_zero.2 hz
          have HZ := Lib.hid hz; clear hz
          have HRO : Hid (∀ e w', RReadOut w none e w' → RReadOut w (readR true r.data.toList) e w') := fun _ _ h => by rw [readR_neg (by rw [HNE.out]; exact HZ.out)]; exact h
          obtain ⟨r0, r1, r2, f0, f1, f2⟩ := BR4.out.facts
          go_wp2_with fail
          obtain ⟨e0, e1, e2, -, -, hb⟩ := boxq_ret (t := false) (n := 0) (d := 0) BR4.out (RNum.nil _) (RNum.nil _) HB4.out (by omega)
          refine bodyPost_ret (v := .tuple #[.agg #[.bool false, .slice none 0 0, .slice none 0 0], .bool false]) ?_ rfl (HRO.out _ _ (RReadOut.no hb))
          simp [results, Try.f57, go_sem, e0, e1, e2]
        · have hl0 : ¬ LN9 = 0 := fun h => hz (rlen_eq_zero.1 (by rw [HLN.out]; exact h))
          have tl0 : ((LN9 : Int) == 0) = false := by rw [beq_eq_false_iff_ne]; omega
          have HZ := Lib.hid hz; clear hz
          have HRO : Hid (∀ e w', RReadOut w (some (true, dval r.data.toList, 1)) e w' → RReadOut w (readR true r.data.toList) e w') := fun _ _ h => by rw [show readR true r.data.toList = some (true, dval r.data.toList, 1) from by rw [← HNE.out]; exact readR_int (by rw [HSP.out.1]; exact HGD.out) (fun _ => by rw [HNE.out]; exact HZ.out) HSP.out.2]; exact h
          obtain ⟨r0, r1, r2, f0, f1, f2⟩ := BR4.out.facts
          go_wp2_with fail
          obtain ⟨e0, e1, e2, hn9, hd9, hb9⟩ := boxq_ret (t := true) BR4.out HN4.out HD4.out HB4.out (by omega)
          refine bodyPost_ret (v := .tuple #[.agg #[.bool true, .slice o2 LN9 c2', .slice o3 1 c3'], .bool true]) ?_ rfl (HRO.out _ _ ⟨_, hb9, rfl, _, _, _, _, _, _, rfl, hn9, hd9⟩)
          simp [results, Try.f57, go_sem, e0, e1, e2]
end Go.Proofs.Ytlkdahgfnfdakaa
