/- The program's total, Sum and Dot. -/
import Derived.Test.YtlkdahgfnfdakaaLstR
namespace Go.Proofs.Ytlkdahgfnfdakaa
open Go Go.RowKit Go.Shelf WN LM

theorem len_rlen (n : Nat) : Len n ≤ RLen n := len_lt (Nat.lt_of_lt_of_le (lt_rlen n) (Nat.pow_le_pow_left (by omega) _))
theorem Ok.len {k : Nat} {q : Q3} (h : Ok k q) : Len q.2.1 ≤ k ∧ Len q.2.2 ≤ k := ⟨Nat.le_trans (len_rlen _) h.2.1, Nat.le_trans (len_rlen _) h.2.2⟩
theorem pAdd {w : World} {v u : Value} {p q : Q3} (hp : Ok 1000000 p) (hq : Ok 1000000 q) (h : Frac w v p.1 p.2.1 p.2.2) (k : Frac w u q.1 q.2.1 q.2.2) : Calls Try.prog 70 #[v, u] w (RetF w (addQ p q).1 (addQ p q).2.1 (addQ p q).2.2) := by
  have h1 := hp.len; have h2 := hq.len
  exact fracSum_num (w := w) (v := v) (u := u) (s := p.1) (n := p.2.1) (d := p.2.2) (t := q.1) (m := q.2.1) (c := q.2.2) h k (by omega) (by omega) (by omega) (by omega) hp.1.1
theorem pMul {w : World} {v u : Value} {p q : Q3} (hp : Ok 1000000 p) (hq : Ok 1000000 q) (h : Frac w v p.1 p.2.1 p.2.2) (k : Frac w u q.1 q.2.1 q.2.2) : Calls Try.prog 64 #[v, u] w (RetF w (mulQ p q).1 (mulQ p q).2.1 (mulQ p q).2.2) := by
  have h1 := hp.len; have h2 := hq.len
  exact fracTimes_num (w := w) (v := v) (u := u) (s := p.1) (n := p.2.1) (d := p.2.2) (t := q.1) (m := q.2.1) (c := q.2.2) h k (by omega) (by omega) (by omega) (by omega) hp.1.1 hq.1.1
theorem pOut {w : World} {v : Value} {p : Q3} (hp : Ok 1000000 p) (h : Frac w v p.1 p.2.1 p.2.2) : Calls Try.prog 62 #[v] w (OutS w (out3 p)) := by
  have h1 := hp.len
  exact write_num h (by omega) (by omega)
/-- where the loop of total stands -/
def TotI (w : World) (B C : Nat) (q : Q3) (W : World) : Prop := NBox W B q ∧ Box3 W C (.bool false) (.slice none 0 0) (.slice none 0 0) ∧ Below w.heap.size w W
theorem TotI.go {w W W' : World} {B C : Nat} {q : Q3} (h : TotI w B C q W) (hb : Below W.heap.size W W') : TotI w B C q W' := ⟨h.1.go hb, h.2.1.go hb, bstep h.2.2 hb⟩
theorem TotI.put {w W : World} {B C : Nat} {q r : Q3} {o1 o2 : Option Addr} {k1 c1 k2 c2 : Nat} (h : TotI w B C q W) (hn : Num W (.slice o1 k1 c1) r.2.1) (hd : Num W (.slice o2 k2 c2) r.2.2) (hB : w.heap.size ≤ B) (hne : C ≠ B) :
    TotI w B C r (((W.setCell ⟨B, 0, none⟩ (.bool r.1)).setCell ⟨B, 1, none⟩ (.slice o1 k1 c1)).setCell ⟨B, 2, none⟩ (.slice o2 k2 c2)) := by
  obtain ⟨⟨_, _, _, _, _, _, bx, -, -⟩, h2, h3⟩ := h
  exact ⟨⟨_, _, _, _, _, _, bx.set _ _ _, hn.set3 bx _ _ _, hd.set3 bx _ _ _⟩, h2.far hne, three_below _ _ _ h3 hB⟩
set_option maxHeartbeats 8000000 in
set_option maxRecDepth 100000 in
theorem total_any {w : World} {g n cap : Nat} {l : List Q3} (hr : NRow w g n l n) (hnl : l.length = n) (hn : n ≤ 240) (k : Nat) (hok : ∀ q ∈ l, Ok k q) (hk : k ≤ 150) : Calls Try.prog 87 #[.slice (some ⟨g, 0, none⟩) n cap] w (RetF w (sumQ l).1 (sumQ l).2.1 (sumQ l).2.2) := by
  have HROW := Lib.hid hr; have HNL := Lib.hid hnl; have HN2 := Lib.hid hn
  have IN : Hid (∀ W, Calls Try.prog 55 #[.bool false, .slice none 0 0] W (RetF W zeroQ.1 zeroQ.2.1 zeroQ.2.2)) := fun W => integer_num (va := .slice none 0 0) (a := 0) false (Num.nil W) (by rw [len_zero]; omega)
  have PL : Hid (∀ i (hi : i < l.length) W v u, Frac W v (sumQ (l.take i)).1 (sumQ (l.take i)).2.1 (sumQ (l.take i)).2.2 → Frac W u l[i].1 l[i].2.1 l[i].2.2 → Calls Try.prog 70 #[v, u] W (RetF W (sumQ (l.take (i + 1))).1 (sumQ (l.take (i + 1))).2.1 (sumQ (l.take (i + 1))).2.2)) := fun i hi W v u h kk => by
    have h1 := sumQ_ok l hok i (by omega)
    rw [List.take_add_one, List.getElem?_eq_getElem hi]
    show Calls _ _ _ _ (RetF W (sumQ (l.take i ++ [l[i]])).1 (sumQ (l.take i ++ [l[i]])).2.1 (sumQ (l.take i ++ [l[i]])).2.2)
    rw [sumQ_snoc]
    have h2 : (k + 1) * i ≤ 151 * 240 := Nat.mul_le_mul (by omega) (by omega)
    exact pAdd (h1.up (by omega)) ((hok _ (List.getElem_mem hi)).up (by omega)) h kk
  have LN : Hid (∀ i (hi : i < l.length), ∀ W, Below w.heap.size w W → ∃ o1 k1 c1 o2 k2 c2, (W.cell? ⟨g, i * 3, none⟩ = some (.bool l[i].1) ∧ W.cell? ⟨g, i * 3 + 1, none⟩ = some (.slice o1 k1 c1) ∧ W.cell? ⟨g, i * 3 + 2, none⟩ = some (.slice o2 k2 c2)) ∧ Num W (.slice o1 k1 c1) l[i].2.1 ∧ Num W (.slice o2 k2 c2) l[i].2.2) := fun i hi W hb => by
    obtain ⟨o1, k1, c1, o2, k2, c2, e1, e2, e3, e4, e5⟩ := (hr.go hb).get (i := i) (by omega) hi
    exact ⟨_, _, _, _, _, _, ⟨e1, e2, e3⟩, e4, e5⟩
  have BR := Box3.new w (.bool false) (.slice none 0 0) (.slice none 0 0)
  have B1 := below_alloc w (.cells #[.bool false, .slice none 0 0, .slice none 0 0] 55)
  have HBR := Lib.hid BR; have HB1 := Lib.hid B1
  clear hr hnl hn hok hk BR B1 HROW
  go_enter Try.func87, Try.ntmps87
  go_wp2_with fail
  generalize w.alloc (.cells #[.bool false, .slice none 0 0, .slice none 0 0] 55) = w1 at *
  refine (IN.out _).mono ?_; rintro e w2 ⟨v2, rfl, hv2, hb2⟩
  obtain ⟨o1, k1, c1, o2, k2, c2, rfl, hn2, hd2⟩ := hv2.box
  have bb := below_alloc w2 (.cells #[.bool zeroQ.1, .slice o1 k1 c1, .slice o2 k2 c2] 55)
  have I0 : Hid (TotI w w2.heap.size w.heap.size (sumQ (l.take 0)) (w2.alloc (.cells #[.bool zeroQ.1, .slice o1 k1 c1, .slice o2 k2 c2] 55))) := ⟨by rw [List.take_zero]; exact ⟨_, _, _, _, _, _, Box3.new _ _ _ _, hn2.go bb, hd2.go bb⟩, (HBR.out.go hb2).go bb, bstep (bstep HB1.out hb2) bb⟩
  have LE : Hid (w.heap.size ≤ w2.heap.size) := (bstep HB1.out hb2).size
  have NE : Hid (w.heap.size ≠ w2.heap.size) := by
    have h1 := HBR.out.lt
    have h2 := hb2.size
    exact Nat.ne_of_lt (by omega)
  clear hn2 hd2 bb hb2 HB1 HBR IN hv2
  go_wp2_with fail
  generalize w2.alloc (.cells #[.bool zeroQ.1, .slice o1 k1 c1, .slice o2 k2 c2] 55) = w3 at *
  generalize w2.heap.size = B3 at *
  go_loopw [9] (fun v9 wr => ∃ i : Nat, i ≤ n ∧ v9 = .int .i64 (i : Nat) ∧ Hid (TotI w B3 w.heap.size (sumQ (l.take i)) wr)) (fun vi _ => n - (intOf vi).toNat)
  case atStart => exact ⟨0, Nat.zero_le _, rfl, I0.out⟩
  case round =>
    obtain ⟨i, hi, rfl, hinv⟩ := hrel
    have Inv := Lib.hid hinv; clear hinv I0
    rename World => wr
    have hw : wrap64 ((i : Int) + 1) = ((i + 1 : Nat) : Int) := by unfold wrap64; have := HN2.out; omega
    have HW := Lib.hid hw; clear hw
    by_cases hlt : i < n
    · have hli : i < l.length := by rw [HNL.out]; exact hlt
      have PLI : Hid (∀ W v u, Frac W v (sumQ (l.take i)).1 (sumQ (l.take i)).2.1 (sumQ (l.take i)).2.2 → Frac W u l[i].1 l[i].2.1 l[i].2.2 → Calls Try.prog 70 #[v, u] W (RetF W (sumQ (l.take (i + 1))).1 (sumQ (l.take (i + 1))).2.1 (sumQ (l.take (i + 1))).2.2)) := fun W v u => PL.out i hli W v u
      obtain ⟨o1, k1, c1, o2, k2, c2, ⟨x0, x1, x2⟩, hn, hd⟩ := LN.out i hli wr Inv.out.out.2.2
      obtain ⟨s', hs'⟩ : ∃ s', s' = sumQ (l.take (i + 1)) := ⟨_, rfl⟩
      have HS := Lib.hid hs'
      rw [← hs'] at PLI
      clear hs' PL LN
      have TI := Lib.hid Inv.out.out
      clear Inv
      generalize sumQ (l.take i) = s at *
      generalize l[i] = a at *
      have bb := below_alloc wr (.cells #[.bool a.1, .slice o1 k1 c1, .slice o2 k2 c2] 55)
      have BA := Lib.hid (Box3.new wr (.bool a.1) (.slice o1 k1 c1) (.slice o2 k2 c2))
      have FA : Hid (Frac (wr.alloc (.cells #[.bool a.1, .slice o1 k1 c1, .slice o2 k2 c2] 55)) (.agg #[.bool a.1, .slice o1 k1 c1, .slice o2 k2 c2]) a.1 a.2.1 a.2.2) := ⟨_, _, rfl, hn.go bb, hd.go bb⟩
      have TA := Lib.hid (TI.out.go bb)
      obtain ⟨o3, k3, c3, o4, k4, c4, bx, hn3, hd3⟩ := TA.out.1
      have FS : Hid (Frac (wr.alloc (.cells #[.bool a.1, .slice o1 k1 c1, .slice o2 k2 c2] 55)) (.agg #[.bool s.1, .slice o3 k3 c3, .slice o4 k4 c4]) s.1 s.2.1 s.2.2) := ⟨_, _, rfl, hn3, hd3⟩
      obtain ⟨d0, d1, d2⟩ := Box3.cells BA.out
      obtain ⟨y0, y1, y2⟩ := Box3.cells bx
      have HLT := Lib.hid hlt
      clear hn hd bb hn3 hd3 bx TI hli hi
      go_wp2_with fail
      generalize wr.alloc (.cells #[.bool a.1, .slice o1 k1 c1, .slice o2 k2 c2] 55) = wa at *
      refine (PLI.out _ _ _ FS.out FA.out).mono ?_; rintro e w5 ⟨v5, rfl, hv5, hb5⟩
      obtain ⟨o7, k7, c7, o8, k8, c8, rfl, hqn, hqd⟩ := hv5.box
      have T5 := Lib.hid (TA.out.go hb5)
      have INV := Lib.hid (T5.out.put (r := s') hqn hqd LE.out NE.out)
      clear hv5 hqn hqd hb5 TA FS FA BA PLI d0 d1 d2 y0 y1 y2 x0 x1 x2 hlt
      obtain ⟨o5, k5, c5, o6, k6, c6, bx, -, -⟩ := T5.out.1
      obtain ⟨y0, y1, y2, f0, f1, f2⟩ := Box3.facts bx
      clear bx T5
      go_wp2_with fail
      go_roundw
      case rel => exact ⟨i + 1, HLT.out, by first | exact congrArg (Value.int .i64) HW.out | go_num, by rw [← HS.out]; exact INV.out⟩
      case measure => have := HLT.out; first | (rw [HW.out]; simp [intOf]; omega) | (simp [intOf]; omega)
    · obtain rfl : i = n := by omega
      have ht : sumQ (l.take i) = sumQ l := by rw [List.take_of_length_le (by rw [HNL.out]; exact Nat.le_refl _)]
      rw [ht] at Inv
      clear PL LN ht
      generalize sumQ l = s at *
      obtain ⟨⟨o3, k3, c3, o4, k4, c4, bx, hn3, hd3⟩, hbr, hbl⟩ := Inv.out.out
      have HN3 := Lib.hid hn3; have HD3 := Lib.hid hd3; have HBR := Lib.hid hbr; have HBL := Lib.hid hbl
      obtain ⟨y0, y1, y2⟩ := Box3.cells bx
      obtain ⟨x0, x1, x2, f0, f1, f2⟩ := Box3.facts hbr
      clear hn3 hd3 hbr hbl bx Inv
      go_wp2_with fail
      obtain ⟨e0, e1, e2, hf⟩ := box_ret (t := s.1) HBR.out HN3.out HD3.out HBL.out (by omega)
      refine bodyPost_ret (v := .agg #[.bool s.1, .slice o3 k3 c3, .slice o4 k4 c4]) ?_ rfl hf
      simp [results, Try.f87, go_sem, e0, e1, e2]
end Go.Proofs.Ytlkdahgfnfdakaa

namespace Go.Proofs.Ytlkdahgfnfdakaa
open Go Go.RowKit Go.Shelf WN LM

/-- what parse returns: the row lies in the block that it made first -/
def ParseOut3 (w : World) (o : Option (List Q3)) (e : Ending) (w' : World) : Prop :=
  Below w.heap.size w w' ∧ match o with
    | none => e = .returned (.tuple #[.slice none 0 0, .int .i64 1])
    | some qs => e = .returned (.tuple #[.slice (some ⟨w.heap.size, 0, none⟩) qs.length qs.length, .int .i64 0]) ∧ NRow w' w.heap.size qs.length qs qs.length
set_option maxRecDepth 100000 in
set_option maxHeartbeats 1000000 in
theorem parse_at {w : World} {v : Value} {L : List ByteArray} (hv : Strs w v L) (hn : L.length ≤ 1000000000000) (hs : ∀ s ∈ L, s.size ≤ 140737488355328) : Calls Try.prog 54 #[v] w (ParseOut3 w (readAll L)) := by
  obtain ⟨oa, cap, rfl, hcell⟩ := hv
  have HC := Lib.hid hcell; have HS := Lib.hid hs; clear hcell hs
  have hmk := fun w => make_numbers w L.length hn
  have hr0 := Lib.hid (NRow.new w L.length [])
  have hb0 := Lib.hid (below_alloc w (.cells (madeCells #[.bool false, .slice none 0 0, .slice none 0 0] (L.length * 3)) 55))
  go_enter Try.func54, Try.ntmps54
  go_wp2_with fail
  generalize w.alloc (.cells (madeCells #[.bool false, .slice none 0 0, .slice none 0 0] (L.length * 3)) 55) = w1 at *
  clear hmk
  go_loopw [14] (fun vi wr => ∃ i : Nat, i ≤ L.length ∧ vi = .int .i64 i ∧ Hid (ParseI L w i wr)) (fun vi _ => L.length - (intOf vi).toNat)
  case atStart => exact ⟨0, Nat.zero_le _, rfl, [], rfl, fun j h h' => absurd h' (Nat.not_lt_zero _), hr0.out, hb0.out⟩
  case round =>
    clear hr0 hb0
    obtain ⟨i, hi, rfl, hinv⟩ := hrel
    by_cases hlt : i < L.length
    · obtain ⟨b, off, rfl, hc⟩ := HC.out i hlt
      obtain ⟨qs, hq1, hq2, hq3, hq4⟩ := hinv.out
      have c0 := (hq4.cell (p := ⟨b, off + i, none⟩) (block_lt_of_cell hc)).trans hc
      have HSI := HS.out L[i] (List.getElem_mem hlt)
      have HQ2 := Lib.hid hq2; have HQ3 := Lib.hid hq3; have HQ4 := Lib.hid hq4; have HQ1 := Lib.hid hq1
      have HNO : Hid (readQ L[i].data.toList = none → readAll L = none) := readAll_none L i hlt
      have HLI : Hid (L[i]? = some L[i]) := List.getElem?_eq_getElem hlt
      have HYES : Hid (∀ q, readQ L[i].data.toList = some q → ∀ j (h : j < L.length) (h' : j < (qs ++ [q]).length), readQ L[j].data.toList = some (qs ++ [q])[j]) := fun q hq j h h' => by
        by_cases hj : j < qs.length
        · rw [List.getElem_append_left hj]; exact hq2 j h hj
        · have : j = i := by rw [List.length_append] at h'; simp at h'; omega
          subst this
          rw [List.getElem_append_right (by omega)]
          simpa using hq
      clear hinv hc hq1 hq2 hq3 hq4
      generalize L[i] = si at *
      go_wp2_with fail
      refine (read_num si _ HSI).mono ?_; rintro e w2 ⟨v2, hb2, hm⟩
      cases hq : readQ si.data.toList with
      | none =>
        rw [hq] at hm
        obtain ⟨rfl, rfl⟩ := hm
        have HR : Hid (∀ e w', ParseOut3 w none e w' → ParseOut3 w (readAll L) e w') := fun e w' h => by rw [HNO.out hq]; exact h
        have HB2 := Lib.hid (bstep HQ4.out hb2)
        clear hq hb2 c0
        go_wp2_with fail
        go_ret2
        refine HR.out _ _ ⟨HB2.out.trans ((below_alloc _ _).mono (by have := HB2.out.size; omega)), rfl⟩
      | some q =>
        rw [hq] at hm
        obtain ⟨s, N, D⟩ := q
        obtain ⟨rfl, hf⟩ := hm
        obtain ⟨o1, k1, c1', o2, k2, c2', rfl, hN, hD⟩ := hf.box
        have HB2 := Lib.hid (bstep HQ4.out hb2)
        have HY := Lib.hid (HYES.out _ hq)
        have HR2 := Lib.hid (HQ3.out.go hb2)
        have HN := Lib.hid hN; have HD := Lib.hid hD
        have bb := below_alloc w2 (.cells #[.bool s, .slice o1 k1 c1', .slice o2 k2 c2'] 55)
        have HR3 := Lib.hid (HR2.out.go bb); have HB3 := Lib.hid (HB2.out.trans (bb.mono (by have := HB2.out.size; omega)))
        have HN3 := Lib.hid (HN.out.go bb); have HD3 := Lib.hid (HD.out.go bb)
        have bx := Box3.new w2 (.bool s) (.slice o1 k1 c1') (.slice o2 k2 c2')
        have BX := Lib.hid bx
        clear hq hb2 hf hN hD c0 HNO HYES HQ3 HQ2 bb bx HR2 HN HD
        obtain ⟨x, y, z, c0, c1, c2, f0, f1, f2⟩ := HR3.out.cells hlt
        obtain ⟨d0, d1, d2⟩ := Box3.cells BX.out
        go_wp2_with fail
        go_roundw
        case rel =>
          refine ⟨i + 1, hlt, by go_num, qs ++ [(s, N, D)], by rw [List.length_append, HQ1.out]; rfl, HY.out, ?_, three_at HB3.out (Nat.le_refl _)⟩
          exact NRow.store (HR3.out.ext (fun j hj => by rw [List.getElem?_append_left (by rw [HQ1.out]; exact hj)])) hlt (by rw [List.getElem?_append_right (by rw [HQ1.out]; exact Nat.le_refl _), HQ1.out, Nat.sub_self]; rfl) HN3.out HD3.out
        case measure => simp [intOf]; omega
    · obtain rfl : i = L.length := by omega
      obtain ⟨qs, hq1, hq2, hq3, hq4⟩ := hinv.out
      have HR : Hid (∀ e w', ParseOut3 w (some qs) e w' → ParseOut3 w (readAll L) e w') := fun e w' h => by rw [readAll_some L qs hq1 hq2]; exact h
      have HQ3 := Lib.hid hq3; have HQ4 := Lib.hid hq4; have HQ1 := Lib.hid hq1
      clear hinv hq1 hq2 hq3 hq4 hlt
      go_wp2_with fail
      go_ret2
      refine HR.out _ _ ⟨HQ4.out, ?_, ?_⟩
      · rw [HQ1.out]; rfl
      · rw [HQ1.out]; exact HQ3.out

/-- a number of the row is replaced -/
theorem NRow.setAt {w : World} {g n : Nat} {l : List Q3} (h : NRow w g n l n) {i : Nat} (hi : i < n) {q : Q3} {o1 o2 : Option Addr} {k1 c1 k2 c2 : Nat} (hN : Num w (.slice o1 k1 c1) q.2.1) (hD : Num w (.slice o2 k2 c2) q.2.2) :
    NRow (((w.setCell ⟨g, i * 3, none⟩ (.bool q.1)).setCell ⟨g, i * 3 + 1, none⟩ (.slice o1 k1 c1)).setCell ⟨g, i * 3 + 2, none⟩ (.slice o2 k2 c2)) g n (l.set i q) n := by
  obtain ⟨cur, h1, h2, h3, h4⟩ := h
  have e1 := heap_setCell_same w g (i * 3) cur 55 (.bool q.1) h1
  have e2 := heap_setCell_same _ g (i * 3 + 1) _ 55 (.slice o1 k1 c1) e1
  have e3 := heap_setCell_same _ g (i * 3 + 2) _ 55 (.slice o2 k2 c2) e2
  have hoff := three_off w g (i * 3) (i * 3 + 1) (i * 3 + 2) (.bool q.1) (.slice o1 k1 c1) (.slice o2 k2 c2)
  refine ⟨_, e3, by simp [h2], noInt_set (noInt_set (noInt_set h3 (i * 3) (v := .bool q.1) trivial) (i * 3 + 1) (v := .slice o1 k1 c1) trivial) (i * 3 + 2) (v := .slice o2 k2 c2) trivial, fun j hj hjl => ?_⟩
  by_cases hij : i = j
  · subst hij
    rw [List.getElem_set_self]
    refine ⟨.slice o1 k1 c1, .slice o2 k2 c2, ?_, ?_, ?_, hN.off h1 h3 hoff, hD.off h1 h3 hoff⟩
    · rw [Array.getElem?_setIfInBounds_ne (by omega), Array.getElem?_setIfInBounds_ne (by omega), Array.getElem?_setIfInBounds_self_of_lt (by rw [h2]; omega)]
    · rw [Array.getElem?_setIfInBounds_ne (by omega), Array.getElem?_setIfInBounds_self_of_lt (by simp [h2]; omega)]
    · rw [Array.getElem?_setIfInBounds_self_of_lt (by simp [h2]; omega)]
  · have hjl' : j < l.length := by rwa [List.length_set] at hjl
    obtain ⟨vn, vd, g1, g2, g3, g4, g5⟩ := h4 j hj hjl'
    rw [List.getElem_set_ne hij]
    refine ⟨vn, vd, ?_, ?_, ?_, g4.off h1 h3 hoff, g5.off h1 h3 hoff⟩
    · rw [Array.getElem?_setIfInBounds_ne (by omega), Array.getElem?_setIfInBounds_ne (by omega), Array.getElem?_setIfInBounds_ne (by omega)]; exact g1
    · rw [Array.getElem?_setIfInBounds_ne (by omega), Array.getElem?_setIfInBounds_ne (by omega), Array.getElem?_setIfInBounds_ne (by omega)]; exact g2
    · rw [Array.getElem?_setIfInBounds_ne (by omega), Array.getElem?_setIfInBounds_ne (by omega), Array.getElem?_setIfInBounds_ne (by omega)]; exact g3
theorem NRow.aside {w : World} {g n : Nat} {l : List Q3} (h : NRow w g n l n) {G N : Nat} {L : List Q3} (hG : NRow w G N L N) (hne : g ≠ G) (a b c : Nat) (x y z : Value) :
    NRow (((w.setCell ⟨G, a, none⟩ x).setCell ⟨G, b, none⟩ y).setCell ⟨G, c, none⟩ z) g n l n := by
  obtain ⟨cur, h1, h2, h3, h4⟩ := h
  obtain ⟨cur', k1, -, k3, -⟩ := hG
  have hoff := three_off w G a b c x y z
  refine ⟨cur, (hoff g hne).trans h1, h2, h3, fun j hj hjl => ?_⟩
  obtain ⟨vn, vd, g1, g2, g3, g4, g5⟩ := h4 j hj hjl
  exact ⟨vn, vd, g1, g2, g3, g4.off k1 k3 hoff, g5.off k1 k3 hoff⟩
/-- the row of the loop of Dot: the products so far, then what stood there -/
def mixQ (z l : List Q3) (i : Nat) : List Q3 := z.take i ++ l.drop i
theorem mixQ_len {z l : List Q3} {n : Nat} (hz : z.length = n) (hl : l.length = n) {i : Nat} (hi : i ≤ n) : (mixQ z l i).length = n := by
  unfold mixQ; rw [List.length_append, List.length_take, List.length_drop]; omega
theorem mixQ_get {z l : List Q3} {n : Nat} (hz : z.length = n) (hl : l.length = n) {i : Nat} (hi : i < n) (h : i < (mixQ z l i).length) : (mixQ z l i)[i] = l[i] := by
  have e : (mixQ z l i)[i]? = l[i]? := by
    unfold mixQ
    have hzl : (z.take i).length = i := by rw [List.length_take]; omega
    rw [List.getElem?_append_right (by omega), hzl, Nat.sub_self, List.getElem?_drop, Nat.add_zero]
  rw [List.getElem?_eq_getElem h, List.getElem?_eq_getElem (by omega : i < l.length)] at e
  exact Option.some.inj e
theorem mixQ_set {z l : List Q3} {n : Nat} (hz : z.length = n) (hl : l.length = n) {i : Nat} (hi : i < n) : (mixQ z l i).set i z[i] = mixQ z l (i + 1) := by
  unfold mixQ
  have hzl : (z.take i).length = i := by rw [List.length_take]; omega
  rw [List.set_append_right _ _ (by omega), hzl, Nat.sub_self, List.drop_eq_getElem_cons (by omega : i < l.length), List.set_cons_zero, List.take_add_one, List.getElem?_eq_getElem (by omega : i < z.length), List.append_assoc]
  rfl
theorem mixQ_end {z l : List Q3} {n : Nat} (hz : z.length = n) (hl : l.length = n) : mixQ z l n = z := by
  unfold mixQ
  rw [List.take_of_length_le (by omega), List.drop_of_length_le (by omega), List.append_nil]

set_option maxHeartbeats 8000000 in
set_option maxRecDepth 100000 in
theorem sum_any {w : World} {v : Value} {L : List ByteArray} (hv : Strs w v L) (hn : L.length ≤ 1000000) (hL : readAll L ≠ none → L.length ≤ 240) (hs : ∀ s ∈ L, s.size ≤ 140737488355328) : Calls Try.prog 42 #[v] w (OutS w (sumT L)) := by
  have PS := Lib.hid (parse_at hv (by omega) hs)
  obtain ⟨oa, cap, rfl, -⟩ := hv
  have HN0 := Lib.hid hL
  clear hs hn hL
  cases hr : readAll L with
  | none =>
    rw [hr] at PS
    have HR : Hid (sumT L = ((⟨#[]⟩ : ByteArray), (1 : Int))) := by show _ = _; unfold sumT; rw [hr]
    clear hr
    go_enter Try.func42, Try.ntmps42
    go_wp2_with fail
    refine PS.out.mono ?_; rintro e w1 ⟨hb1, rfl⟩
    have HB1 := Lib.hid hb1; clear hb1
    go_wp2_with fail
    go_ret2
    exact ⟨by rw [HR.out]; rfl, HB1.out⟩
  | some l =>
    have HN : Hid (L.length ≤ 240) := HN0.out (by rw [hr]; intro h; cases h)
    clear HN0
    rw [hr] at PS
    have HR : Hid (sumT L = out3 (sumQ l)) := by show _ = _; unfold sumT; rw [hr]
    have hok := readAll_ok L l hr
    have hlen := readAll_length L l hr
    obtain ⟨n, hnl⟩ : ∃ n, l.length = n := ⟨_, rfl⟩
    have HNL := Lib.hid hnl
    have hl240 : n ≤ 240 := by have := HN.out; omega
    have TT : Hid (∀ W g, NRow W g n l n → Calls Try.prog 87 #[.slice (some ⟨g, 0, none⟩) n n] W (RetF W (sumQ l).1 (sumQ l).2.1 (sumQ l).2.2)) := fun W g h => total_any h hnl hl240 75 hok (by omega)
    have OT : Hid (∀ W v, Frac W v (sumQ l).1 (sumQ l).2.1 (sumQ l).2.2 → Calls Try.prog 62 #[v] W (OutS W (out3 (sumQ l)))) := fun W v h => by
      have h1 := sumQ_ok l hok l.length (Nat.le_refl _)
      rw [List.take_length] at h1
      exact pOut (h1.up (by have := Nat.mul_le_mul_left (75 + 1) (show l.length ≤ 240 by omega); omega)) h
    clear hr hok hlen hl240 HN hnl
    generalize sumQ l = s at *
    go_enter Try.func42, Try.ntmps42
    go_wp2_with fail
    refine PS.out.mono ?_; rintro e w1 ⟨hb1, rfl, hrow⟩
    rw [HNL.out] at hrow ⊢
    have HB1 := Lib.hid hb1; have HROW := Lib.hid hrow
    clear hb1 hrow PS
    go_wp2_with fail
    refine (TT.out _ _ HROW.out).mono ?_; rintro e w2 ⟨v2, rfl, hv2, hb2⟩
    have HV2 := Lib.hid hv2; have HB2 := Lib.hid (bstep HB1.out hb2)
    clear hv2 hb2
    go_wp2_with fail
    refine (OT.out _ _ HV2.out).mono ?_; rintro e w20 ⟨rfl, hb20⟩
    have HB20 := Lib.hid (bstep HB2.out hb20); clear hb20
    go_wp2_with fail
    go_ret2
    exact ⟨by rw [HR.out]; rfl, HB20.out⟩
end Go.Proofs.Ytlkdahgfnfdakaa

namespace Go.Proofs.Ytlkdahgfnfdakaa
open Go Go.RowKit Go.Shelf WN LM

theorem NRow.load {w : World} {g n : Nat} {l : List Q3} (h : NRow w g n l n) {i : Nat} (hi : i < n) (hl : i < l.length) {q : Q3} (hq : l[i] = q) : ∀ W, Below w.heap.size w W →
    ∃ o1 k1 c1 o2 k2 c2, (W.cell? ⟨g, i * 3, none⟩ = some (.bool q.1) ∧ W.cell? ⟨g, i * 3 + 1, none⟩ = some (.slice o1 k1 c1) ∧ W.cell? ⟨g, i * 3 + 2, none⟩ = some (.slice o2 k2 c2)) ∧ Num W (.slice o1 k1 c1) q.2.1 ∧ Num W (.slice o2 k2 c2) q.2.2 := fun W hb => by
  obtain ⟨o1, k1, c1, o2, k2, c2, e1, e2, e3, e4, e5⟩ := (h.go hb).get hi hl
  rw [hq] at e1 e4 e5
  exact ⟨_, _, _, _, _, _, ⟨e1, e2, e3⟩, e4, e5⟩
set_option maxHeartbeats 8000000 in
set_option maxRecDepth 100000 in
theorem dot_any {w : World} {v u : Value} {L M : List ByteArray} (hv : Strs w v L) (hu : Strs w u M) (hn : L.length ≤ 1000000) (hm : M.length ≤ 1000000) (hL : readAll L ≠ none → L.length ≤ 240) (hs : ∀ s ∈ L, s.size ≤ 140737488355328) (ht : ∀ s ∈ M, s.size ≤ 140737488355328) : Calls Try.prog 44 #[v, u] w (OutS w (dotT L M)) := by
  have RA := Lib.hid (parse_at hv (by omega) hs)
  have RB : Hid (∀ W, Below w.heap.size w W → Calls Try.prog 54 #[u] W (ParseOut3 W (readAll M))) := fun W hb => parse_at (hu.go hb) (by omega) ht
  have HN := Lib.hid hL
  obtain ⟨oa, cap, rfl, -⟩ := hv
  obtain ⟨ob, cap2, rfl, -⟩ := hu
  clear hs ht hn hm hL
  cases hr : readAll L with
  | none =>
    rw [hr] at RA
    have HR : Hid (dotT L M = ((⟨#[]⟩ : ByteArray), (1 : Int))) := by show _ = _; unfold dotT; rw [hr]
    clear hr HN RB
    go_enter Try.func44, Try.ntmps44
    go_wp2_with fail
    refine RA.out.mono ?_; rintro e w1 ⟨hb1, rfl⟩
    have HB1 := Lib.hid hb1; clear hb1
    go_wp2_with fail
    go_ret2
    exact ⟨by rw [HR.out]; rfl, HB1.out⟩
  | some l =>
    cases hr2 : readAll M with
    | none =>
      rw [hr] at RA
      rw [hr2] at RB
      have HR : Hid (dotT L M = ((⟨#[]⟩ : ByteArray), (1 : Int))) := by show _ = _; unfold dotT; rw [hr, hr2]
      clear hr hr2 HN
      go_enter Try.func44, Try.ntmps44
      go_wp2_with fail
      refine RA.out.mono ?_; rintro e w1 ⟨hb1, rfl, hq1⟩
      have HB1 := Lib.hid hb1; clear hb1 hq1
      go_wp2_with fail
      refine (RB.out _ HB1.out).mono ?_; rintro e w2 ⟨hb2, rfl⟩
      have HB2 := Lib.hid (bstep HB1.out hb2); clear hb2
      go_wp2_with fail
      go_ret2
      exact ⟨by rw [HR.out]; rfl, HB2.out⟩
    | some m =>
      rw [hr] at RA
      rw [hr2] at RB
      have HR0 : Hid (dotT L M = if l.length ≠ m.length then ((⟨#[]⟩ : ByteArray), (3 : Int)) else out3 (dotQ l m)) := by show _ = _; unfold dotT; rw [hr, hr2]
      have hok := readAll_ok L l hr
      have hok2 := readAll_ok M m hr2
      have hlen := readAll_length L l hr
      have hL240 := HN.out (by rw [hr]; intro h; cases h)
      obtain ⟨n, hnl⟩ : ∃ n, l.length = n := ⟨_, rfl⟩
      obtain ⟨n2, hnm⟩ : ∃ n, m.length = n := ⟨_, rfl⟩
      have hn2 : n ≤ 240 := by omega
      have HNL := Lib.hid hnl; have HNM := Lib.hid hnm; have HN2 := Lib.hid hn2
      rw [hnl, hnm] at HR0
      go_enter Try.func44, Try.ntmps44
      go_wp2_with fail
      refine RA.out.mono ?_; rintro e w1 ⟨hb1, rfl, hq1⟩
      rw [HNL.out] at hq1 ⊢
      have HB1 := Lib.hid hb1; have HQ1 := Lib.hid hq1
      clear hb1 hq1 RA
      go_wp2_with fail
      refine (RB.out _ HB1.out).mono ?_; rintro e w2 ⟨hb2, rfl, hp2⟩
      rw [HNM.out] at hp2 ⊢
      have HB2 := Lib.hid (bstep HB1.out hb2); have HQ2 := Lib.hid (HQ1.out.go hb2); have HP2 := Lib.hid hp2
      have NE : Hid (w1.heap.size ≠ w.heap.size) := Nat.ne_of_gt HQ1.out.lt
      clear hb2 hp2 RB HQ1
      obtain ⟨G2, hG2⟩ : ∃ G2, w1.heap.size = G2 := ⟨_, rfl⟩
      rw [hG2] at NE HP2 ⊢
      clear hG2
      by_cases hne : n = n2
      · have HR : Hid (dotT L M = out3 (dotQ l m)) := by show _ = _; rw [HR0.out, if_neg (by omega)]
        obtain ⟨z, hz⟩ : ∃ z, z = List.zipWith mulQ l m := ⟨_, rfl⟩
        have hzl : z.length = n := by rw [hz, List.length_zipWith]; omega
        have hdz : dotQ l m = sumQ z := by rw [hz]; rfl
        rw [hdz] at HR
        have hzk : ∀ q ∈ z, Ok 150 q := by rw [hz]; exact zip_ok hok hok2
        have hzi : ∀ i (h1 : i < l.length) (h2 : i < m.length) (h3 : i < z.length), z[i] = mulQ l[i] m[i] := fun i h1 h2 h3 => by subst hz; rw [List.getElem_zipWith]
        have TM : Hid (∀ i (h1 : i < l.length) (h2 : i < m.length) (h3 : i < z.length) W v u, Frac W v l[i].1 l[i].2.1 l[i].2.2 → Frac W u m[i].1 m[i].2.1 m[i].2.2 → Calls Try.prog 64 #[v, u] W (RetF W z[i].1 z[i].2.1 z[i].2.2)) := fun i h1 h2 h3 W v u h k => by
          rw [hzi i h1 h2 h3]
          exact pMul ((hok _ (List.getElem_mem h1)).up (by omega)) ((hok2 _ (List.getElem_mem h2)).up (by omega)) h k
        have TT : Hid (∀ W g c, NRow W g n z n → Calls Try.prog 87 #[.slice (some ⟨g, 0, none⟩) n c] W (RetF W (sumQ z).1 (sumQ z).2.1 (sumQ z).2.2)) := fun W g c h => total_any h hzl hn2 150 hzk (by omega)
        have OT : Hid (∀ W v, Frac W v (sumQ z).1 (sumQ z).2.1 (sumQ z).2.2 → Calls Try.prog 62 #[v] W (OutS W (out3 (sumQ z)))) := fun W v h => by
          have h1 := sumQ_ok z hzk z.length (Nat.le_refl _)
          rw [List.take_length] at h1
          exact pOut (h1.up (by have := Nat.mul_le_mul_left (150 + 1) (show z.length ≤ 240 by omega); omega)) h
        have HZL := Lib.hid hzl; have HNE := Lib.hid hne
        have tne : ((n : Int) != (n2 : Int)) = false := by rw [bne_eq_false_iff_eq, hne]
        have I0 : Hid (NRow w2 w.heap.size n (mixQ z l 0) n ∧ NRow w2 G2 n2 m n2 ∧ Below w.heap.size w w2) := ⟨by show NRow _ _ _ (z.take 0 ++ l.drop 0) _; rw [List.take_zero, List.drop_zero]; exact HQ2.out, HP2.out, HB2.out⟩
        clear hr hr2 hok hok2 hlen hnl hnm hn2 HN hL240 hz hzl hdz hzk hzi hne HR0 HQ2 HP2 HB2 HB1
        go_wp2_with fail
        go_loopw [33] (fun v7 wr => ∃ i : Nat, i ≤ n ∧ v7 = .int .i64 (i : Nat) ∧ Hid (NRow wr w.heap.size n (mixQ z l i) n ∧ NRow wr G2 n2 m n2 ∧ Below w.heap.size w wr)) (fun vi _ => n - (intOf vi).toNat)
        case atStart => exact ⟨0, Nat.zero_le _, rfl, I0.out⟩
        case round =>
          obtain ⟨i, hi, rfl, hinv⟩ := hrel
          have Inv := Lib.hid hinv; clear hinv I0
          rename World => wr
          have hw : wrap64 ((i : Int) + 1) = ((i + 1 : Nat) : Int) := by unfold wrap64; have := HN2.out; omega
          have HW := Lib.hid hw; clear hw
          have RWA := Lib.hid Inv.out.out.1; have RWB := Lib.hid Inv.out.out.2.1; have HB := Lib.hid Inv.out.out.2.2
          clear Inv
          by_cases hlt : i < n
          · have hli : i < l.length := by rw [HNL.out]; exact hlt
            have hlj : i < m.length := by rw [HNM.out]; have := HNE.out; omega
            have hlz : i < z.length := by rw [HZL.out]; exact hlt
            have hlt2 : i < n2 := by have := HNE.out; omega
            have TMI : Hid (∀ W v u, Frac W v l[i].1 l[i].2.1 l[i].2.2 → Frac W u m[i].1 m[i].2.1 m[i].2.2 → Calls Try.prog 64 #[v, u] W (RetF W z[i].1 z[i].2.1 z[i].2.2)) := fun W v u => TM.out i hli hlj hlz W v u
            have hml : i < (mixQ z l i).length := by rw [mixQ_len HZL.out HNL.out (Nat.le_of_lt hlt)]; exact hlt
            have GET := Lib.hid (RWA.out.load hlt hml (mixQ_get HZL.out HNL.out hlt hml))
            have GET2 := Lib.hid (RWB.out.load hlt2 hlj rfl)
            have MS : Hid ((mixQ z l i).set i z[i] = mixQ z l (i + 1)) := mixQ_set HZL.out HNL.out hlt
            clear TM OT TT hml
            generalize l[i] = a at *
            generalize m[i] = b at *
            generalize z[i] = p at *
            go_wp2_with fail
            refine region_inv 12 54 [(36, Is (.slice (some ⟨w.heap.size, 0, none⟩) n n)), (37, Is (.int .i64 (i : Nat))), (38, Is (.slice (some ⟨w.heap.size, 0, none⟩) n n)), (39, Is (.int .i64 (i : Nat))), (40, Is (.pointer (some ⟨w.heap.size, i * 3, none⟩))), (41, IsFrac a.1 a.2.1 a.2.2), (42, Is (.slice (some ⟨G2, 0, none⟩) n2 n2)), (43, Is (.int .i64 (i : Nat))), (44, Is (.pointer (some ⟨G2, i * 3, none⟩))), (45, IsFrac b.1 b.2.1 b.2.2), (46, IsFrac p.1 p.2.1 p.2.2), (47, Is (.pointer (some ⟨w.heap.size, i * 3, none⟩)))] (by kernel_rfl) rfl (by kernel_rfl) ?_ ?_
            · refine steps_cons rfl (fun A_ W hb hr hg K hK => ?_) <| steps_cons rfl (fun A_ W hb hr hg K hK => ?_) <| steps_cons rfl (fun A_ W hb hr hg K hK => ?_) <| steps_cons rfl (fun A_ W hb hr hg K hK => ?_) <| steps_cons rfl (fun A_ W hb hr hg K hK => ?_) <| steps_cons rfl (fun A_ W hb hr hg K hK => ?_) <| steps_cons rfl (fun A_ W hb hr hg K hK => ?_) <| steps_cons rfl (fun A_ W hb hr hg K hK => ?_) <| steps_cons rfl (fun A_ W hb hr hg K hK => ?_) <| steps_cons rfl (fun A_ W hb hr hg K hK => ?_) <| steps_cons rfl (fun A_ W hb hr hg K hK => ?_) <| steps_cons rfl (fun A_ W hb hr hg K hK => ?_) trivial
              · have e0 : A_.tmps[6]?.getD undef = .slice (some ⟨w.heap.size, 0, none⟩) n n := hb 6 (by kernel_rfl)
                clear hb hr; go_simp; exact hK _ _ (Below.refl _ _) rfl
              · have e0 : A_.tmps[9]?.getD undef = .int .i64 (i : Nat) := hb 9 (by kernel_rfl)
                clear hb hr; go_simp; exact hK _ _ (Below.refl _ _) rfl
              · have e0 : A_.tmps[6]?.getD undef = .slice (some ⟨w.heap.size, 0, none⟩) n n := hb 6 (by kernel_rfl)
                clear hb hr; go_simp; exact hK _ _ (Below.refl _ _) rfl
              · have e0 : A_.tmps[9]?.getD undef = .int .i64 (i : Nat) := hb 9 (by kernel_rfl)
                clear hb hr; go_simp; exact hK _ _ (Below.refl _ _) rfl
              · have e0 : A_.tmps[38]?.getD undef = .slice (some ⟨w.heap.size, 0, none⟩) n n := hr 38 (by kernel_rfl)
                have e1 : A_.tmps[39]?.getD undef = .int .i64 (i : Nat) := hr 39 (by kernel_rfl)
                clear hb hr; go_simp; exact hK _ _ (Below.refl _ _) rfl
              · have e0 : A_.tmps[40]?.getD undef = .pointer (some ⟨w.heap.size, i * 3, none⟩) := hr 40 (by kernel_rfl)
                obtain ⟨o1, k1, c1, o2, k2, c2, ⟨x0, x1, x2⟩, hn, hd⟩ := GET.out W hg
                have HNN := Lib.hid hn; have HDD := Lib.hid hd
                clear hb hr hn hd; go_simp; exact hK _ _ (Below.refl _ _) ⟨_, _, rfl, HNN.out, HDD.out⟩
              · have e0 : A_.tmps[8]?.getD undef = .slice (some ⟨G2, 0, none⟩) n2 n2 := hb 8 (by kernel_rfl)
                clear hb hr; go_simp; exact hK _ _ (Below.refl _ _) rfl
              · have e0 : A_.tmps[9]?.getD undef = .int .i64 (i : Nat) := hb 9 (by kernel_rfl)
                clear hb hr; go_simp; exact hK _ _ (Below.refl _ _) rfl
              · have e0 : A_.tmps[42]?.getD undef = .slice (some ⟨G2, 0, none⟩) n2 n2 := hr 42 (by kernel_rfl)
                have e1 : A_.tmps[43]?.getD undef = .int .i64 (i : Nat) := hr 43 (by kernel_rfl)
                clear hb hr; go_simp; exact hK _ _ (Below.refl _ _) rfl
              · have e0 : A_.tmps[44]?.getD undef = .pointer (some ⟨G2, i * 3, none⟩) := hr 44 (by kernel_rfl)
                obtain ⟨o1, k1, c1, o2, k2, c2, ⟨x0, x1, x2⟩, hn, hd⟩ := GET2.out W hg
                have HNN := Lib.hid hn; have HDD := Lib.hid hd
                clear hb hr hn hd; go_simp; exact hK _ _ (Below.refl _ _) ⟨_, _, rfl, HNN.out, HDD.out⟩
              · have h1 : Frac W (A_.tmps[41]?.getD undef) a.1 a.2.1 a.2.2 := hr 41 (by kernel_rfl)
                have h2 : Frac W (A_.tmps[45]?.getD undef) b.1 b.2.1 b.2.2 := hr 45 (by kernel_rfl)
                have H1 := Lib.hid h1; have H2 := Lib.hid h2
                clear hb hr h1 h2; go_simp
                refine (TMI.out W _ _ H1.out H2.out).mono ?_; rintro e w5 ⟨v5, rfl, hv5, hb5⟩
                exact hK _ _ hb5 hv5
              · have e0 : A_.tmps[36]?.getD undef = .slice (some ⟨w.heap.size, 0, none⟩) n n := hr 36 (by kernel_rfl)
                have e1 : A_.tmps[37]?.getD undef = .int .i64 (i : Nat) := hr 37 (by kernel_rfl)
                clear hb hr; go_simp; exact hK _ _ (Below.refl _ _) rfl
            rintro g4 w14 hb14 ⟨-, -, -, -, -, -, -, -, -, -, h20, h21, -⟩
            simp only [List.drop_succ_cons, List.drop_zero, List.take_succ_cons, List.take_zero, putHead, Option.getD_some, Act.put, List.setIfInBounds_toArray, List.set_cons_zero, List.set_cons_succ]
            replace h20 : Frac w14 (g4 46) p.1 p.2.1 p.2.2 := h20
            replace h21 : g4 47 = .pointer (some ⟨w.heap.size, i * 3, none⟩) := h21
            generalize g4 46 = v20 at *
            generalize g4 47 = v21 at *
            subst h21
            obtain ⟨o7, k7, c7, o8, k8, c8, rfl, hqn, hqd⟩ := h20.box
            have RA9 := Lib.hid (RWA.out.go hb14); have RB9 := Lib.hid (RWB.out.go hb14); have HB9 := Lib.hid (bstep HB.out hb14)
            obtain ⟨y0, y1, y2, x0, x1, x2, f0, f1, f2⟩ := RA9.out.cells hlt
            have ra := RA9.out.setAt (q := p) hlt hqn hqd
            rw [MS.out] at ra
            have INV := Lib.hid (And.intro ra (And.intro (RB9.out.aside RA9.out NE.out (i * 3) (i * 3 + 1) (i * 3 + 2) (.bool p.1) (.slice o7 k7 c7) (.slice o8 k8 c8)) (three_at (a := i * 3) (b := i * 3 + 1) (c := i * 3 + 2) (x := .bool p.1) (y := .slice o7 k7 c7) (z := .slice o8 k8 c8) HB9.out (Nat.le_refl _))))
            have HLT := Lib.hid hlt
            clear h20 hb14 hqn hqd ra RWA RWB HB RA9 RB9 HB9 GET GET2 TMI MS hlt hi hli hlj hlz hlt2
            go_wp2_with fail
            go_roundw
            case rel => exact ⟨i + 1, HLT.out, by first | exact congrArg (Value.int .i64) HW.out | go_num, INV.out⟩
            case measure => have := HLT.out; first | (rw [HW.out]; simp [intOf]; omega) | (simp [intOf]; omega)

          · obtain rfl : i = n := by omega
            have RZ : Hid (NRow wr w.heap.size i z i) := by have := RWA.out; rwa [mixQ_end HZL.out HNL.out] at this
            clear TM RWA RWB
            generalize sumQ z = s at *
            go_wp2_with fail
            refine (TT.out _ _ _ RZ.out).mono ?_; rintro e w5 ⟨v5, rfl, hv5, hb5⟩
            have HV5 := Lib.hid hv5; have HB5 := Lib.hid (bstep HB.out hb5)
            clear hv5 hb5
            go_wp2_with fail
            refine (OT.out _ _ HV5.out).mono ?_; rintro e w20 ⟨rfl, hb20⟩
            have HB20 := Lib.hid (bstep HB5.out hb20); clear hb20
            go_wp2_with fail
            go_ret2
            exact ⟨by rw [HR.out]; rfl, HB20.out⟩
      · have HR : Hid (dotT L M = ((⟨#[]⟩ : ByteArray), (3 : Int))) := by show _ = _; rw [HR0.out, if_pos hne]
        have tne : ((n : Int) != (n2 : Int)) = true := by rw [bne_iff_ne]; omega
        clear hr hr2 hok hok2 hlen hnl hnm hn2 HN hL240 hne HR0 HQ2 HP2
        go_wp2_with fail
        go_ret2
        exact ⟨by rw [HR.out]; rfl, HB2.out⟩
end Go.Proofs.Ytlkdahgfnfdakaa
