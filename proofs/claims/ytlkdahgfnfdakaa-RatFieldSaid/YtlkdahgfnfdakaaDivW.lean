import Derived.Test.YtlkdahgfnfdakaaDivL
import Derived.Laws.CopyOwn
import Derived.Test.YtlkdahgfnfdakaaOverW
namespace Go.Proofs.Ytlkdahgfnfdakaa
open Go.RowKit Go.Shelf WN
attribute [local go_sem] Oper.semAt_some

def DivI (w : World) (vb : Value) (la : Nat) (v n Nq : Nat) (k : Nat) (W : World) : Prop :=
  ∃ R qs, DivNums la v n Nq k R qs ∧ Row W (w.heap.size + 1) .u32 117 R ∧ Row W (w.heap.size + 1 + 1 + 1) .u32 117 (List.replicate (Nq - k) 0 ++ qs) ∧
    Box W w.heap.size 53 vb ∧ Box W (w.heap.size + 1 + 1) 53 (.slice (some ⟨w.heap.size + 1, 0, none⟩) (Nq + n) (Nq + n)) ∧
    Box W (w.heap.size + 1 + 1 + 1 + 1) 53 (.slice (some ⟨w.heap.size + 1 + 1 + 1, 0, none⟩) Nq Nq) ∧ Box W (w.heap.size + 1 + 1 + 1 + 1 + 1) 53 (.slice (some ⟨w.heap.size + 1 + 1 + 1, 0, none⟩) Nq Nq) ∧ Below w.heap.size w W

def DivOut (w : World) (a b : Nat) (e : Ending) (w' : World) : Prop :=
  ∃ vq vr q r, e = .returned (.tuple #[vq, vr]) ∧ Rep w' .u32 vq q ∧ Canon 1000000000 q ∧ val 1000000000 q = a / b ∧ Rep w' .u32 vr r ∧ Canon 1000000000 r ∧ val 1000000000 r = a % b ∧ Below w.heap.size w w'

theorem copy_ns (l : List Nat) : (((ns .u32 (List.replicate (l.length + 1) 0)).toList.take 0 ++ (nl .u32 l ++ (ns .u32 (List.replicate (l.length + 1) 0)).toList.drop (0 + (nl .u32 l).length))).toArray) = ns .u32 (l ++ [0]) := by
  apply Array.toList_inj.1
  simp [ns_toList, nl, List.replicate_succ']

theorem Rep.src {w wr : World} {k : IntKind} {oa : Option Addr} {n cap : Nat} {l : List Nat} (h : Rep w k (.slice oa n cap) l) (hb : Below w.heap.size w wr) {ad : Addr} (ha : oa = some ad) :
    ∀ j v, (nl k l)[j]? = some v → wr.cell? (ad.add j) = some v := by
  intro j v hv
  have hj : j < l.length := by have := (List.getElem?_eq_some_iff.1 hv).1; simpa [nl] using this
  obtain ⟨b, off, he, _, hc⟩ := h.at' hb j hj
  rw [ha] at he
  cases he
  rw [Addr.add_lit, hc, ← hv]
  simp [nl, hj]

theorem wpList_copy_words {w : World} {ops : Array Oper} {rest : List Oper} {o : Oper} {a : Act} {Q : Exit → Act → World → Prop} (hgd : o.guard = none) (d s : Operand)
    (ho : o.op = .call { callee := .builtin .copy, args := #[d, s], argTypes := #[53, 53] }) (hsz : (Try.prog.info? 117).map (·.size) = some 1)
    (g dLen dCap : Nat) (ad : Addr) (sLen sCap : Nat) (hd : a.eval d = .slice (some ⟨g, 0, none⟩) dLen dCap) (hs : a.eval s = .slice (some ad) sLen sCap)
    (l : List Nat) (hg : Row w g .u32 117 (List.replicate (l.length + 1) 0)) (hn : l.length = sLen) (hn2 : sLen ≤ dLen)
    (hsrc : ∀ j v, (nl .u32 l)[j]? = some v → w.cell? (ad.add j) = some v)
    (h : ∀ w', Row w' g .u32 117 (l ++ [0]) → (∀ k, k ≠ g → w'.heap[k]? = w.heap[k]?) → w'.heap.size = w.heap.size → w.grownBy w' (some g) → wpList Try.prog ops Q rest (a.put o.dst (.int .i64 (l.length : Nat))) w') :
    wpList Try.prog ops Q (o :: rest) a w := by
  refine wpList_copy_own hgd d s 53 53 ho 117 Try.underlying53 hsz g 0 dLen dCap ad sLen sCap hd hs (ns .u32 (List.replicate (l.length + 1) 0)) 117 hg (nl .u32 l) (by rw [nl_length, hn]; exact (Nat.min_eq_left hn2).symm) hsrc
    (by rw [nl_length, ns_size]; simp) (by intro v hv; simp [nl] at hv; obtain ⟨x, _, rfl⟩ := hv; rfl) ?_
  rw [copy_ns, nl_length]
  exact h _ (setRow_heap _ _ _ _ _ _ hg) (fun k hk => setRow_other _ _ _ _ hk) (by simp) ⟨rfl, rfl, rfl, by simp, fun k _ hk => setRow_other _ _ _ _ (fun e => hk (by rw [e]))⟩

theorem gm_of {R lb : List Nat} {o : Nat} (dR : Digs 1000000000 R) (dl : Digs 1000000000 lb) (hn : 2 ≤ lb.length) (ho : o + lb.length < R.length) (hh : lb[lb.length - 1]?.getD 0 ≠ 0) (hlt : part R o (lb.length + 1) < val 1000000000 lb * 1000000000) :
    GM (part R o (lb.length + 1)) (val 1000000000 lb) ((R[o + lb.length]?.getD 0) * 1000000000 + (R[o + (lb.length - 1)]?.getD 0)) (lb[lb.length - 1]?.getD 0) (lb[lb.length - 2]?.getD 0) (R[o + (lb.length - 2)]?.getD 0) := by
  have g9 : ∀ i, R[i]?.getD 0 < 1000000000 := fun i => by have := dR.getD i (by omega); rwa [List.getD_eq_getElem?_getD] at this
  have l9 : ∀ i, lb[i]?.getD 0 < 1000000000 := fun i => by have := dl.getD i (by omega); rwa [List.getD_eq_getElem?_getD] at this
  refine ⟨⟨1000000000 ^ (lb.length - 2), part R o (lb.length - 2), val 1000000000 (lb.take (lb.length - 2)), Nat.pow_pos (by omega), ?_, part_lt dR _ _, ?_, ?_⟩, g9 _, l9 _, by have := hh; omega, l9 _, hlt⟩
  · obtain ⟨m, hm⟩ : ∃ m, lb.length = m + 2 := ⟨lb.length - 2, by omega⟩
    rw [hm, show m + 2 - 2 = m from by omega, show m + 2 - 1 = m + 1 from by omega, part_succ, part_succ, part_succ, show 1000000000 ^ (m + 2) = 1000000000 ^ m * 1000000000 * 1000000000 from by rw [Nat.pow_succ, Nat.pow_succ], Nat.pow_succ 1000000000 m]
    generalize R[o + (m + 2)]?.getD 0 = a
    generalize R[o + (m + 1)]?.getD 0 = b
    generalize R[o + m]?.getD 0 = c
    generalize 1000000000 ^ m = X
    rw [Nat.add_mul _ c, Nat.add_mul (a * 1000000000) b, Nat.add_mul]
    rw [Nat.mul_comm c X, show X * 1000000000 * b = b * 1000000000 * X from by rw [Nat.mul_right_comm, Nat.mul_comm X b, Nat.mul_right_comm], show X * 1000000000 * 1000000000 * a = a * 1000000000 * 1000000000 * X from by
      rw [Nat.mul_comm (X * 1000000000 * 1000000000) a, ← Nat.mul_assoc, ← Nat.mul_assoc, Nat.mul_right_comm a X, Nat.mul_right_comm (a * 1000000000) X]]
    omega
  · obtain ⟨m, hm⟩ : ∃ m, lb.length = m + 2 := ⟨lb.length - 2, by omega⟩
    have e := val_take_next 1000000000 lb (m + 1)
    rw [List.take_of_length_le (by omega : lb.length ≤ m + 1 + 1), val_take_next 1000000000 lb m, Nat.pow_succ] at e
    rw [hm, show m + 2 - 2 = m from by omega, show m + 2 - 1 = m + 1 from by omega, e]
    generalize lb[m + 1]?.getD 0 = a
    generalize lb[m]?.getD 0 = b
    generalize 1000000000 ^ m = X
    rw [Nat.add_mul, Nat.mul_comm b X, show X * 1000000000 * a = a * 1000000000 * X from by rw [Nat.mul_right_comm, Nat.mul_comm X a, Nat.mul_right_comm]]
    omega
  · have := val_lt (B := 1000000000) (by omega) (dl.take (lb.length - 2))
    rwa [List.length_take, Nat.min_eq_left (by omega)] at this

theorem top_ne {l : List Nat} (h : Top l) (hl : 0 < l.length) : l[l.length - 1]?.getD 0 ≠ 0 := by
  intro h0
  apply h
  rw [List.getLast?_eq_getElem?, List.getElem?_eq_getElem (by omega)]
  rw [List.getElem?_eq_getElem (by omega)] at h0
  exact congrArg some h0

theorem DivI.close {w W W3 : World} {vb : Value} {la v n Nq k t d : Nat} {m qs : List Nat} (hk : k < Nq) (ht : Nq - 1 - k = t) (hn : DivNums la v n Nq (k + 1) m (d :: qs)) (hq : qs.length = k) (hko : KeepsOthers W W3)
    (h2 : Row W3 (w.heap.size + 1) .u32 117 m) (h3 : Row W3 (w.heap.size + 1 + 1 + 1) .u32 117 (List.replicate (Nq - k) 0 ++ qs)) (h4 : Box W3 w.heap.size 53 vb)
    (h5 : Box W3 (w.heap.size + 1 + 1) 53 (.slice (some ⟨w.heap.size + 1, 0, none⟩) (Nq + n) (Nq + n))) (h6 : Box W3 (w.heap.size + 1 + 1 + 1 + 1) 53 (.slice (some ⟨w.heap.size + 1 + 1 + 1, 0, none⟩) Nq Nq))
    (h7 : Box W3 (w.heap.size + 1 + 1 + 1 + 1 + 1) 53 (.slice (some ⟨w.heap.size + 1 + 1 + 1, 0, none⟩) Nq Nq)) (h8 : Below w.heap.size w W3) (A : Act) :
    DownPost (DivI w vb la v n Nq) (fun _ _ => False) k W .normal A (W3.setCell ⟨w.heap.size + 1 + 1 + 1, t, none⟩ (.int .u32 (d : Nat))) := by
  refine ⟨hko.trans (KeepsOthers.setCell _ _ _), m, d :: qs, hn, h2.other _ _ (by simp <;> omega), ?_, h4.other _ _ (by simp <;> omega), h5.other _ _ (by simp <;> omega), h6.other _ _ (by simp <;> omega), h7.other _ _ (by simp <;> omega), h8.setCell (p := ⟨w.heap.size + 1 + 1 + 1, t, none⟩) (by simp <;> omega) _⟩
  rw [← set_prev hk, ht]
  exact h3.set t d

set_option maxRecDepth 100000 in
set_option maxHeartbeats 4000000 in
theorem divideLong_core (la lb : List Nat) (oa ob : Option Addr) (na ca nb cb : Nat) (hna : na ≤ 10000000000) (hn2 : 2 ≤ nb) (hnb : nb ≤ na) (da : Digs 1000000000 la) (db : Canon 1000000000 lb) (w : World)
    (hra : Rep w .u32 (.slice oa na ca) la) (hrb : Rep w .u32 (.slice ob nb cb) lb) :
    Calls Try.prog 132 #[.slice oa na ca, .slice ob nb cb] w (DivOut w (val 1000000000 la) (val 1000000000 lb)) := by
  have ea := hra.len
  have eb := hrb.len
  have Ha := Lib.hid hra; clear hra
  have Hb := Lib.hid hrb; clear hrb
  have Da := Lib.hid da; clear da
  have Db := Lib.hid db; clear db
  obtain ⟨rfl, _⟩ := ea
  obtain ⟨rfl, _⟩ := eb
  have hmk1 := fun w => make_words w ((la.length : Int) + 1) ((la.length : Int) + 1) (by omega) (by omega) (by omega)
  have hmk2 := fun w => make_words w ((la.length : Int) - (lb.length : Int) + 1) ((la.length : Int) - (lb.length : Int) + 1) (by omega) (by omega) (by omega)
  obtain ⟨i0, hi, hz0, hz1, hz2⟩ := info_parts Try.info117
  refine (callsIn_wide (n := 5)).1 ?_
  refine callsIn_of_wp_marks Try.func132 rfl trivial ?_ rfl
  refine wpIn_wide.2 ?_
  simp only [Try.ntmps132, List.size_toArray, List.length_cons, List.length_nil, Nat.reduceAdd, Nat.reduceSub, Array.replicate_succ, Array.replicate_zero, List.push_toArray, List.append_toArray, List.nil_append, List.cons_append]
  have hsz1 : (Try.prog.info? 117).map (·.size) = some 1 := by rw [hi]; simp [hz1]
  obtain ⟨ba, oa', hoa, _⟩ := Ha.out.at' (Below.refl _ _) 0 (by omega)
  subst hoa
  have r0 : Row (((w.alloc (.cells #[.slice ob lb.length cb] 53)).alloc (.cells (ns .u32 (List.replicate (la.length + 1) 0)) 117)).alloc (.cells #[.slice (some ⟨w.heap.size + 1, 0, none⟩) (la.length + 1) (la.length + 1)] 53)) (w.heap.size + 1) .u32 117 (List.replicate (la.length + 1) 0) := by
    unfold Row; rw [alloc_lt _ _ _ (by simp <;> omega)]; exact alloc_at _ _ _ (by simp)
  have x0 : (((w.alloc (.cells #[.slice ob lb.length cb] 53)).alloc (.cells (ns .u32 (List.replicate (la.length + 1) 0)) 117)).alloc (.cells #[.slice (some ⟨w.heap.size + 1, 0, none⟩) (la.length + 1) (la.length + 1)] 53)).heap[w.heap.size]? = some (.cells #[.slice ob lb.length cb] 53) := by
    rw [alloc_lt _ _ _ (by simp <;> omega), alloc_lt _ _ _ (by simp)]; exact alloc_at _ _ _ (by simp)
  have x2 : (((w.alloc (.cells #[.slice ob lb.length cb] 53)).alloc (.cells (ns .u32 (List.replicate (la.length + 1) 0)) 117)).alloc (.cells #[.slice (some ⟨w.heap.size + 1, 0, none⟩) (la.length + 1) (la.length + 1)] 53)).heap[w.heap.size + 1 + 1]? = some (.cells #[.slice (some ⟨w.heap.size + 1, 0, none⟩) (la.length + 1) (la.length + 1)] 53) := alloc_at _ _ _ (by simp)
  have hbw : Below w.heap.size w (((w.alloc (.cells #[.slice ob lb.length cb] 53)).alloc (.cells (ns .u32 (List.replicate (la.length + 1) 0)) 117)).alloc (.cells #[.slice (some ⟨w.heap.size + 1, 0, none⟩) (la.length + 1) (la.length + 1)] 53)) := (((Below.refl _ w).alloc (Nat.le_refl _) _).alloc (by simp) _).alloc (by simp <;> omega) _
  have hsrc := Lib.hid (Ha.out.src hbw rfl)
  have X0 := Lib.hid x0
  have X2 := Lib.hid x2
  have R0 := Lib.hid r0
  clear x0 x2 r0
  go_wp2_with (first
    | (refine wpList_copy_words rfl (.tmp 15) (.tmp 16) rfl hsz1 (w.heap.size + 1) _ _ _ _ _ rfl rfl la R0.out rfl (Nat.le_succ _) hsrc.out ?_; intro W1 r1 o1 z1 g1; have k0 : Box W1 w.heap.size 53 _ := (o1 _ (by omega)).trans X0.out; have k2 : Box W1 (w.heap.size + 1 + 1) 53 _ := (o1 _ (by omega)).trans X2.out; have c0 := k0.cell; clear o1 X0 X2 R0 hsrc; have R1 := Lib.hid r1; clear r1)
    | (go_at_call 129; refine (down_any _ _ _ _).mono ?_; rintro e w' ⟨rfl, rfl⟩))
  have hN : ∃ Nq, la.length - lb.length + 1 = Nq ∧ la.length + 1 = Nq + lb.length ∧ 1 ≤ Nq ∧ Nq ≤ 10000000001 := ⟨_, rfl, by omega, by omega, by omega⟩
  obtain ⟨Nq, hN1, hN2, hN3, hN4⟩ := hN
  rw [hN1]
  have hbW1 : Below w.heap.size w W1 := hbw.grown g1 (by simp <;> omega) (fun k e => by cases e; omega)
  have z1' : W1.heap.size = w.heap.size + 1 + 1 + 1 := by rw [z1]; simp
  obtain ⟨W0, hW0⟩ : ∃ W0, W0 = ((W1.alloc (.cells (ns .u32 (List.replicate Nq 0)) 117)).alloc (.cells #[.slice (some ⟨w.heap.size + 1 + 1 + 1, 0, none⟩) Nq Nq] 53)).alloc (.cells #[.slice (some ⟨w.heap.size + 1 + 1 + 1, 0, none⟩) Nq Nq] 53) := ⟨_, rfl⟩
  rw [← hW0]
  have b0 : Box W0 w.heap.size 53 (.slice ob lb.length cb) := by rw [hW0]; exact ((k0.alloc _).alloc _).alloc _
  have b1 : Row W0 (w.heap.size + 1) .u32 117 (la ++ [0]) := by rw [hW0]; exact ((R1.out.alloc _).alloc _).alloc _
  have b2 : Box W0 (w.heap.size + 1 + 1) 53 (.slice (some ⟨w.heap.size + 1, 0, none⟩) (Nq + lb.length) (Nq + lb.length)) := by rw [hW0, ← hN2]; exact ((k2.alloc _).alloc _).alloc _
  have b3 : Row W0 (w.heap.size + 1 + 1 + 1) .u32 117 (List.replicate Nq 0) := by
    rw [hW0]; unfold Row; rw [alloc_lt _ _ _ (by simp <;> omega), alloc_lt _ _ _ (by simp <;> omega)]; exact alloc_at _ _ _ (by omega)
  have b4 : Box W0 (w.heap.size + 1 + 1 + 1 + 1) 53 (.slice (some ⟨w.heap.size + 1 + 1 + 1, 0, none⟩) Nq Nq) := by
    rw [hW0]; unfold Box; rw [alloc_lt _ _ _ (by simp <;> omega)]; exact alloc_at _ _ _ (by simp <;> omega)
  have b5 : Box W0 (w.heap.size + 1 + 1 + 1 + 1 + 1) 53 (.slice (some ⟨w.heap.size + 1 + 1 + 1, 0, none⟩) Nq Nq) := by
    rw [hW0]; exact alloc_at _ _ _ (by simp <;> omega)
  have b6 : Below w.heap.size w W0 := by rw [hW0]; exact ((hbW1.alloc (by omega) _).alloc (by simp <;> omega) _).alloc (by simp <;> omega) _
  have hsz : W0.heap.size = w.heap.size + 1 + 1 + 1 + 1 + 1 + 1 := by rw [hW0]; simp <;> omega
  clear hW0 k0 k2 c0 R1 g1 z1 z1' hbW1 hbw hmk1 hmk2
  have hv0 : 0 < val 1000000000 lb := val_pos (by omega) Db.out.2 (by intro e; rw [e] at hn2; simp at hn2)
  have hvl := val_lt (B := 1000000000) (by omega) Db.out.1
  have hstart : DivNums (val 1000000000 la) (val 1000000000 lb) lb.length Nq 0 (la ++ [0]) [] := DivNums.start Da.out hN2 (by omega) (pow_le_val Db.out.2 (by intro e; rw [e] at hn2; simp at hn2))
  have hN2a : la.length + 1 ≤ Nq + lb.length := by omega
  have hN2b : Nq + lb.length ≤ la.length + 1 := by omega
  clear hN1 hN2
  refine (wpIn_wide (n := 5)).1 ?_
  refine wpIn_down 5 (w.heap.size + 1 + 1 + 1 + 1 + 1) (some ⟨w.heap.size + 1 + 1 + 1, 0, none⟩) Nq Nq (by omega) rfl rfl (DivI w (.slice ob lb.length cb) (val 1000000000 la) (val 1000000000 lb) lb.length Nq) (fun _ _ => False) ?hI ?hIx ?hRd
    ⟨la ++ [0], [], hstart, b1, by simpa using b3, b0, b2, b4, b5, b6⟩
    (fun k x => { tmps := #[.slice (some ⟨ba, oa', none⟩) la.length ca, .slice ob lb.length cb, undef, .pointer (some ⟨w.heap.size, 0, none⟩), .slice none 0 0, .slice none 0 0, .pointer (some ⟨w.heap.size + 1 + 1, 0, none⟩), .pointer (some ⟨w.heap.size + 1 + 1 + 1 + 1, 0, none⟩),
      .int .i64 ((Nq - 1 - k : Nat) : Int), undef, undef, .slice (some ⟨ba, oa', none⟩) la.length ca, .int .i64 la.length, .int .i64 (la.length + 1), .slice (some ⟨w.heap.size + 1, 0, none⟩) (la.length + 1) (la.length + 1),
      .slice (some ⟨w.heap.size + 1, 0, none⟩) (la.length + 1) (la.length + 1), .slice (some ⟨ba, oa', none⟩) la.length ca, .int .i64 la.length, .slice (some ⟨ba, oa', none⟩) la.length ca, .int .i64 la.length, .slice ob lb.length cb, .int .i64 lb.length,
      .int .i64 (la.length - lb.length), .int .i64 (la.length - lb.length + 1), .slice (some ⟨w.heap.size + 1 + 1 + 1, 0, none⟩) Nq Nq, .slice (some ⟨w.heap.size + 1 + 1 + 1, 0, none⟩) Nq Nq,
      .func (.func 136) #[] #[.pointer (some ⟨w.heap.size + 1 + 1 + 1 + 1 + 1, 0, none⟩)], .int .i64 ((Nq - 1 - k : Nat) : Int), .int .u32 x, undef, undef, undef, undef, undef, undef, undef, undef, undef, undef, undef, undef, undef, undef, undef, undef, undef, undef, undef, undef, undef, undef, undef, undef, undef, undef, undef, undef], defers := [] }) ?assign ?body ?done ?stop
  case hI => exact fun k W W' ⟨R, qs, h1, h2, h3, h4, h5, h6, h7, h8⟩ t => ⟨R, qs, h1, h2.turn t, h3.turn t, h4.turn t, h5.turn t, h6.turn t, h7.turn t, h8.trans (t.below.mono (by omega))⟩
  case hIx => exact fun c W W' h t => h
  case hRd => exact fun k W ⟨R, qs, h1, h2, h3, h4, h5, h6, h7, h8⟩ => ⟨h7.cell, fun hk => ⟨_, _, _, rfl, by rw [Nat.zero_add]; exact h3.cell _ (by rw [List.length_append, List.length_replicate, h1.qlen]; omega)⟩⟩
  case assign =>
    intro _ k x W K hK
    gi_wp2
    exact hK
  case body =>
    rintro l k b off x W ⟨R, qs, h1, h2, h3, h4, h5, h6, h7, h8⟩ hk hoa hx
    clear b0 b1 b2 b3 b4 b5 b6 hoa hx hstart
    obtain ⟨t, ht⟩ : ∃ t, Nq - 1 - k = t := ⟨_, rfl⟩
    obtain ⟨hP, hz⟩ := h1.P hk hvl
    have hnext := fun m => DivNums.next h1 hk hv0 hvl (m := m)
    rw [ht] at hP hz hnext ⊢
    have hRl := h1.len
    have hd := h1.digs
    have hql := h1.qlen
    have htq : t < Nq := by omega
    have gm := gm_of hd Db.out.1 hn2 (by omega) (top_ne Db.out.2 (by omega)) hP
    have g9 : ∀ i, R[i]?.getD 0 < 1000000000 := fun i => by have := hd.getD i (by omega); rwa [List.getD_eq_getElem?_getD] at this
    have rc : ∀ i, i < R.length → W.cell? ⟨w.heap.size + 1, i, none⟩ = some (.int .u32 (R[i]?.getD 0 : Nat)) := fun i hi => by rw [h2.cell i hi, List.getElem?_eq_getElem hi]; rfl
    obtain ⟨bb, bo, hob, hbb, _⟩ := Hb.out.at' h8 0 (by omega)
    subst hob
    have lc : ∀ i, i < lb.length → W.cell? ⟨bb, bo + i, none⟩ = some (.int .u32 (lb[i]?.getD 0 : Nat)) := fun i hi => by
      obtain ⟨b', o', he, _, hc⟩ := Hb.out.at' h8 i hi
      cases he
      rw [hc, List.getElem?_eq_getElem hi]; rfl
    have Hg := Lib.hid (guess_core _ _ _ _ _ _ _ gm (g9 _) (g9 _) (w.heap.size + 1) t (lb.length + 1) (Nq + lb.length - t) bb bo lb.length cb rfl hn2 (by omega) W (rc _ (by omega)) (rc _ (by omega)) (rc _ (by omega)) (lc _ (by omega)) (lc _ (by omega)))
    have HbW : Rep W .u32 (.slice (some ⟨bb, bo, none⟩) lb.length cb) lb := Hb.out.below h8 (Nat.le_refl _)
    have Hs := Lib.hid (fun q (hq : q < 1000000000) (W' : World) (hr : Row W' (w.heap.size + 1) .u32 117 R) (hb : Rep W' .u32 (.slice (some ⟨bb, bo, none⟩) lb.length cb) lb) =>
      subtractTimes_core R lb (w.heap.size + 1) t (lb.length + 1) (Nq + lb.length - t) q (by omega) (by omega) (by omega) hq hd Db.out.1 (some ⟨bb, bo, none⟩) lb.length cb W' hr hb (fun b off e => by cases e; omega))
    have Hd := Lib.hid hd
    have Hnext := Lib.hid hnext
    have HP := Lib.hid hP
    have H2 := Lib.hid h2
    have H3 := Lib.hid h3
    have HBW := Lib.hid HbW
    have c0 := h4.cell
    have c2 := h5.cell
    have c4 := h6.cell
    have hpart := Lib.hid (part_lt hd t (lb.length + 1))
    clear gm g9 rc lc hd hnext hP hz h1 h2 h3 HbW
    have hi1 : (t : Int) + (lb.length : Int) + 1 ≤ (Nq : Int) + (lb.length : Int) := by omega
    gi_wp2_with fail
    refine ⟨trivial, ?_⟩
    rw [show t + lb.length + 1 - t = lb.length + 1 from by omega]
    refine (CallsIn.inRound l (callsIn_wide.2 Hg.out)).mono ?_
    rintro e W2 ⟨q, nq, rfl, hq9, hq1, hq2, rfl⟩
    have Hq1 := Lib.hid hq1; clear hq1
    have Hq2 := Lib.hid hq2; clear hq2
    gi_wp2_with fail
    refine ⟨trivial, ?_⟩
    refine (CallsIn.inRound l (callsIn_wide.2 (Hs.out q hq9 (W.drewN nq) H2.out HBW.out))).mono ?_
    rintro e W2 ⟨m, c, rfl, hm, hdm, hsm, hsum, honly⟩
    have hrd := div_round hv0 (Nat.le_of_lt (Nat.lt_of_lt_of_le hvl (Nat.pow_le_pow_right (by omega) (Nat.le_succ _)))) Hq1.out Hq2.out hsum (part_lt hdm _ _)
    have hq9' : part R t (lb.length + 1) / val 1000000000 lb < 1000000000 := by rw [Nat.div_lt_iff_lt_mul hv0, Nat.mul_comm]; exact HP.out
    have ho : ∀ j, j ≠ w.heap.size + 1 → W2.heap[j]? = W.heap[j]? := fun j hj => by
      rcases Nat.lt_or_ge j W.heap.size with h | h
      · exact honly.2.1.block (w := W.drewN nq) j h (fun e => hj (Option.some.inj e))
      · rw [Array.getElem?_eq_none h, Array.getElem?_eq_none (by rw [honly.2.2]; exact h)]
    have hbel : Below w.heap.size w W2 := (h8.trans ⟨rfl, rfl, rfl, Nat.le_refl _, fun _ _ => rfl⟩ : Below w.heap.size w (W.drewN nq)).grown honly.2.1 (by have := h8.size; exact this) (fun k e => by cases e; omega)
    have hkeep : KeepsOthers W W2 := ⟨by rw [honly.2.2]; exact Nat.le_refl _, fun j o hj hoc => by
      refine (ho j (fun e => ?_)).trans hj
      subst e
      rw [H2.out] at hj
      cases hj; cases hoc⟩
    have H4 : Hid (Box W2 w.heap.size 53 _) := (ho _ (by omega)).trans h4
    have H5 : Hid (Box W2 (w.heap.size + 1 + 1) 53 _) := (ho _ (by omega)).trans h5
    have H6 : Hid (Box W2 (w.heap.size + 1 + 1 + 1 + 1) 53 _) := (ho _ (by omega)).trans h6
    have H7 : Hid (Box W2 (w.heap.size + 1 + 1 + 1 + 1 + 1) 53 _) := (ho _ (by omega)).trans h7
    have H3' : Hid (Row W2 (w.heap.size + 1 + 1 + 1) .u32 117 (List.replicate (Nq - k) 0 ++ qs)) := (ho _ (by omega)).trans H3.out
    have Hm := Lib.hid hm
    have Hdm := Lib.hid hdm
    have Hsm := Lib.hid hsm
    have Hrd := Lib.hid hrd
    have Hrow := Lib.hid honly.1
    have hdc0 := H4.out.cell
    have hdc6 := H6.out.cell
    have hd3f := H3'.out.free t
    have hd3c := H3'.out.cell t (by rw [List.length_append, List.length_replicate, hql]; omega)
    generalize (List.replicate (Nq - k) 0 ++ qs)[t]'_ = old at hd3c
    clear hm hdm hsm hsum hrd ho honly h4 h5 h6 h7 h8 c0 c2 c4
    by_cases hc : 0 < c
    · have hcd : decide (0 < c) = true := by simp [hc]
      rw [hcd]
      obtain ⟨hqe, -, hadd⟩ := Hrd.out.2 hc
      have Hadd := Lib.hid hadd; clear hadd
      have Hqe := Lib.hid hqe; clear hqe
      gi_wp2_with fail
      refine ⟨trivial, ?_⟩
      refine (CallsIn.inRound l (callsIn_wide.2 (addBack_core m lb (w.heap.size + 1) t (lb.length + 1) (Nq + lb.length - t) (by omega) (by have := Hm.out; omega) (by omega) Hdm.out Db.out.1 (some ⟨bb, bo, none⟩) lb.length cb W2 Hrow.out (Hb.out.below hbel (Nat.le_refl _)) (fun b off e => by cases e; omega)))).mono ?_
      rintro e W3 ⟨m2, c2, rfl, hm2, hdm2, hsm2, hsum2, honly⟩
      have ho : ∀ j, j ≠ w.heap.size + 1 → W3.heap[j]? = W2.heap[j]? := fun j hj => by
        rcases Nat.lt_or_ge j W2.heap.size with h | h
        · exact honly.2.1.block j h (fun e => hj (Option.some.inj e))
        · rw [Array.getElem?_eq_none h, Array.getElem?_eq_none (by rw [honly.2.2]; exact h)]
      have hbel3 : Below w.heap.size w W3 := hbel.grown honly.2.1 hbel.size (fun k e => by cases e; omega)
      have hkeep3 : KeepsOthers W W3 := hkeep.trans ⟨by rw [honly.2.2]; exact Nat.le_refl _, fun j o hj hoc => by
        refine (ho j (fun e => ?_)).trans hj
        subst e
        have h2 : W2.heap[w.heap.size + 1]? = _ := Hrow.out
        rw [h2] at hj
        cases hj; cases hoc⟩
      have K4 : Hid (Box W3 w.heap.size 53 _) := (ho _ (by omega)).trans H4.out
      have K5 : Hid (Box W3 (w.heap.size + 1 + 1) 53 _) := (ho _ (by omega)).trans H5.out
      have K6 : Hid (Box W3 (w.heap.size + 1 + 1 + 1 + 1) 53 _) := (ho _ (by omega)).trans H6.out
      have K7 : Hid (Box W3 (w.heap.size + 1 + 1 + 1 + 1 + 1) 53 _) := (ho _ (by omega)).trans H7.out
      have K3 : Hid (Row W3 (w.heap.size + 1 + 1 + 1) .u32 117 (List.replicate (Nq - k) 0 ++ qs)) := (ho _ (by omega)).trans H3'.out
      have Krow : Hid (Row W3 (w.heap.size + 1) .u32 117 m2) := honly.1
      have e3 := World.cell?_of_block (w := W2) (w' := W3) (a := ⟨w.heap.size + 1 + 1 + 1, t, none⟩) (ho _ (by simp <;> omega))
      have e3f := World.frozen?_of_block (w := W2) (w' := W3) (a := ⟨w.heap.size + 1 + 1 + 1, t, none⟩) (ho _ (by simp <;> omega))
      rw [hd3c] at e3
      rw [hd3f] at e3f
      have e6 := K6.out
      have e6c := Box.cell e6
      have hnums := Hnext.out m2 (by rw [hm2]; exact Hm.out) hdm2 (fun j hj => (hsm2 j hj).trans (Hsm.out j hj)) (Hadd.out _ c2 hsum2 (part_lt hdm2 _ _)) hq9'
      have Hfin := Lib.hid (fun A => DivI.close hk ht hnums hql hkeep3 Krow.out K3.out K4.out K5.out K6.out K7.out hbel3 A)
      have hq0 : 1 ≤ q := by rw [Hqe.out]; exact Nat.le_add_left 1 _
      have hq1 : (1 : Int) ≤ (q : Int) := by omega
      clear hq0
      clear ho hsum2 honly hbel hbel3 hkeep hkeep3 hd3c hd3f hdc0 hdc6 hm2 hdm2 hsm2 hnums e6
      gi_wp2
      have hfe : Value.int .u32 ((q : Int) - 1) = .int .u32 (part R t (lb.length + 1) / val 1000000000 lb : Nat) := u32_eq (by rw [Hqe.out]; omega)
      rw [hfe]
      exact Hfin.out _
    · have hcd : decide (0 < c) = false := by simp [hc]
      rw [hcd]
      obtain ⟨hqe, hpe⟩ := Hrd.out.1 hc
      have Hqe := Lib.hid hqe; clear hqe
      have hnums := Hnext.out m Hm.out Hdm.out Hsm.out hpe hq9'
      have Hfin := Lib.hid (fun A => DivI.close hk ht hnums hql hkeep Hrow.out H3'.out H4.out H5.out H6.out H7.out hbel A)
      clear hnums hpe hbel hkeep
      gi_wp2
      have hfe : Value.int .u32 (q : Int) = .int .u32 (part R t (lb.length + 1) / val 1000000000 lb : Nat) := u32_eq (by rw [Hqe.out])
      rw [hfe]
      exact Hfin.out _
  case done =>
    rintro E W hE ⟨R, qs, h1, h2, h3, h4, h5, h6, h7, h8⟩ hd
    obtain ⟨hq1, hq2⟩ := h1.done hv0
    rw [Nat.sub_self, List.replicate_zero, List.nil_append] at h3
    have hrq : Rep W .u32 (.slice (some ⟨w.heap.size + 1 + 1 + 1, 0, none⟩) Nq Nq) qs := by
      have := Rep.rowAll h3 Nq (by rw [h1.qlen]; omega); rwa [h1.qlen] at this
    have hrr : Rep W .u32 (.slice (some ⟨w.heap.size + 1, 0, none⟩) (Nq + lb.length) (Nq + lb.length)) R := by
      have := Rep.rowAll h2 (Nq + lb.length) (by rw [h1.len]; omega); rwa [h1.len] at this
    have Hcq := Lib.hid (canon_trim h1.qdigs)
    have Hcr := Lib.hid (canon_trim h1.digs)
    have HQ1 := Lib.hid hq1; clear hq1
    have HQ2 := Lib.hid hq2; clear hq2
    have c5 := h5.cell
    have c6 := h6.cell
    have T1 := fun w' (hb : Below W.heap.size W w') => trimmed_n _ qs Nq Nq (by omega) w' (hrq.below hb (Nat.le_refl _))
    have T2 := fun w' (hb : Below W.heap.size W w') => trimmed_n _ R (Nq + lb.length) (Nq + lb.length) (by omega) w' (hrr.below hb (Nat.le_refl _))
    have HT1 := Lib.hid T1; clear T1
    have HT2 := Lib.hid T2; clear T2
    have H8 := Lib.hid h8
    have H5 := Lib.hid h5
    have H6 := Lib.hid h6
    clear h1 h2 h3 h4 h5 h6 h7 h8 b0 b1 b2 b3 b4 b5 b6 hrq hrr hstart hv0 hvl
    go_wp2
    refine wp_mono (Q := OnlyNormal fun a' w' => ∃ vq vr, a'.tmps.size = 57 ∧ a'.tmps.getD 4 undef = vq ∧ a'.tmps.getD 5 undef = vr ∧ a'.defers = [{ target := Target.collected E, args := #[] }] ∧ Rep w' .u32 vq (trim qs) ∧ Rep w' .u32 vr (trim R) ∧ Below W.heap.size W w') ?reg (OnlyNormal.elim ?after)
    case reg =>
      go_region_with (go_at_call 130; first
        | ((with_reducible refine (HT1.out _ ?_).mono ?_); (focus (repeat (first | assumption | exact Below.refl _ _ | apply Below.drew))); rintro e w1 ⟨vq, rfl, hvq, hbq⟩; have hbq' : Below W.heap.size W w1 := ((Below.refl W.heap.size W).drew).trans hbq; have c6' := (hbq.cell (p := ⟨w.heap.size + 1 + 1, 0, none⟩) (by exact H5.out.lt)).trans c5)
        | ((with_reducible refine (HT2.out _ ?_).mono ?_); (focus (repeat (first | assumption | exact Below.refl _ _ | apply Below.drew))); rintro e w2 ⟨vr, rfl, hvr, hbr⟩))
      all_goals exact ⟨vq, vr, rfl, rfl, rfl, rfl, hvq.below hbr (Nat.le_refl _), hvr, hbq'.trans (hbr.mono hbq'.size)⟩
    case after =>
      rintro a' w' ⟨vq, vr, hsz', h4, h5, hdef, hvq, hvr, hb⟩
      have hd' := (hb.block E (lt_of_block hd)).trans hd
      obtain ⟨tm, df⟩ := a'
      simp only at hsz' h4 h5 hdef
      subst hdef
      go_wp2
      have t := Turn.put (B := w.heap.size) (.deferred none) (by omega) hd' rfl
      have h4' : tm[4]?.getD undef = vq := by simpa using h4
      have h5' : tm[5]?.getD undef = vr := by simpa using h5
      refine ⟨by simp, .inl ⟨_, _, rfl, run_takeDeferred hd', .tuple #[vq, vr], by simp [results, Try.f132, go_sem, h4', h5'], ?_⟩⟩
      exact ⟨vq, vr, _, _, rfl, hvq.turn t, Hcq.out, by rw [val_trim]; exact HQ1.out, hvr.turn t, Hcr.out, by rw [val_trim]; exact HQ2.out, (H8.out.trans (hb.mono H8.out.size)).trans t.below⟩
  case stop =>
    rintro E c W hE h hd
    exact h.elim
end Go.Proofs.Ytlkdahgfnfdakaa
