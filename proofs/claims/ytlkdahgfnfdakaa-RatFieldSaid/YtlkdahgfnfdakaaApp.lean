import Derived.Test.YtlkdahgfnfdakaaFromD
namespace Go.Proofs.Ytlkdahgfnfdakaa
open Go.RowKit Go.Shelf WN LM
attribute [local go_sem] Oper.semAt_some

/-- bytes in cells -/
def bv (l : List UInt8) : List Value := l.map fun c => .int .u8 (c.toNat : Int)
theorem bv_append (l m : List UInt8) : bv (l ++ m) = bv l ++ bv m := by simp [bv]
theorem bv_length (l : List UInt8) : (bv l).length = l.length := by simp [bv]
/-- v is a row of the call's own, that holds the bytes l -/
def Bytes (w : World) (base : Nat) (v : Value) (l : List UInt8) : Prop := w.ownsRow base 5 1 v l.length (bv l)
theorem Bytes.nil (w : World) (base : Nat) : Bytes w base (.slice none 0 0) [] := World.ownsRow_nil _ _ _ _
theorem Bytes.turn {B base : Nat} {W W' : World} {v : Value} {l : List UInt8} (h : Bytes W base v l) (t : Turn B W W') : Bytes W' base v l := by
  refine ⟨h.1, h.2.imp id ?_⟩
  rintro ⟨g, cap, cur, h1, h2, h3, h4⟩
  exact ⟨g, cap, cur, h1, h2, t.cells _ _ _ _ h3, h4⟩
/-- a variable's box is none of the row's blocks, its type being another -/
theorem Bytes.far {W : World} {base : Nat} {v : Value} {l : List UInt8} (h : Bytes W base v l) {B t : Nat} {u : Value} (hb : Box W B t u) (ht : t ≠ 5) : ∀ g, v.ownBlock = some g → B ≠ g := by
  rintro g hg rfl
  rcases h.2 with ⟨rfl, _⟩ | ⟨g', cap, cur, rfl, _, h3, _⟩
  · cases hg
  · simp [Value.ownBlock] at hg
    subst hg
    rw [hb] at h3
    cases h3
    exact ht rfl
theorem Bytes.set {W : World} {base : Nat} {v : Value} {l : List UInt8} (h : Bytes W base v l) {B t : Nat} {u x : Value} (hb : Box W B t u) (ht : t ≠ 5) : Bytes (W.setCell ⟨B, 0, none⟩ x) base v l := by
  refine ⟨h.1, h.2.imp id ?_⟩
  rintro ⟨g, cap, cur, h1, h2, h3, h4⟩
  refine ⟨g, cap, cur, h1, h2, ?_, h4⟩
  rw [heap_setCell_other _ _ _ _ ?_]
  · exact h3
  · intro e
    exact h.far hb ht g (by subst h1; rfl) e.symm
theorem Bytes.block_ge {W : World} {base : Nat} {v : Value} {l : List UInt8} (h : Bytes W base v l) : ∀ g, v.ownBlock = some g → base ≤ g ∧ g < W.heap.size := by
  intro g hg
  rcases h.2 with ⟨rfl, _⟩ | ⟨g', cap, cur, rfl, h2, h3, _⟩
  · cases hg
  · simp [Value.ownBlock] at hg
    subst hg
    exact ⟨h2, lt_of_block h3⟩
theorem Bytes.shape {W : World} {base : Nat} {v : Value} {l : List UInt8} (h : Bytes W base v l) : ∃ o c, v = .slice o l.length c := by
  rcases h.2 with ⟨rfl, h0⟩ | ⟨g', cap, cur, rfl, _⟩
  · exact ⟨none, 0, by rw [h0]⟩
  · exact ⟨_, _, rfl⟩
theorem Bytes.cells {W : World} {base : Nat} {v : Value} {l : List UInt8} (h : Bytes W base v l) : ∀ (j : Nat) (o : Obj), v.ownBlock = some j → W.heap[j]? = some o → o.isCells = true := by
  intro j o hj ho
  rcases h.2 with ⟨rfl, _⟩ | ⟨g', cap, cur, rfl, _, h3, _⟩
  · cases hj
  · simp [Value.ownBlock] at hj
    subst hj
    rw [h3] at ho
    cases ho; rfl
/-- appendTo, k words over -/
def AppI (w : World) (base : Nat) (va : Value) (t : List UInt8) (N : Nat) (W : World) : Prop :=
  ∃ v, Box W w.heap.size 92 v ∧ Box W (w.heap.size + 1) 4 (.bool (decide (N = 0))) ∧ Box W (w.heap.size + 2) 53 va ∧ Bytes W base v (t ++ dec N) ∧ Below base w W

theorem dec_length_le {n k : Nat} (hk : 1 ≤ k) (h : n < 10 ^ k) : (dec n).length ≤ k := by
  have := dig_le hk h
  rw [← decT_len] at this
  unfold decT at this
  split at this
  · rename_i h0; rw [h0, dec_zero]; simp
  · exact this
theorem prefix_lt {V y k j : Nat} (hV : V < 1000000000 ^ k) (hy : y < 1000000000) (hj : j ≤ 9) : V * 10 ^ (9 - j) + y / 10 ^ j < 10 ^ (9 * k + 9) := by
  have h1 : V * 10 ^ (9 - j) ≤ V * 10 ^ 9 := Nat.mul_le_mul_left _ (Nat.pow_le_pow_right (by omega) (by omega))
  have h2 : y / 10 ^ j ≤ y := Nat.div_le_self _ _
  have h3 : (V + 1) * 10 ^ 9 ≤ 1000000000 ^ k * 10 ^ 9 := Nat.mul_le_mul_right _ hV
  rw [show (1000000000 : Nat) = 10 ^ 9 from rfl, ← Nat.pow_mul, ← Nat.pow_add, Nat.add_mul, Nat.one_mul] at h3
  have h4 : (10 : Nat) ^ 9 = 1000000000 := rfl
  omega
theorem prefix_step {V y m : Nat} (hm : m < 9) : V * 10 ^ (9 - m) + y / 10 ^ m = 10 * (V * 10 ^ (9 - (m + 1)) + y / 10 ^ (m + 1)) + y / 10 ^ m % 10 := by
  obtain ⟨q, hq⟩ : ∃ q, 9 - m = q + 1 := ⟨9 - m - 1, by omega⟩
  rw [hq, show 9 - (m + 1) = q from by omega, Nat.pow_succ, Nat.pow_succ, ← Nat.div_div_eq_div_mul]
  have := Nat.div_add_mod (y / 10 ^ m) 10
  have e : V * (10 ^ q * 10) = 10 * (V * 10 ^ q) := by rw [← Nat.mul_assoc, Nat.mul_comm]
  omega
/-- what an appended byte leaves: the variables' boxes, the row longer -/
theorem append_after {w W W1 : World} {base N dg : Nat} {va v v' : Value} {t : List UInt8} {lead : Value} (hB1 : Box W w.heap.size 92 v) (hB2 : Box W (w.heap.size + 1) 4 lead) (hB3 : Box W (w.heap.size + 2) 53 va) (hb : Below base w W) (h4 : Bytes W base v (t ++ dec N))
    (hown : W1.ownsRow base 5 1 v' ((t ++ dec N).length + 1) (bv (t ++ dec N) ++ bv [UInt8.ofNat (48 + dg)])) (hgr : ((W.setCell ⟨w.heap.size + 1, 0, none⟩ (.bool false)).alloc (.cells #[.int .u8 (48 + (dg : Int))] 5)).grownBy W1 v.ownBlock)
    (hdg : dg ≤ 9) (hN : 10 * N + dg ≠ 0) (hbw : base ≤ w.heap.size) :
    ∃ o k c, v' = .slice o k c ∧ Box W1 w.heap.size 92 v ∧ AppI w base va t (10 * N + dg) (W1.setCell ⟨w.heap.size, 0, none⟩ v') ∧ KeepsOthers W (W1.setCell ⟨w.heap.size, 0, none⟩ v') := by
  have hd := dec_step hdg hN
  have e1 : t ++ dec (10 * N + dg) = (t ++ dec N) ++ [UInt8.ofNat (48 + dg)] := by rw [hd, List.append_assoc]
  have hbytes : Bytes W1 base v' (t ++ dec (10 * N + dg)) := by
    unfold Bytes
    rw [e1, bv_append, List.length_append]
    exact hown
  obtain ⟨o, c, rfl⟩ := hbytes.shape
  have hne : ∀ {B tt : Nat} {u : Value}, Box W B tt u → tt ≠ 5 → some B ≠ v.ownBlock := fun hB ht e => h4.far hB ht _ e.symm rfl
  have hsz : W.heap.size < ((W.setCell ⟨w.heap.size + 1, 0, none⟩ (.bool false)).alloc (.cells #[.int .u8 (48 + (dg : Int))] 5)).heap.size := by simp
  have keep : ∀ {B tt : Nat} {u : Value}, Box W B tt u → tt ≠ 5 → B ≠ w.heap.size + 1 → Box W1 B tt u := fun hB ht hn => by
    unfold Box
    rw [hgr.block _ (Nat.lt_trans hB.lt hsz) (hne hB ht)]
    exact (hB.other ⟨w.heap.size + 1, 0, none⟩ (.bool false) hn).alloc _
  have k1 := keep hB1 (by decide) (by omega)
  have k3 := keep hB3 (by decide) (by omega)
  have k2 : Box W1 (w.heap.size + 1) 4 (.bool false) := by
    unfold Box
    rw [hgr.block _ (Nat.lt_trans hB2.lt hsz) (hne hB2 (by decide))]
    exact (hB2.set (.bool false)).alloc _
  have hbel : Below base w W1 := ((hb.setCell (p := ⟨w.heap.size + 1, 0, none⟩) (by show base ≤ w.heap.size + 1; omega) _).alloc (by simp; have := hb.size; omega) _).grown hgr (by have := hb.size; simp; omega) (fun g hg => (h4.block_ge g hg).1)
  refine ⟨o, _, c, rfl, k1, ⟨_, k1.set _, ?_, k3.other _ _ (by simp), ?_, hbel.setCell (p := ⟨w.heap.size, 0, none⟩) hbw _⟩, ?_⟩
  · rw [show decide (10 * N + dg = 0) = false from by simpa using hN]; exact k2.other _ _ (by simp)
  · exact hbytes.set k1 (by decide)
  · refine KeepsOthers.trans (KeepsOthers.trans (KeepsOthers.trans (KeepsOthers.setCell _ _ _) (KeepsOthers.alloc _ _)) (KeepsOthers.of_grownBy hgr ?_)) (KeepsOthers.setCell _ _ _)
    have hb' : Bytes ((W.setCell ⟨w.heap.size + 1, 0, none⟩ (.bool false)).alloc (.cells #[.int .u8 (48 + (dg : Int))] 5)) base v (t ++ dec N) := World.ownsRow.alloc (h4.set hB2 (by decide)) _
    exact hb'.cells
theorem one_byte (W : World) (dg : Nat) (h : dg ≤ 9) : ∀ j u, (bv [UInt8.ofNat (48 + dg)])[j]? = some u → (W.alloc (.cells #[.int .u8 (48 + (dg : Int))] 5)).cell? ((⟨W.heap.size, 0, none⟩ : Addr).add j) = some u := by
  intro j u hu
  have e : bv [UInt8.ofNat (48 + dg)] = [.int .u8 (48 + (dg : Int))] := by
    show [Value.int .u8 ((UInt8.ofNat (48 + dg)).toNat : Int)] = _
    rw [digit_nat h, Int.natCast_add]; rfl
  rw [e] at hu
  match j, hu with
  | 0, hu =>
    simp only [List.getElem?_cons_zero, Option.some.injEq] at hu
    subst hu
    exact cell_of_one (heap_alloc_new W _)
theorem Try.info5' : (Try.prog.info? 5).map (fun i => (i.zero, i.size, i.bytes)) = some (some (.int .u8 0), 1, 1) := Try.info5

set_option maxRecDepth 100000 in
set_option maxHeartbeats 4000000 in
theorem appendTo_any {w0 w : World} {base : Nat} {v : Value} {t : List UInt8} (oa : Option Addr) (l : List Nat) (n cap : Nat) (hlen : n ≤ 1000) (hd : Canon 1000000000 l) (hr : Rep w0 .u32 (.slice oa n cap) l) (hb : Below w0.heap.size w0 w) (hb0 : w0.heap.size ≤ base) (hb1 : base ≤ w.heap.size)
    (ht : Bytes w base v t) (htl : t.length ≤ 1000000) (h0 : 0 < n) :
    Calls Try.prog 100 #[.slice oa n cap, v] w fun e w' => ∃ v', e = .returned v' ∧ Bytes w' base v' (t ++ dec (val 1000000000 l)) ∧ Below base w w' := by
  obtain ⟨rfl, _⟩ := hr.len
  obtain ⟨oT, cT, rfl⟩ := ht.shape
  have HT := Lib.hid ht; clear ht
  have Hr := Lib.hid hr; clear hr
  have Hd := Lib.hid hd; clear hd
  have hl0 : ((l.length : Int) == 0) = false := by rw [beq_eq_false_iff_ne]; omega
  refine (callsIn_wide (n := 5)).1 ?_
  refine callsIn_of_wp_marks Try.func100 rfl trivial ?_ rfl
  simp only [Try.ntmps100, List.size_toArray, List.length_cons, List.length_nil, Nat.reduceAdd, Nat.reduceSub, Array.replicate_succ, Array.replicate_zero, List.push_toArray, List.append_toArray, List.nil_append, List.cons_append]
  gi_wp2_with (refine ⟨trivial, ?_⟩; gi_at_call 129; refine (callsIn_wide.2 (down_any _ _ _ _)).mono ?_; rintro e w' ⟨rfl, rfl⟩)
  have b1 : Box (((w.alloc (.cells #[.slice oT t.length cT] 92)).alloc (.cells #[.bool true] 4)).alloc (.cells #[.slice oa l.length cap] 53)) w.heap.size 92 (.slice oT t.length cT) := ((Box.new w 92 _).alloc _).alloc _
  have b2 : Box (((w.alloc (.cells #[.slice oT t.length cT] 92)).alloc (.cells #[.bool true] 4)).alloc (.cells #[.slice oa l.length cap] 53)) (w.heap.size + 1) 4 (.bool true) := by
    have := (Box.new (w.alloc (.cells #[.slice oT t.length cT] 92)) 4 (.bool true)).alloc (.cells #[.slice oa l.length cap] 53); rw [World.size_alloc] at this; exact this
  have b3 : Box (((w.alloc (.cells #[.slice oT t.length cT] 92)).alloc (.cells #[.bool true] 4)).alloc (.cells #[.slice oa l.length cap] 53)) (w.heap.size + 2) 53 (.slice oa l.length cap) := by
    have := Box.new ((w.alloc (.cells #[.slice oT t.length cT] 92)).alloc (.cells #[.bool true] 4)) 53 (.slice oa l.length cap); rw [World.size_alloc, World.size_alloc] at this; exact this
  have b4 : Below base w (((w.alloc (.cells #[.slice oT t.length cT] 92)).alloc (.cells #[.bool true] 4)).alloc (.cells #[.slice oa l.length cap] 53)) := (((Below.refl _ w).alloc hb1 _).alloc (by simp; omega) _).alloc (by simp; omega) _
  have hsz : (((w.alloc (.cells #[.slice oT t.length cT] 92)).alloc (.cells #[.bool true] 4)).alloc (.cells #[.slice oa l.length cap] 53)).heap.size = w.heap.size + 1 + 1 + 1 := by simp
  have ht1 : Bytes (((w.alloc (.cells #[.slice oT t.length cT] 92)).alloc (.cells #[.bool true] 4)).alloc (.cells #[.slice oa l.length cap] 53)) base (.slice oT t.length cT) t := ((World.ownsRow.alloc HT.out _).alloc _).alloc _
  generalize (((w.alloc (.cells #[.slice oT t.length cT] 92)).alloc (.cells #[.bool true] 4)).alloc (.cells #[.slice oa l.length cap] 53)) = W0 at *
  refine wpIn_down 5 (w.heap.size + 1 + 1) oa l.length cap (by omega) rfl rfl (fun k W => AppI w base (.slice oa l.length cap) t (val 1000000000 (l.drop (l.length - k))) W) (fun _ _ => False) ?hI ?hIx ?hRd ⟨_, b1, by simpa using b2, b3, by simpa [dec_zero] using ht1, b4⟩
    (fun k x => { tmps := #[.slice oa l.length cap, .slice oT t.length cT, undef, .pointer (some ⟨w.heap.size, 0, none⟩), .slice none 0 0, .pointer (some ⟨w.heap.size + 1, 0, none⟩), undef, .int .u32 x, undef, undef, .slice oa l.length cap, .int .i64 l.length, .bool false, undef, undef, undef, .slice oa l.length cap,
      .func (.func 136) #[] #[.pointer (some ⟨w.heap.size + 1 + 1, 0, none⟩)], .int .i64 ((l.length - 1 - k : Nat) : Int), .int .u32 x, undef, undef, undef, undef, undef, undef, undef, undef, undef, undef, undef, undef, undef, undef, undef, undef, undef, undef, undef, undef, undef, undef], defers := [] }) ?assign ?body ?done ?stop
  case hI => exact fun k W W' ⟨v, h1, h2, h3, h4, h5⟩ t => ⟨v, h1.turn t, h2.turn t, h3.turn t, h4.turn t, h5.trans (t.below.mono (by omega))⟩
  case hIx => exact fun c W W' h t => h
  case hRd => exact fun k W ⟨v, h1, h2, h3, h4, h5⟩ => Hr.out.reads (hb.trans (h5.mono hb0)) h3 k
  case assign =>
    intro _ k x W K hK
    gi_wp2
    exact hK
  case body =>
    rintro _ k b off x W ⟨v, h1, h2, h3, h4, h5⟩ hk hoa hx
    obtain ⟨y, hy, rfl⟩ := Hr.out.word (hb.trans (h5.mono hb0)) hk hoa hx
    have hy9 : y < 1000000000 := Hd.out.1 y (List.mem_of_getElem? hy)
    have hv := Lib.hid (val_drop_next (B := 1000000000) hk hy)
    generalize hV : val 1000000000 (l.drop (l.length - k)) = V at *
    have Hk := Lib.hid hk
    clear hy hx hoa
    have HI : Hid (AppI w base (.slice oa l.length cap) t V W) := ⟨v, h1, h2, h3, h4, h5⟩
    clear h1 h2 h3 h4 h5
    have hVl : V < 1000000000 ^ k := by
      have := val_lt (B := 1000000000) (by omega) (Hd.out.1.drop (l.length - k))
      rwa [hV, List.length_drop, show l.length - (l.length - k) = k from by omega] at this
    have HL : Hid (∀ j, j ≤ 9 → (dec (V * 10 ^ (9 - j) + y / 10 ^ j)).length ≤ 10000) := fun j hj => Nat.le_trans (dec_length_le (by omega) (prefix_lt hVl hy9 hj)) (by omega)
    clear hV hVl hk
    gi_wp2
    gi_loopw [8] (fun v8 wr => ∃ j : Nat, j ≤ 9 ∧ v8 = .int .u32 (10 ^ j / 10 : Nat) ∧ Hid (AppI w base (.slice oa l.length cap) t (V * 10 ^ (9 - j) + y / 10 ^ j) wr ∧ KeepsOthers W wr)) (fun v8 _ => (intOf v8).toNat)
    case atStart => exact ⟨9, Nat.le_refl _, rfl, by rw [Nat.sub_self, Nat.pow_zero, Nat.mul_one, Nat.div_eq_of_lt hy9, Nat.add_zero]; exact HI.out, KeepsOthers.refl _⟩
    case round =>
      clear HI
      obtain ⟨j, hj, rfl, hinv⟩ := hrel
      by_cases h0 : j = 0
      · subst h0
        have hN : Hid (V * 10 ^ (9 - 0) + y / 10 ^ 0 = val 1000000000 (l.drop (l.length - (k + 1)))) := by
          show _ = _
          rw [hv.out, Nat.pow_zero, Nat.div_one, show (10 : Nat) ^ (9 - 0) = 1000000000 from rfl]; omega
        have e0 : ((10 ^ 0 / 10 : Nat) : Int) = 0 := rfl
        rw [e0]
        gi_wp2
        exact ⟨hinv.out.2, by show AppI _ _ _ _ _ _; rw [← hN.out]; exact hinv.out.1⟩
      · obtain ⟨m, rfl⟩ : ∃ m, j = m + 1 := ⟨j - 1, by omega⟩
        have eu : 10 ^ (m + 1) / 10 = 10 ^ m := by rw [Nat.pow_succ]; exact Nat.mul_div_cancel _ (by omega)
        rw [eu]
        have hst := Lib.hid (prefix_step (V := V) (y := y) (m := m) (by omega))
        have hlen := HL.out (m + 1) hj
        obtain ⟨⟨v, h1, h2, h3, h4, h5⟩, hko⟩ := hinv.out
        clear hinv eu
        generalize hNN : V * 10 ^ (9 - (m + 1)) + y / 10 ^ (m + 1) = N at *
        generalize hq : y / 10 ^ m = q at *
        have hq9 : q ≤ y := by rw [← hq]; exact Nat.div_le_self _ _
        have hu1 : 1 ≤ 10 ^ m := Nat.pow_pos (by omega)
        have hu9 : 10 ^ m ≤ 100000000 := Nat.pow_le_pow_right (n := 10) (by omega) (show m ≤ 8 by omega)
        have hun : 10 ^ m / 10 = (10 : Nat) ^ m / 10 := rfl
        generalize hu : 10 ^ m = u at *
        have hqd : (y : Int) / (u : Int) = (q : Int) := by rw [← hq, Int.natCast_ediv]
        have hq2 : (y : Int) / (u : Int) % 4294967296 = (q : Int) := by rw [hqd]; omega
        have hune : ((u : Int) == 0) = false := by rw [beq_eq_false_iff_ne]; omega
        clear hqd
        have HU := Lib.hid hu
        have HQ := Lib.hid hq
        clear hu hq hNN hun
        obtain ⟨dg, hdg⟩ : ∃ dg, dg = q % 10 := ⟨_, rfl⟩
        have hdg9 : dg ≤ 9 := by omega
        have hrm : (q : Int) % 10 = (dg : Int) := by omega
        have hst' : Hid (V * 10 ^ (9 - m) + y / 10 ^ m = 10 * N + dg) := by show _ = _; rw [HU.out, HQ.out, hst.out, hdg]
        have HDG := Lib.hid hdg
        clear hst hdg
        have c1 := h1.cell
        have f1 := h1.free
        have c2 := h2.cell
        have f2 := h2.free
        have H1 := Lib.hid h1; have H2 := Lib.hid h2; have H3 := Lib.hid h3; have H4 := Lib.hid h4; have H5 := Lib.hid h5; have HKO := Lib.hid hko
        clear h1 h2 h3 h4 h5 hko
        by_cases hz : N = 0 ∧ dg = 0
        · obtain ⟨rfl, rfl⟩ := hz
          have HN : Hid (AppI w base (.slice oa l.length cap) t (10 * 0 + 0) (wr.setCell ⟨w.heap.size + 1, 0, none⟩ (.bool true))) :=
            ⟨v, H1.out.other _ _ (by simp), H2.out.set _, H3.out.other _ _ (by simp), H4.out.set H2.out (by decide), H5.out.setCell (p := ⟨w.heap.size + 1, 0, none⟩) (by show base ≤ w.heap.size + 1; omega) _⟩
          have hd0 : decide ((0 : Nat) = 0) = true := rfl
          gi_wp2
          go_roundw
          case rel => exact ⟨m, by omega, by rw [HU.out]; go_num, by rw [hst'.out]; exact HN.out, HKO.out.trans (KeepsOthers.setCell _ _ _)⟩
          case measure => simp [intOf]; omega
        · have HA := Lib.hid (fun v' W1 a b => append_after (v' := v') (W1 := W1) (va := .slice oa l.length cap) H1.out H2.out H3.out H5.out H4.out a b hdg9 (by omega) hb1)
          have hblen : (t ++ dec N).length + 1 ≤ 2000000 := by rw [List.length_append]; omega
          have HT4 := Lib.hid (H4.out.set (x := .bool false) H2.out (by decide))
          have HZ := Lib.hid hz
          obtain ⟨i0, hi, hz0, hz1, hz2⟩ := info_parts Try.info5
          have hld : ∀ b : Bool, (decide (N = 0) = b) → (b = true → ((dg : Int) == 0) = false) := fun b hb hbt => by
            subst hbt
            rw [beq_eq_false_iff_ne]
            intro h; exact hz ⟨of_decide_eq_true hb, by omega⟩
          generalize hb : decide (N = 0) = b at *
          have hdz := hld b rfl
          clear hld hz hb
          have HTL := Lib.hid hlen
          cases b
          · clear hdz
            gi_wp2_with (gi_at_builtin; refine wpListIn_append_own _ rfl (.tmp 35) (.tmp 39) 92 rfl base 5 i0 (.int .u8 0) 1 1 Try.underlying92 hi hz0 hz1 hz2 rfl (by decide) _ (t ++ dec N).length _ rfl (HT4.out.alloc _) ⟨wr.heap.size, 0, none⟩ 1 1 (bv [UInt8.ofNat (48 + dg)]) rfl rfl (by simpa using one_byte (wr.setCell ⟨w.heap.size + 1, 0, none⟩ (.bool false)) dg hdg9) (by intro u hu; simp [bv] at hu; subst hu; rfl) (by unfold maxLen; omega) (by omega) (by have := H5.out.size; simp; omega) ?_; intro v' w1 hown1 hgrow1 _; obtain ⟨o', n', c', rfl, k1, HI', HK'⟩ := HA.out v' w1 hown1 hgrow1; have k1c := k1.cell; have k1f := k1.free; have HI2 := Lib.hid HI'; have HK2 := Lib.hid HK'; clear hown1 hgrow1 k1 HI' HK')
            go_roundw
            case rel => exact ⟨m, by omega, by rw [HU.out]; go_num, by rw [hst'.out]; exact HI2.out, HKO.out.trans HK2.out⟩
            case measure => simp [intOf]; omega
          · replace hdz := hdz rfl
            gi_wp2_with (gi_at_builtin; refine wpListIn_append_own _ rfl (.tmp 35) (.tmp 39) 92 rfl base 5 i0 (.int .u8 0) 1 1 Try.underlying92 hi hz0 hz1 hz2 rfl (by decide) _ (t ++ dec N).length _ rfl (HT4.out.alloc _) ⟨wr.heap.size, 0, none⟩ 1 1 (bv [UInt8.ofNat (48 + dg)]) rfl rfl (by simpa using one_byte (wr.setCell ⟨w.heap.size + 1, 0, none⟩ (.bool false)) dg hdg9) (by intro u hu; simp [bv] at hu; subst hu; rfl) (by unfold maxLen; omega) (by omega) (by have := H5.out.size; simp; omega) ?_; intro v' w1 hown1 hgrow1 _; obtain ⟨o', n', c', rfl, k1, HI', HK'⟩ := HA.out v' w1 hown1 hgrow1; have k1c := k1.cell; have k1f := k1.free; have HI2 := Lib.hid HI'; have HK2 := Lib.hid HK'; clear hown1 hgrow1 k1 HI' HK')
            go_roundw
            case rel => exact ⟨m, by omega, by rw [HU.out]; go_num, by rw [hst'.out]; exact HI2.out, HKO.out.trans HK2.out⟩
            case measure => simp [intOf]; omega
  case done =>
    rintro E W hE ⟨v, h1, h2, h3, h4, h5⟩ hd
    have c1 := h1.cell
    gi_wp2
    have t := Turn.put (B := w.heap.size) (.deferred none) (by omega) hd rfl
    refine ⟨by simp, .inl ⟨_, _, rfl, run_takeDeferred hd, _, results_tmp rfl _ _ _, ?_⟩⟩
    rw [Nat.sub_self, List.drop_zero] at h4
    exact ⟨_, rfl, h4.turn t, h5.trans (t.below.mono hb1)⟩
  case stop =>
    rintro E c W hE h hd
    exact h.elim

set_option maxRecDepth 100000 in
set_option maxHeartbeats 4000000 in
/-- appendTo -/
theorem appendTo_num {w0 w : World} {base : Nat} {va v : Value} {t : List UInt8} {a : Nat} (ha : Num w0 va a) (la : Len a ≤ 1000) (hb : Below w0.heap.size w0 w) (hb0 : w0.heap.size ≤ base) (hb1 : base ≤ w.heap.size) (ht : Bytes w base v t) (htl : t.length ≤ 1000000) :
    Calls Try.prog 100 #[va, v] w fun e w' => ∃ v', e = .returned v' ∧ Bytes w' base v' (t ++ decT a) ∧ Below base w w' := by
  obtain ⟨oa, ca, l, rfl, hr, hc, hv, hll⟩ := ha.open
  by_cases h0 : 0 < Len a
  · have hne : a ≠ 0 := by rintro rfl; rw [len_zero] at h0; omega
    refine (appendTo_any oa l _ ca la hc hr hb hb0 hb1 ht htl h0).mono ?_
    rintro e w' ⟨v', rfl, h1, h2⟩
    refine ⟨v', rfl, ?_, h2⟩
    rw [hv] at h1
    unfold decT
    rw [if_neg hne]
    exact h1
  · have hl0 : Len a = 0 := by omega
    have ha0 : a = 0 := by
      rw [← hv, List.length_eq_zero_iff.1 (hll.trans hl0), val_nil]
    subst ha0
    clear hr hc hv hll ha
    obtain ⟨oT, cT, rfl⟩ := ht.shape
    have hlz : ((Len 0 : Nat) : Int) = 0 := by rw [len_zero]; rfl
    rw [show decT 0 = [48] from rfl]
    obtain ⟨i0, hi, hz0, hz1, hz2⟩ := info_parts Try.info5
    have HT := Lib.hid (World.ownsRow.alloc ht (.cells #[.slice oT t.length cT] 92))
    have hB := Lib.hid ((Below.refl base w).alloc hb1 (.cells #[.slice oT t.length cT] 92))
    have hcb := Lib.hid (one_byte (w.alloc (.cells #[.slice oT t.length cT] 92)) 0 (by omega))
    rw [len_zero]
    clear hlz h0 hl0
    go_enter Try.func100, Try.ntmps100
    go_wp2_with (at_builtin; refine wpList_append_own _ rfl (.tmp 13) (.tmp 14) 92 rfl base 5 i0 (.int .u8 0) 1 1 Try.underlying92 hi hz0 hz1 hz2 rfl (by decide) _ t.length _ rfl (HT.out.alloc _) ⟨w.heap.size + 1, 0, none⟩ 1 1 (bv [UInt8.ofNat (48 + 0)]) rfl rfl (by simpa using hcb.out) (by intro u hu; simp [bv] at hu; subst hu; rfl) (by unfold maxLen; omega) (by omega) (by simp; omega) ?_; intro v' w1 hown1 hgrow1 _)
    go_ret
    refine ⟨_, rfl, ?_, ?_⟩
    · unfold Bytes; rw [bv_append, List.length_append]; exact hown1
    · exact (hB.out.alloc (by simp; omega) _).grown hgrow1 (by simp; omega) (fun g hg => (ht.block_ge g hg).1)
end Go.Proofs.Ytlkdahgfnfdakaa
