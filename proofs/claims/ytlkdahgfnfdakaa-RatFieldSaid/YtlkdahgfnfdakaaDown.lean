/- 'for at, word := range a.down() { .. }': the words of a slice, from the highest one on: one law for all such loops. -/
import Derived.Test.YtlkdahgfnfdakaaMem
import Derived.RangeFuncNested
import Derived.RangeFuncBound
import Derived.RangeFuncCalls
import Derived.RangeFuncLeaves
import Derived.Shelf.Abstract
import Derived.Shelf.RegionOpen
import Derived.OwnWalkIn
import Derived.TacticsInMore
import Derived.LoopNIn
import Derived.LoopIn
namespace Go.Proofs.Ytlkdahgfnfdakaa
open Go.RowKit Go.Shelf
attribute [local go_sem] Oper.semAt_some

/-- What the loop's own records turn: nothing below B, no cells, nothing of the streams. -/
structure Turn (B : Nat) (W W' : World) : Prop where
  below : Below B W W'
  cells : ∀ (i : Nat) (cs : Array Value) (t : TypeId) (fr : Nat × Nat), W.heap[i]? = some (.cells cs t fr) → W'.heap[i]? = some (.cells cs t fr)

theorem Turn.trans {B : Nat} {X Y Z : World} (h : Turn B X Y) (k : Turn B Y Z) : Turn B X Z := ⟨h.below.trans k.below, fun i cs t fr hi => k.cells i cs t fr (h.cells i cs t fr hi)⟩
theorem Turn.alloc {B : Nat} (W : World) (hB : B ≤ W.heap.size) (o : Obj) : Turn B W (W.alloc o) :=
  ⟨(Below.refl B W).alloc hB o, fun i _ _ _ hi => (heap_alloc_old W o (lt_of_block hi)).trans hi⟩
theorem Turn.put {B : Nat} {W : World} {l : Nat} {o : Obj} (o' : Obj) (hl : B ≤ l) (h : W.heap[l]? = some o) (ho : o.isCells = false) : Turn B W (W.putObj l o') := by
  have hlt : l < W.heap.size := lt_of_block h
  refine ⟨(Below.refl B W).grown (grownBy_putObj' W l o') (by omega) (fun k e => by cases e; exact hl), fun i cs t fr hi => ?_⟩
  rw [World.putObj_heap_other (fun e => by subst e; rw [h] at hi; cases hi; cases ho)]; exact hi
theorem Turn.cell {B : Nat} {W W' : World} (h : Turn B W W') {a : Addr} {v : Value} (hc : W.cell? a = some v) : W'.cell? a = some v := by
  unfold World.cell? at hc ⊢
  cases ho : W.heap[a.block]? with
  | none => simp [ho] at hc
  | some o =>
    cases o with
    | cells cs t fr => rw [h.cells _ _ _ _ ho]; simpa [ho] using hc
    | _ => simp [ho] at hc
theorem Row.turn {B : Nat} {W W' : World} (h : Turn B W W') {g : Nat} {k : IntKind} {t : TypeId} {l : List Nat} (hr : Row W g k t l) : Row W' g k t l := h.cells _ _ _ _ hr
theorem Rep.turn {B : Nat} {W W' : World} (h : Turn B W W') {k : IntKind} {v : Value} {l : List Nat} (hr : Rep W k v l) : Rep W' k v l := by
  obtain ⟨oa, cap, rfl, hc, hcell⟩ := hr
  refine ⟨oa, cap, rfl, hc, fun i hi => ?_⟩
  obtain ⟨b, off, rfl, hcl⟩ := hcell i hi
  exact ⟨b, off, rfl, h.cell hcl⟩

set_option maxHeartbeats 1000000 in
theorem down_any (oa : Option Addr) (n c : Nat) (w : World) :
    Calls Try.prog 129 #[.slice oa n c] w fun e w' => e = .returned (.func (.func 136) #[] #[.pointer (some ⟨w.heap.size, 0, none⟩)]) ∧ w' = w.alloc (.cells #[.slice oa n c] 53) := by
  go_enter Try.func129, Try.ntmps129
  go_wp2
  go_ret
  exact ⟨rfl, rfl⟩

/-- what the iterator reads when k rounds are over -/
def Reads (D : Nat) (oa : Option Addr) (len cap : Nat) (k : Nat) (W : World) : Prop :=
  W.cell? ⟨D, 0, none⟩ = some (.slice oa len cap) ∧ (k < len → ∃ (b off : Nat) (x : Int), oa = some ⟨b, off, none⟩ ∧ W.cell? ⟨b, off + (len - 1 - k), none⟩ = some (.int .u32 x))

set_option maxRecDepth 100000 in
set_option maxHeartbeats 1000000 in
theorem down1_in (n : Nat) (l D : Nat) (oa : Option Addr) (len cap : Nat) (hlen : len ≤ 1000000000000) (J : Nat → World → Prop) (Jx : World → Prop)
    (hRd : ∀ k W, J k W → Reads D oa len cap k W)
    (hY : ∀ k (b off : Nat) (x : Int) W, J k W → k < len → oa = some ⟨b, off, none⟩ → W.cell? ⟨b, off + (len - 1 - k), none⟩ = some (.int .u32 x) →
      YieldAt Fence.wide (n - 1) Try.prog l #[.int .i64 ((len - 1 - k : Nat) : Int), .int .u32 x] W fun e W' => (e = .returned (.bool true) ∧ J (k + 1) W') ∨ (e = .returned (.bool false) ∧ Jx W'))
    (W : World) (h0 : J 0 W) :
    CallsIn Fence.wide n Try.prog 136 #[.func (.yield l) #[] #[], .pointer (some ⟨D, 0, none⟩)] W fun e W' => (∃ v, e = .returned v) ∧ (J len W' ∨ Jx W') := by
  refine callsIn_of_wp Try.func136 rfl trivial ?_ rfl
  simp only [Try.ntmps136, List.size_toArray, List.length_cons, List.length_nil, Nat.reduceAdd, Nat.reduceSub, Array.replicate_succ, Array.replicate_zero, List.push_toArray, List.append_toArray, List.nil_append, List.cons_append]
  have hb0 := (hRd 0 W h0).1
  gi_wp2
  clear hb0
  gi_loopw [3] (fun p wr => ∃ k : Nat, k ≤ len ∧ p = .int .i64 ((len : Int) - 1 - k) ∧ J k wr) (fun p wr => (intOf p + 1).toNat)
  case atStart => exact ⟨0, Nat.zero_le _, by congr 1; omega, h0⟩
  case round =>
    obtain ⟨k, hk, rfl, hJ⟩ := hrel
    obtain ⟨hb, hr⟩ := hRd k wr hJ
    by_cases hlt : k < len
    · obtain ⟨b, off, x, rfl, hc⟩ := hr hlt
      obtain ⟨fn, tmps, assign, body, hy, hR⟩ := hY k b off x wr hJ hlt rfl hc
      have e1 : ((len - 1 - k : Nat) : Int) = (len : Int) - 1 - k := by omega
      rw [e1] at hy
      clear e1 hr
      gi_wp2
      refine ⟨fun h => by simp [Fence.wide] at h, hR.mono ?_⟩
      rintro e W3 (⟨rfl, hJ3⟩ | ⟨rfl, hJx3⟩)
      · gi_wp2
        go_roundw
        case rel => exact ⟨k + 1, hlt, i64_eq (by omega), hJ3⟩
        case measure => simp [intOf]; omega
      · gi_wp2
        refine bodyPost_ret (results_none rfl _ _ _) rfl ?_
        exact ⟨⟨_, rfl⟩, .inr hJx3⟩
    · gi_wp2
      go_end0
      obtain rfl : k = len := by omega
      exact ⟨⟨_, rfl⟩, .inl hJ⟩
/-- A region without 'defer' is walked in a round as elsewhere. -/
theorem op_round {F : Fence} {n : Nat} {P : Program} {ops : Array Oper} {Q : Exit → Act → World → Prop} (l : Nat) (hro : F.round = none) (hnd : ops.toList.all (fun o => match o.op with | .defer _ => false | _ => true) = true)
    {K K' : Act → World → Prop} (hK : ∀ a w, K a w → K' a w) (i : Nat) (a : Act) (w : World) (h : wpOpIn F n P ops Q i K a w) : wpOpIn (F.inRound l) n P ops Q i K' a w := by
  have h := wpOpIn_mono hK h
  unfold wpOpIn at *
  cases ho : ops[i]? with
  | none => simpa [ho] using h
  | some o =>
    have hd : ∀ c, o.op ≠ .defer c := fun c hc => by
      have hm : o ∈ ops.toList := Array.mem_toList_iff.2 (Array.mem_of_getElem? ho)
      have := List.all_eq_true.1 hnd o hm
      simp [hc] at this
    simp only [ho] at h ⊢
    split
    · rename_i hw
      simp only [hw, if_true] at h
      unfold Oper.wpIn at *
      rw [Oper.semAt_eq _ _ _ hd] at h ⊢
      exact h
    · rename_i hw
      simp only [hw] at h
      exact h
theorem any_round {F : Fence} {n : Nat} {P : Program} {ops : Array Oper} {Q : Exit → Act → World → Prop} {md : Region.Mode} (l : Nat) (hro : F.round = none)
    (hnd : ops.toList.all (fun o => match o.op with | .defer _ => false | _ => true) = true) : ∀ (fuel : Nat) (listed : Array Bool) (a : Act) (w : World),
    wpAnyIn F n P md ops Q fuel listed a w → wpAnyIn (F.inRound l) n P md ops Q fuel listed a w
  | 0, _, _, _, h => h
  | fuel + 1, listed, a, w, h => ⟨h.1, fun i hi => op_round l hro hnd (fun a w => any_round l hro hnd fuel _ a w) i a w (h.2 i hi)⟩
theorem region_round {F : Fence} {n : Nat} {P : Program} {ops : Array Oper} {Q : Exit → Act → World → Prop} (l : Nat) (hro : F.round = none) (hm : P.follows .mixedOrders = true)
    (hnd : ops.toList.all (fun o => match o.op with | .defer _ => false | _ => true) = true) {id : Nat} {a : Act} {w : World}
    (h : wpAnyIn F n P .any ops Q ops.size (Array.replicate ops.size false) a w.drew) : (Code.region id ops true).wpIn (F.inRound l) n P Q a w :=
  wpIn_region_any hm (any_round l hro hnd _ _ _ _ h)

/-- it goes on -/
def OnlyNormal (R : Act → World → Prop) : Exit → Act → World → Prop
  | .normal, a, w => R a w
  | _, _, _ => False
theorem OnlyNormal.elim {R : Act → World → Prop} {Q : Exit → Act → World → Prop} (h : ∀ a w, R a w → Q .normal a w) : ∀ e a w, OnlyNormal R e a w → Q e a w := fun e a w he => by
  cases e <;> first | exact h a w he | exact False.elim he

/-- how a round may be left -/
def DownPost (I : Nat → World → Prop) (Ix : Code → World → Prop) (k : Nat) (W : World) : Exit → Act → World → Prop
  | .normal, _, W' => KeepsOthers W W' ∧ I (k + 1) W'
  | .ret, _, W' => KeepsOthers W W' ∧ Ix .ret W'
  | .exit id, _, W' => KeepsOthers W W' ∧ Ix (.exit id) W'
  | .goto t, _, W' => KeepsOthers W W' ∧ Ix (.goto t) W'
  | .panic _, _, _ => False
  | .outgrown, _, _ => False

theorem run_toRecord {W : World} {l : Nat} {r : Loop} (j : Option Code) (h : W.heap[l]? = some (.loop r)) :
    (Instr.endRound l j).run Try.prog W = .ok (.bool j.isNone) (W.putObj l (.loop { r with state := if j.isNone then .ready else .done, pending := j })) := run_endRound j h

/-- THE LOOP OVER 'a.down()': I k: what holds when k rounds are over. -/
theorem wpIn_down (n : Nat) {g : Operand} {ps : Array Tmp} {assign body : Code} {Q : Exit → Act → World → Prop} {a : Act} {w : World}
    (D : Nat) (oa : Option Addr) (len cap : Nat) (hlen : len ≤ 1000000000000)
    (hg : a.eval g = .func (.func 136) #[] #[.pointer (some ⟨D, 0, none⟩)]) (hps : ps.size = 2)
    (I : Nat → World → Prop) (Ix : Code → World → Prop)
    (hI : ∀ k W W', I k W → Turn w.heap.size W W' → I k W') (hIx : ∀ c W W', Ix c W → Turn w.heap.size W W' → Ix c W')
    (hRd : ∀ k W, I k W → Reads D oa len cap k W) (h0 : I 0 w) (a₁ : Nat → Int → Act)
    (hassign : ∀ l k x W (K : Act → World → Prop), K (a₁ k x) W →
      assign.wpIn (Fence.wide.inRound l) (n - 1 - 1) Try.prog (Exit.then K (fun _ _ _ => False)) { tmps := (ps.zip #[.int .i64 ((len - 1 - k : Nat) : Int), .int .u32 x]).foldl (fun t (p, v) => t.setIfInBounds p v) a.tmps, defers := [] } W)
    (hbody : ∀ l k b off x W, I k W → k < len → oa = some ⟨b, off, none⟩ → W.cell? ⟨b, off + (len - 1 - k), none⟩ = some (.int .u32 x) →
      body.wpIn (Fence.wide.inRound l) (n - 1 - 1) Try.prog (DownPost I Ix k W) (a₁ k x) W)
    (hdone : ∀ E W, w.heap.size ≤ E → I len W → W.heap[E]? = some (.deferred (some [])) → Q .normal { a with defers := { target := .collected E, args := #[] } :: a.defers } W)
    (hstop : ∀ E c W, w.heap.size ≤ E → Ix c W → W.heap[E]? = some (.deferred (some [])) → c.wpIn Fence.wide n Try.prog Q { a with defers := { target := .collected E, args := #[] } :: a.defers } W) :
    (Code.rangeFunc g ps assign body).wpIn Fence.wide n Try.prog Q a w := by
  refine wpIn_rangeFunc fun fn _ => ?_
  let rc : LoopState → Option Code → Loop := fun st pe => { state := st, pending := pe, fn := fn, tmps := a.tmps, params := ps, assign := assign, body := body, defers := w.heap.size }
  obtain ⟨L, hL⟩ : ∃ L, L = w.heap.size + 1 := ⟨_, rfl⟩
  obtain ⟨V, hV⟩ : ∃ V, V = (w.alloc (.deferred (some []))).alloc (.loop (rc .ready none)) := ⟨_, rfl⟩
  have tV : Turn w.heap.size w V := by
    rw [hV]; exact (Turn.alloc w (Nat.le_refl _) _).trans (Turn.alloc _ (by simp) _)
  have lV : V.heap[L]? = some (.loop (rc .ready none)) := by
    rw [hV, hL]; have := heap_alloc_new (w.alloc (.deferred (some []))) (.loop (rc .ready none)); rwa [World.size_alloc] at this
  have dV : V.heap[w.heap.size]? = some (.deferred (some [])) := by
    rw [hV]; exact (Below.heap_alloc _ _ _ (by simp)).trans (heap_alloc_new w _)
  -- the state of the loop's record, between two rounds
  let J : Nat → World → Prop := fun k W => I k W ∧ W.heap[L]? = some (.loop (rc .ready none)) ∧ W.heap[w.heap.size]? = some (.deferred (some []))
  let Jx : World → Prop := fun W => ∃ c, Ix c W ∧ W.heap[L]? = some (.loop (rc .done (some c))) ∧ W.heap[w.heap.size]? = some (.deferred (some []))
  refine ⟨L, [{ target := .collected w.heap.size, args := #[] }], V, { target := .fn (.func 136) #[.pointer (some ⟨D, 0, none⟩)], args := #[.func (.yield L) #[] #[]] }, V, 136,
    #[.func (.yield L) #[] #[]] ++ #[.pointer (some ⟨D, 0, none⟩)], V, ?_, ?_, ?_, ?_, fun _ => by simp_all [Fence.wide], ?_⟩
  · rw [hV, hL]; exact run_enterLoop_outer _ _ _ _ _
  · simp only [resolve, hg]; simp [go_sem]
  · intro _ _; trivial
  · have eg := enters_of (P := Try.prog) Try.func136 (by kernel_rfl) rfl
    simp [invoke, go_sem, eg]
  · refine (down1_in (n - 1) L D oa len cap hlen J Jx (fun k W h => hRd k W h.1) ?_ V ⟨hI _ _ _ h0 tV, lV, dV⟩).mono ?_
    · rintro k b off x W ⟨hi, hl, hd⟩ hk hoa hc
      have hLlt := lt_of_block hl
      have hy := run_yield (P := Try.prog) (args := #[.int .i64 ((len - 1 - k : Nat) : Int), .int .u32 x]) hl (by simp [rc, hps])
      refine ⟨fn, _, assign, body, hy, roundIn_of_wpIn trivial (hassign L k x W _ ⟨_, run_beginRound hl rfl, ?_⟩)⟩
      have t2 : Turn w.heap.size W (W.putObj L (.loop { rc .ready none with state := .busy })) := Turn.put _ (by omega) hl rfl
      have l2 : (W.putObj L (.loop { rc .ready none with state := .busy })).heap[L]? = some (.loop { rc .ready none with state := .busy }) := World.putObj_heap_same hLlt
      have d2 : (W.putObj L (.loop { rc .ready none with state := .busy })).heap[w.heap.size]? = some (.deferred (some [])) := (World.putObj_heap_other (by omega)).trans hd
      generalize W.putObj L (.loop { rc .ready none with state := .busy }) = W2 at *
      refine wpIn_mono (hbody L k b off x W2 (hI _ _ _ hi t2) hk hoa (t2.cell hc)) ?_
      have fin : ∀ (j : Option Code) (W3 : World), KeepsOthers W2 W3 → ∃ W4, (Instr.endRound L j).run Try.prog W3 = .ok (.bool j.isNone) W4 ∧ Turn w.heap.size W3 W4 ∧
          W4.heap[L]? = some (.loop (rc (if j.isNone then .ready else .done) j)) ∧ W4.heap[w.heap.size]? = some (.deferred (some [])) := fun j W3 h3 => by
        have l3 := h3.same _ _ l2 rfl
        exact ⟨_, run_endRound j l3, Turn.put _ (by omega) l3 rfl, World.putObj_heap_same (lt_of_block l3), (World.putObj_heap_other (by omega)).trans (h3.same _ _ d2 rfl)⟩
      rintro e a3 W3 hp
      cases e with
      | normal =>
        obtain ⟨h3, hi3⟩ := hp
        obtain ⟨W4, r4, t4, l4, d4⟩ := fin none W3 h3
        exact ⟨_, _, r4, .inl ⟨rfl, hI _ _ _ hi3 t4, l4, d4⟩⟩
      | ret =>
        obtain ⟨h3, hi3⟩ := hp
        obtain ⟨W4, r4, t4, l4, d4⟩ := fin (some .ret) W3 h3
        exact ⟨_, _, r4, .inr ⟨rfl, .ret, hIx _ _ _ hi3 t4, l4, d4⟩⟩
      | exit id =>
        obtain ⟨h3, hi3⟩ := hp
        obtain ⟨W4, r4, t4, l4, d4⟩ := fin (some (.exit id)) W3 h3
        exact ⟨_, _, r4, .inr ⟨rfl, .exit id, hIx _ _ _ hi3 t4, l4, d4⟩⟩
      | goto t =>
        obtain ⟨h3, hi3⟩ := hp
        obtain ⟨W4, r4, t4, l4, d4⟩ := fin (some (.goto t)) W3 h3
        exact ⟨_, _, r4, .inr ⟨rfl, .goto t, hIx _ _ _ hi3 t4, l4, d4⟩⟩
      | panic ch => exact hp.elim
      | outgrown => exact hp.elim
    · rintro e W2 ⟨⟨v, rfl⟩, (⟨hi, hl, hd⟩ | ⟨c, hi, hl, hd⟩)⟩
      · have t4 : Turn w.heap.size W2 (W2.putObj L (.loop { rc .ready none with state := .exhausted })) := Turn.put _ (by omega) hl rfl
        exact ⟨none, _, run_endLoop hl (by simp [rc]), hdone _ _ (Nat.le_refl _) (hI _ _ _ hi t4) ((World.putObj_heap_other (by omega)).trans hd)⟩
      · have t4 : Turn w.heap.size W2 (W2.putObj L (.loop { rc .done (some c) with state := .exhausted })) := Turn.put _ (by omega) hl rfl
        exact ⟨some c, _, run_endLoop hl (by simp [rc]), hstop _ c _ (Nat.le_refl _) (hIx _ _ _ hi t4) ((World.putObj_heap_other (by omega)).trans hd)⟩

theorem alloc_at (w : World) (o : Obj) (n : Nat) (h : n = w.heap.size) : (w.alloc o).heap[n]? = some o := by subst h; exact heap_alloc_new w o
theorem alloc_lt (w : World) (o : Obj) (n : Nat) (h : n < w.heap.size) : (w.alloc o).heap[n]? = w.heap[n]? := heap_alloc_old w o h
/-- a variable's own block -/
def Box (W : World) (B t : Nat) (v : Value) : Prop := W.heap[B]? = some (.cells #[v] t (0, 0))
theorem Box.new (w : World) (t : Nat) (v : Value) : Box (w.alloc (.cells #[v] t)) w.heap.size t v := heap_alloc_new w _
theorem Box.cell {W : World} {B t : Nat} {v : Value} (h : Box W B t v) : W.cell? ⟨B, 0, none⟩ = some v := cell_of_one h
theorem Box.free {W : World} {B t : Nat} {v : Value} (h : Box W B t v) : W.frozen? ⟨B, 0, none⟩ = false := free_of_one h
theorem Box.lt {W : World} {B t : Nat} {v : Value} (h : Box W B t v) : B < W.heap.size := lt_of_block h
theorem Box.alloc {W : World} {B t : Nat} {v : Value} (h : Box W B t v) (o : Obj) : Box (W.alloc o) B t v := (heap_alloc_old W o (lt_of_block h)).trans h
theorem Box.turn {C : Nat} {W W' : World} {B t : Nat} {v : Value} (h : Box W B t v) (k : Turn C W W') : Box W' B t v := k.cells _ _ _ _ h
theorem Box.set {W : World} {B t : Nat} {v : Value} (h : Box W B t v) (u : Value) : Box (W.setCell ⟨B, 0, none⟩ u) B t u := one_setCell h
theorem Box.other {W : World} {B t : Nat} {v : Value} (h : Box W B t v) (a : Addr) (u : Value) (ha : B ≠ a.block) : Box (W.setCell a u) B t v := (heap_setCell_other W a B u ha).trans h
theorem Box.below {C : Nat} {W W' : World} {B t : Nat} {v : Value} (h : Box W B t v) (k : Below C W W') (hB : B < C) : Box W' B t v := (k.block B hB).trans h

theorem Rep.take {w : World} {k : IntKind} {oa : Option Addr} {cap : Nat} {l : List Nat} (h : Rep w k (.slice oa l.length cap) l) (n : Nat) (hn : n ≤ l.length) : Rep w k (.slice oa n cap) (l.take n) := by
  obtain ⟨oa', cap', he, hc, hcell⟩ := h
  cases he
  have e : (l.take n).length = n := by simp; omega
  refine ⟨oa, cap, by rw [e], by rw [e]; omega, fun i hi => ?_⟩
  obtain ⟨b, off, rfl, hcl⟩ := hcell i (by omega)
  exact ⟨b, off, rfl, by rw [hcl]; simp⟩

theorem Rep.at' {w wr : World} {k : IntKind} {oa : Option Addr} {n cap : Nat} {l : List Nat} (h : Rep w k (.slice oa n cap) l) (hb : Below w.heap.size w wr) (i : Nat) (hi : i < l.length) :
    ∃ b off, oa = some ⟨b, off, none⟩ ∧ b < w.heap.size ∧ wr.cell? ⟨b, off + i, none⟩ = some (.int k (l[i]'hi : Nat)) := by
  obtain ⟨oa', cap', he, hc, hcell⟩ := h
  cases he
  obtain ⟨b, off, rfl, hcl⟩ := hcell i hi
  exact ⟨b, off, rfl, block_lt_of_cell hcl, (hb.cell (p := ⟨b, off + i, none⟩) (block_lt_of_cell hcl)).trans hcl⟩
theorem Rep.len {w : World} {k : IntKind} {oa : Option Addr} {n cap : Nat} {l : List Nat} (h : Rep w k (.slice oa n cap) l) : l.length = n ∧ n ≤ cap := by
  obtain ⟨oa', cap', he, hc, hcell⟩ := h
  cases he
  exact ⟨rfl, hc⟩
/-- the iterator's reading, of a slice that lay ahead of the loop -/
theorem Rep.reads {w W : World} {D : Nat} {oa : Option Addr} {n cap : Nat} {l : List Nat} (h : Rep w .u32 (.slice oa n cap) l) (hb : Below w.heap.size w W) (hD : Box W D 53 (.slice oa n cap)) (k : Nat) : Reads D oa n cap k W := by
  obtain ⟨rfl, _⟩ := h.len
  refine ⟨hD.cell, fun hk => ?_⟩
  obtain ⟨b, off, rfl, _, hc⟩ := h.at' hb (l.length - 1 - k) (by omega)
  exact ⟨b, off, _, rfl, hc⟩
/-- what the iterator hands over is the list's number -/
theorem Rep.word {w W : World} {oa : Option Addr} {n cap : Nat} {l : List Nat} (h : Rep w .u32 (.slice oa n cap) l) (hb : Below w.heap.size w W) {k b off : Nat} {x : Int} (hk : k < n) (hoa : oa = some ⟨b, off, none⟩)
    (hx : W.cell? ⟨b, off + (n - 1 - k), none⟩ = some (.int .u32 x)) : ∃ y, l[n - 1 - k]? = some y ∧ x = (y : Nat) := by
  obtain ⟨rfl, _⟩ := h.len
  subst hoa
  obtain ⟨b', off', he, _, hc⟩ := h.at' hb (l.length - 1 - k) (by omega)
  cases he
  rw [hx] at hc
  exact ⟨_, List.getElem?_eq_getElem (by omega), by simpa using hc⟩

end Go.Proofs.Ytlkdahgfnfdakaa
