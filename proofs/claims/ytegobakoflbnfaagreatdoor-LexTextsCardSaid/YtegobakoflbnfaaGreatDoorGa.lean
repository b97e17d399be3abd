/- Classes of bytes: what classOf says, and slices.Index, slices.Contains of classes. A law for a region that draws its order: each of its first operations is looked at once, whatever the order, and what its slot holds is said by a relation that new memory keeps. Words for the law of Inv: relations of slots, listed by slot. The law of Inv for a region that keeps the text's order: its guards are not parted. -/
import Derived.Test.YtegobakoflbnfaaGreatDoorProg
import Derived.WalkKit
import Derived.Handy
import Derived.Lib.Hide
import Derived.IntWalk
import Derived.Lib.OthersKept
import Derived.Lib.TrimU
import Derived.Deep.LoopGhost
import Derived.StillTail
import Derived.Shelf.RegionOpen
namespace Go.Proofs.YtegobakoflbnfaaGreatDoor
open Go Go.RowKit

theorem wnat {n : Nat} (h : n < 9223372036854775807) : wrap64 ((n : Int) + 1) = ((n + 1 : Nat) : Int) := by unfold wrap64; omega

/-- a slice of classes in memory -/
def Cls (w : World) (v : Value) (l : List Int) : Prop := ∃ b off cap, v = .slice (some ⟨b, off, none⟩) l.length cap ∧ ∀ i, (hi : i < l.length) → w.cell? ⟨b, off + i, none⟩ = some (.int .i64 l[i])
theorem Cls.go {w w' : World} {v : Value} {l : List Int} (h : Cls w v l) (hb : Below w.heap.size w w') : Cls w' v l := by
  obtain ⟨b, off, cap, rfl, hc⟩ := h
  refine ⟨b, off, cap, rfl, fun i hi => ?_⟩
  have h1 := hc i hi
  exact (hb.cell (World.block_lt_of_cell? w _ h1)).trans h1

set_option maxHeartbeats 2000000 in
set_option maxRecDepth 100000 in
theorem index_any {w : World} {v : Value} {l : List Int} (hv : Cls w v l) (hn : l.length ≤ 1000) (c : Int) : Calls Tryz.prog 67 #[v, .int .i64 c] w fun e w' => (∃ k : Int, e = .returned (.int .i64 k) ∧ (0 ≤ k ↔ c ∈ l)) ∧ w' = w := by
  obtain ⟨b, off, cap, rfl, hc⟩ := hv
  have HC := Lib.hid hc; clear hc
  obtain ⟨n, hl⟩ : ∃ n, l.length = n := ⟨_, rfl⟩
  rw [hl] at hn
  rw [hl]
  have HL := Lib.hid hl; have HN := Lib.hid hn; clear hl hn
  go_enter Tryz.func67, Tryz.ntmps67
  go_wp2_with fail
  go_loopw [8] (fun v8 wr => ∃ i : Nat, i ≤ n ∧ v8 = .int .i64 (i : Nat) ∧ wr = w ∧ Hid (∀ x ∈ l.take i, x ≠ c)) (fun vi _ => n - (intOf vi).toNat)
  case atStart => exact ⟨0, Nat.zero_le _, rfl, rfl, by rw [List.take_zero]; intro x hx; cases hx⟩
  case round =>
    obtain ⟨i, hi, rfl, rfl, hno⟩ := hrel
    have HW := Lib.hid (wnat (n := i) (by have := HN.out; omega))
    have HNO := Lib.hid hno.out; clear hno
    by_cases hlt : i < n
    · have hli : i < l.length := by rw [HL.out]; exact hlt
      have hc := HC.out i hli
      have HT : Hid (l.take (i + 1) = l.take i ++ [l[i]]) := by show _ = _; rw [List.take_add_one, List.getElem?_eq_getElem hli]; rfl
      have HM : Hid (l[i] ∈ l) := List.getElem_mem hli
      generalize l[i] = a at *
      have HLT := Lib.hid hlt
      by_cases hac : c = a
      · subst hac
        go_wp2_with fail
        go_ret
        exact ⟨⟨_, rfl, ⟨fun _ => HM.out, fun _ => by omega⟩⟩, rfl⟩
      · have te : (c == a) = false := by rw [beq_eq_false_iff_ne]; exact hac
        have HAC := Lib.hid hac; clear hac hi hlt
        go_wp2_with fail
        go_roundw
        case rel => exact ⟨i + 1, HLT.out, by first | exact congrArg (Value.int .i64) HW.out | go_num, by first | trivial | rfl, by rw [HT.out]; intro x hx; rcases List.mem_append.1 hx with hx | hx; exact HNO.out x hx; simp at hx; subst hx; exact fun h => HAC.out h.symm⟩
        case measure => have := HLT.out; first | (rw [HW.out]; simp [intOf]; omega) | (simp [intOf]; omega)
    · have hin : i = n := by omega
      have HF : Hid (c ∉ l) := fun h => by
        have h1 := HNO.out
        rw [List.take_of_length_le (by rw [HL.out]; omega)] at h1
        exact h1 c h rfl
      clear HNO
      go_wp2_with fail
      go_ret
      exact ⟨⟨-1, rfl, ⟨fun h => absurd h (by omega), fun h => absurd h HF.out⟩⟩, rfl⟩
set_option maxHeartbeats 2000000 in
set_option maxRecDepth 100000 in
theorem contains_any {w : World} {v : Value} {l : List Int} (hv : Cls w v l) (hn : l.length ≤ 1000) (c : Int) : Calls Tryz.prog 42 #[v, .int .i64 c] w fun e w' => e = .returned (.bool (decide (c ∈ l))) ∧ w' = w := by
  have IX := Lib.hid (index_any hv hn c)
  clear hv hn
  go_enter Tryz.func42, Tryz.ntmps42
  go_wp2_with fail
  refine IX.out.mono ?_; rintro e w1 ⟨⟨k, rfl, hk⟩, rfl⟩
  have HK : Hid (decide (0 ≤ k) = decide (c ∈ l)) := by
    show _ = _
    by_cases h : 0 ≤ k
    · rw [decide_eq_true h, decide_eq_true (hk.1 h)]
    · rw [decide_eq_false h, decide_eq_false (fun h2 => h (hk.2 h2))]
  clear hk
  go_wp2_with fail
  go_ret
  exact ⟨by rw [← HK.out]; rfl, rfl⟩
end Go.Proofs.YtegobakoflbnfaaGreatDoor

namespace Go.Proofs.YtegobakoflbnfaaGreatDoor
open Go Go.RowKit

section
variable {P : Program} {ops : Array Oper} {md : Region.Mode} {Q : Exit → Act → World → Prop}

def dstAt (ops : Array Oper) (j : Nat) : Option Tmp := (ops[j]?).bind (·.dst)
/-- slot t is one of the first n operations' -/
def inHead (ops : Array Oper) (n : Nat) (t : Tmp) : Bool := (List.range n).any fun j => dstAt ops j == some t

/-- of the first n operations: each has a slot of its own, below N; waits for earlier ones alone, and for each that it looks at -/
def headOk (md : Region.Mode) (ops : Array Oper) (n N : Nat) : Bool :=
  (List.range n).all fun j => match ops[j]? with
    | none => false
    | some o => (match o.dst with
        | none => false
        | some d => decide (d < N) && (List.range n).all fun k => k == j || dstAt ops k != some d) &&
      (o.after.all fun e => !Region.binds md e || decide (e.on < j)) &&
      ((o.looksAt ops).all fun t => !inHead ops n t || o.after.any fun e => Region.binds md e && dstAt ops e.on == some t)

structure HeadFact (md : Region.Mode) (ops : Array Oper) (n N j : Nat) (o : Oper) (d : Tmp) : Prop where
  dst : o.dst = some d
  lt : d < N
  own : ∀ k, k < n → k ≠ j → dstAt ops k ≠ some d
  after : ∀ e ∈ o.after, Region.binds md e = true → e.on < j
  looks : ∀ t ∈ o.looksAt ops, inHead ops n t = true → ∃ e ∈ o.after, Region.binds md e = true ∧ dstAt ops e.on = some t

theorem headOk_spec {n N j : Nat} (h : headOk md ops n N = true) (hj : j < n) : ∃ o d, ops[j]? = some o ∧ HeadFact md ops n N j o d := by
  have h1 := List.all_eq_true.1 h j (List.mem_range.2 hj)
  cases ho : ops[j]? with
  | none => simp [ho] at h1
  | some o =>
    simp only [ho, Bool.and_eq_true] at h1
    obtain ⟨⟨hd, ha⟩, hl⟩ := h1
    cases hod : o.dst with
    | none => simp [hod] at hd
    | some d =>
      simp only [hod, Bool.and_eq_true, decide_eq_true_eq] at hd
      refine ⟨o, d, rfl, hod, hd.1, fun k hk hkj he => ?_, fun e he hb => ?_, fun t ht hin => ?_⟩
      · have := List.all_eq_true.1 hd.2 k (List.mem_range.2 hk)
        simp [hkj, he] at this
      · have := Array.all_eq_true_iff_forall_mem.1 ha e he
        simpa [hb] using this
      · have := List.all_eq_true.1 hl t ht
        simp only [hin, Bool.not_true, Bool.false_or] at this
        obtain ⟨e, he, hb⟩ := Array.any_eq_true'.1 this
        simp only [Bool.and_eq_true, beq_iff_eq] at hb
        exact ⟨e, he, hb.1, hb.2⟩

theorem Act.eval_tmp_put_ne {a : Act} {d t : Tmp} {v : Value} (h : d ≠ t) : (a.put (some d) v).eval (.tmp t) = a.eval (.tmp t) := by
  simp [Act.put, Act.eval, Array.getElem?_setIfInBounds_ne h]
theorem Act.eval_tmp_put_eq {a : Act} {d : Tmp} {v : Value} (h : d < a.tmps.size) : (a.put (some d) v).eval (.tmp d) = v := by
  simp [Act.put, Act.eval, h]

theorem Act.eval_tmp (a : Act) (t : Tmp) : a.eval (.tmp t) = a.tmps[t]?.getD undef := by simp [Act.eval]
/-- what one operation owes -/
def StepInv (P : Program) (ops : Array Oper) (Q : Exit → Act → World → Prop) (n : Nat) (base : Act) (w0 : World) (R : Tmp → Value → World → Prop) (o : Oper) : Prop :=
  ∀ (a : Act) (w : World), (∀ t, inHead ops n t = false → a.tmps[t]?.getD undef = base.tmps[t]?.getD undef) →
    (∀ t, ((o.looksAt ops).contains t && inHead ops n t) = true → R t (a.tmps[t]?.getD undef) w) → Below w0.heap.size w0 w →
    ∀ K : Act → World → Prop, (∀ v w', Below w.heap.size w w' → R (o.dst.getD 0) v w' → K (a.put o.dst v) w') → if Region.wanted o (yielded ops a.tmps) = true then o.wp P a w K Q else K (a.put o.dst undef) w

/-- what an operation without a guard owes -/
def StepU (P : Program) (ops : Array Oper) (Q : Exit → Act → World → Prop) (n : Nat) (base : Act) (w0 : World) (R : Tmp → Value → World → Prop) (o : Oper) : Prop :=
  ∀ (a : Act) (w : World), (∀ t, inHead ops n t = false → a.tmps[t]?.getD undef = base.tmps[t]?.getD undef) →
    (∀ t, ((o.looksAt ops).contains t && inHead ops n t) = true → R t (a.tmps[t]?.getD undef) w) → Below w0.heap.size w0 w →
    ∀ K : Act → World → Prop, (∀ v w', Below w.heap.size w w' → R (o.dst.getD 0) v w' → K (a.put o.dst v) w') → o.wp P a w K Q
theorem StepU.inv {n : Nat} {base : Act} {w0 : World} {R : Tmp → Value → World → Prop} {o : Oper} (hg : o.guard = none) (h : StepU P ops Q n base w0 R o) : StepInv P ops Q n base w0 R o := fun a w h1 h2 h3 K hK => by
  rw [if_pos (by simp [Region.wanted, hg])]
  exact h a w h1 h2 h3 K hK
/-- a guarded operation: the guard's slot decides -/
theorem wanted_slot {o : Oper} {a : Act} {j : Nat} {want b : Bool} {t : Tmp} (hg : o.guard = some (j, want)) (ht : dstAt ops j = some t) (h : a.tmps[t]?.getD undef = .bool b) : Region.wanted o (yielded ops a.tmps) = (b == want) := by
  have h1 : a.tmps[t]? = some (.bool b) := by
    cases hh : a.tmps[t]? with
    | none => rw [hh] at h; cases h
    | some x => rw [hh] at h; rw [← h]; rfl
  unfold dstAt at ht
  simp only [Region.wanted, hg, yielded, ht, Option.bind_some, h1]
  cases b <;> cases want <;> rfl

structure FInv (md : Region.Mode) (ops : Array Oper) (n : Nat) (base : Act) (w0 : World) (R : Tmp → Value → World → Prop) (listed : Array Bool) (a : Act) (w : World) : Prop where
  head : HeadInv md ops n listed
  tsize : a.tmps.size = base.tmps.size
  defers : a.defers = base.defers
  off : ∀ t, (∀ j, j < n → dstAt ops j = some t → listed.getD j false = false) → a.eval (.tmp t) = base.eval (.tmp t)
  rel : ∀ j, j < n → ∀ d, dstAt ops j = some d → listed.getD j false = true → R d (a.eval (.tmp d)) w
  good : Below w0.heap.size w0 w

theorem exists_least {p : Nat → Bool} : ∀ (n : Nat), (∃ i, i < n ∧ p i = true) → ∃ i, i < n ∧ p i = true ∧ ∀ j, j < i → p j = false
  | 0, ⟨i, h, _⟩ => absurd h (Nat.not_lt_zero _)
  | n + 1, ⟨i, h, hp⟩ => by
    by_cases hex : ∃ i, i < n ∧ p i = true
    · obtain ⟨k, hk, hkp, hmin⟩ := exists_least n hex
      exact ⟨k, by omega, hkp, hmin⟩
    · have : i = n := by
        rcases Nat.lt_or_ge i n with h' | h'
        · exact absurd ⟨i, h', hp⟩ hex
        · omega
      subst this
      refine ⟨i, h, hp, fun j hj => ?_⟩
      cases hpj : p j with
      | false => rfl
      | true => exact absurd ⟨j, hj, hpj⟩ hex

/-- how many of the first n are left -/
def leftN (n : Nat) (listed : Array Bool) : Nat := (List.range n).countP fun i => !listed.getD i false
theorem leftN_set {n i : Nat} {listed : Array Bool} (hi : i < n) (h : listed.getD i false = false) (hs : i < listed.size) : leftN n (listed.setIfInBounds i true) + 1 = leftN n listed := by
  unfold leftN
  induction n with
  | zero => omega
  | succ n ih =>
    rw [List.range_succ, List.countP_append, List.countP_append, List.countP_singleton, List.countP_singleton]
    by_cases hin : i = n
    · subst hin
      have e : (List.range i).countP (fun k => !(listed.setIfInBounds i true).getD k false) = (List.range i).countP (fun k => !listed.getD k false) := by
        apply List.countP_congr
        intro x hx
        have := List.mem_range.1 hx
        rw [getD_set_ne false (by omega)]
      have e2 : (listed.setIfInBounds i true).getD i false = true := by simp [hs]
      rw [e, e2, h]
      simp
    · have := ih (by omega)
      rw [getD_set_ne false hin]
      omega

theorem wanted_or {c : Bool} {A B C : Prop} (h : if c = true then A else C) : if c = true then A ∨ B else C := by
  cases c
  · simpa using h
  · simp at h ⊢; exact .inl h
theorem noHead {n t j : Nat} {p : Prop} (ht : inHead ops n t = false) (hj : j < n) (hd : dstAt ops j = some t) : p := by
  have : inHead ops n t = true := List.any_eq_true.2 ⟨j, List.mem_range.2 hj, by simp [hd]⟩
  rw [this] at ht; cases ht

theorem wpAny_inv {n N : Nat} {base : Act} {w0 : World} {R : Tmp → Value → World → Prop} (hok : headOk md ops n N = true) (hN : base.tmps.size = N)
    (hs : Region.sinkB md ops n = true) (hc : Region.chainB md ops n = true) (hn : n < ops.size)
    (hmono : ∀ t v w w', Below w.heap.size w w' → R t v w → R t v w')
    (hstep : ∀ j o, j < n → ops[j]? = some o → StepInv P ops Q n base w0 R o) {g : Nat}
    (hend : ∀ listed a w, FInv md ops n base w0 R listed a w → leftN n listed = 0 → wpAny P md ops Q g listed a w) :
    ∀ (f : Nat) (listed : Array Bool) (a : Act) (w : World), FInv md ops n base w0 R listed a w → leftN n listed = f → wpAny P md ops Q (f + g) listed a w
  | 0, listed, a, w, inv, hf => by rw [Nat.zero_add]; exact hend listed a w inv hf
  | f + 1, listed, a, w, inv, hf => by
    rw [show f + 1 + g = (f + g) + 1 by omega]
    have hsz : ∀ {i : Nat}, i < n → i < listed.size := fun h => by rw [inv.head.size]; omega
    -- one is left
    have hex : ∃ i, i < n ∧ (!listed.getD i false) = true := by
      have : 0 < leftN n listed := by omega
      unfold leftN at this
      rw [List.countP_pos_iff] at this
      obtain ⟨i, hi, hp⟩ := this
      exact ⟨i, List.mem_range.1 hi, hp⟩
    obtain ⟨i, hi, hp, hmin⟩ := exists_least n hex
    have hpi : listed.getD i false = false := by simpa using hp
    have hnt : ∀ t, n ≤ t → t ∉ Region.ready md ops listed := tail_waits hs hc hn inv.head _ i rfl hi (getD_in (hsz hi) hpi)
    refine ⟨fun h0 => ?_, fun k hk => ?_⟩
    · obtain ⟨o, d, ho, hf⟩ := headOk_spec hok hi
      have : i ∈ Region.ready md ops listed := mem_ready.2 ⟨getD_in (hsz hi) hpi, o, ho, fun e he hb => by
        have := hmin e.on (hf.after e he hb)
        simpa using this⟩
      rw [h0] at this
      cases this
    · have hkn : k < n := by
        rcases Nat.lt_or_ge k n with h | h
        · exact h
        · exact absurd hk (hnt k h)
      obtain ⟨o, d, ho, hfk⟩ := headOk_spec hok hkn
      obtain ⟨hkun, o', ho', hall⟩ := mem_ready.1 hk
      obtain rfl : o' = o := Option.some.inj (ho'.symm.trans ho)
      have hdk : dstAt ops k = some d := by simp [dstAt, ho, hfk.dst]
      unfold wpOp
      simp only [ho]
      refine wanted_or (hstep k o' hkn ho a w (fun t ht => by rw [← Act.eval_tmp, ← Act.eval_tmp]; exact inv.off t fun j hj hd => noHead ht hj hd) (fun t ht => ?_) inv.good _ (fun v w' hb hr => ?_))
      · simp only [Bool.and_eq_true] at ht
        obtain ⟨e, he, hb, hd⟩ := hfk.looks t (by simpa using ht.1) ht.2
        rw [← Act.eval_tmp]
        exact inv.rel e.on (by have := hfk.after e he hb; omega) t hd (hall e he hb)
      · refine wpAny_inv hok hN hs hc hn hmono hstep hend f _ _ _ ?_ (by have := leftN_set hkn (getD_both hkun) (hsz hkn); omega)
        have hda : d < a.tmps.size := by rw [inv.tsize, hN]; exact hfk.lt
        refine ⟨inv.head.set hk hkn, ?_, ?_, fun t ht => ?_, fun j hj dj hdj hl => ?_, inv.good.trans (hb.mono inv.good.size)⟩
        · rw [hfk.dst]; simp [Act.put, inv.tsize]
        · rw [hfk.dst]; simp [Act.put, inv.defers]
        · have hdt : d ≠ t := by
            rintro rfl
            have := ht k hkn hdk
            rw [show (listed.setIfInBounds k true).getD k false = true from by simp [hsz hkn]] at this
            cases this
          rw [hfk.dst, Act.eval_tmp_put_ne hdt]
          refine inv.off t fun j hj hdj => ?_
          have := ht j hj hdj
          by_cases hkj : k = j
          · subst hkj; exact getD_both hkun
          · rwa [getD_set_ne false hkj] at this
        · by_cases hkj : k = j
          · subst hkj
            obtain rfl : dj = d := Option.some.inj (hdj.symm.trans hdk)
            rw [hfk.dst, Act.eval_tmp_put_eq hda]
            rw [hfk.dst] at hr
            exact hr
          · have hne : d ≠ dj := by
              rintro rfl
              exact hfk.own j hj (Ne.symm hkj) hdj
            rw [hfk.dst, Act.eval_tmp_put_ne hne]
            rw [getD_set_ne false hkj] at hl
            exact hmono _ _ _ _ hb (inv.rel j hj dj hdj hl)

/-- the frame, the slots of these operations written -/
def putHead (g : Tmp → Value) : List Oper → Act → Act
  | [], a => a
  | o :: l, a => putHead g l (a.put o.dst (g (o.dst.getD 0)))
theorem putHead_defers (g : Tmp → Value) : ∀ (l : List Oper) (a : Act), (putHead g l a).defers = a.defers
  | [], a => rfl
  | o :: l, a => by
    rw [putHead, putHead_defers g l]
    cases o.dst <;> rfl
theorem putHead_size (g : Tmp → Value) : ∀ (l : List Oper) (a : Act), (putHead g l a).tmps.size = a.tmps.size
  | [], a => rfl
  | o :: l, a => by
    rw [putHead, putHead_size g l]
    cases o.dst <;> simp [Act.put]
theorem putHead_eval (g : Tmp → Value) : ∀ (l : List Oper) (a : Act) (t : Tmp), t < a.tmps.size → (putHead g l a).eval (.tmp t) = if (l.any fun o => o.dst == some t) = true then g t else a.eval (.tmp t)
  | [], a, t, h => by simp [putHead]
  | o :: l, a, t, h => by
    rw [putHead, putHead_eval g l _ t (by cases o.dst <;> simpa [Act.put] using h)]
    rw [List.any_cons]
    by_cases h1 : (l.any fun o => o.dst == some t) = true
    · simp [h1]
    · rw [if_neg h1]
      cases hd : o.dst with
      | none => simp [h1]; rfl
      | some d =>
        by_cases hdt : d = t
        · subst hdt
          rw [Act.eval_tmp_put_eq h]
          simp
        · rw [Act.eval_tmp_put_ne hdt]
          simp [h1, hdt]

theorem act_ext {a b : Act} (hs : a.tmps.size = b.tmps.size) (hd : a.defers = b.defers) (he : ∀ t, t < a.tmps.size → a.eval (.tmp t) = b.eval (.tmp t)) : a = b := by
  cases a with
  | mk at_ ad =>
    cases b with
    | mk bt bd =>
      obtain rfl : ad = bd := hd
      have : at_ = bt := by
        apply Array.ext hs
        intro i h1 h2
        have := he i h1
        simp only [Act.eval, Array.getD_eq_getD_getElem?, Array.getElem?_eq_getElem h1, Array.getElem?_eq_getElem h2, Option.getD_some] at this
        exact this
      rw [this]

theorem leftN_zero {n : Nat} {listed : Array Bool} (h : leftN n listed = 0) {i : Nat} (hi : i < n) : listed.getD i false = true := by
  unfold leftN at h
  rw [List.countP_eq_zero] at h
  have := h i (List.mem_range.2 hi)
  simpa using this

/-- each of the first operations, one by one -/
def StepsInv (P : Program) (ops : Array Oper) (Q : Exit → Act → World → Prop) (n : Nat) (base : Act) (w0 : World) (R : Tmp → Value → World → Prop) : List Oper → Prop
  | [] => True
  | o :: l => StepInv P ops Q n base w0 R o ∧ StepsInv P ops Q n base w0 R l
theorem StepsInv.get {n : Nat} {base : Act} {w0 : World} {R : Tmp → Value → World → Prop} : ∀ {l : List Oper}, StepsInv P ops Q n base w0 R l → ∀ (j : Nat) (o : Oper), l[j]? = some o → StepInv P ops Q n base w0 R o
  | [], _, j, o, h => by simp at h
  | x :: l, hs, 0, o, h => by
    obtain rfl : x = o := by simpa using h
    exact hs.1
  | x :: l, hs, j + 1, o, h => hs.2.get j o (by simpa using h)

/-- what the slots of these operations hold at the end -/
def HeadHeld (R : Tmp → Value → World → Prop) (g : Tmp → Value) (w : World) : List Oper → Prop
  | [] => True
  | o :: l => R (o.dst.getD 0) (g (o.dst.getD 0)) w ∧ HeadHeld R g w l
theorem headHeld_of {R : Tmp → Value → World → Prop} {g : Tmp → Value} {w : World} : ∀ {l : List Oper}, (∀ (j : Nat) (o : Oper), l[j]? = some o → R (o.dst.getD 0) (g (o.dst.getD 0)) w) → HeadHeld R g w l
  | [], _ => trivial
  | x :: l, h => ⟨h 0 x rfl, headHeld_of fun j o ho => h (j + 1) o (by simpa using ho)⟩

def invOk (md : Region.Mode) (l : List Oper) (n N : Nat) : Bool :=
  headOk md l.toArray n N && Region.sinkB md l.toArray n && Region.chainB md l.toArray n && decide (n < l.length) && Region.seqB md l.toArray (l.length - n) n ((Array.range l.length).map fun i => decide (i < n))

/-- THE LAW -/
theorem wp_region_inv {id : Nat} {base : Act} {w : World} {l : List Oper} (n N : Nat) (R : Tmp → Value → World → Prop) (hm : P.follows .mixedOrders = true) (hN : base.tmps.size = N) (hok : invOk .any l n N = true)
    (hmono : ∀ t v w w', Below w.heap.size w w' → R t v w → R t v w')
    (hstep : StepsInv P l.toArray Q n base w R (l.take n))
    (hend : ∀ (g : Tmp → Value) (w' : World), Below w.heap.size w w' → HeadHeld R g w' (l.take n) → wpList P l.toArray Q (l.drop n) (putHead g (l.take n) base) w') :
    (Code.region id l.toArray true).wp P Q base w := by
  simp only [invOk, Bool.and_eq_true, decide_eq_true_eq] at hok
  obtain ⟨⟨⟨⟨h1, h2⟩, h3⟩, h4⟩, h5⟩ := hok
  have hn : n < l.toArray.size := by simpa using h4
  refine wp_region_any hm ?_
  have hdl : (l.drop n).length = l.toArray.size - n := by simp
  have inv0 : HeadInv .any l.toArray n (Array.replicate l.toArray.size false) :=
    ⟨by simp, fun j oj _ hl => (by rw [getD_replicate_false] at hl; cases hl), fun t _ ht => getD_in (by simpa using ht) (getD_replicate_false _ _)⟩
  have hl0 : leftN n (Array.replicate l.toArray.size false) = n := by
    unfold leftN
    rw [List.countP_eq_length.2 (fun x _ => by rw [getD_replicate_false]; rfl), List.length_range]
  have key := wpAny_inv (P := P) (Q := Q) (md := .any) (g := l.toArray.size - n) h1 hN h2 h3 hn hmono (fun j o hj ho => hstep.get j o (by rw [List.getElem?_take, if_pos hj]; simpa using ho)) ?_ n _ base w.drew
    ⟨inv0, rfl, rfl, fun _ _ => rfl, fun j _ d _ hl => (by rw [getD_replicate_false] at hl; cases hl), (Below.refl _ _).drew⟩ hl0
  · rw [show n + (l.toArray.size - n) = l.toArray.size from by omega] at key
    exact key
  · intro listed a w' inv hz
    have hfin : listed = (Array.range l.length).map fun i => decide (i < n) := by
      apply Array.ext
      · rw [inv.head.size]; simp
      · intro i hi1 hi2
        rw [inv.head.size] at hi1
        simp only [Array.getElem_map, Array.getElem_range]
        rcases Nat.lt_or_ge i n with h | h
        · have := leftN_zero hz h
          rw [decide_eq_true h]
          simpa [show i < listed.size from by rw [inv.head.size]; exact hi1] using this
        · have := inv.head.tail i h hi1
          rw [decide_eq_false (by omega)]
          simpa [show i < listed.size from by rw [inv.head.size]; exact hi1] using this
    have hseq := wpAny_of_seq (md := .any) (Q' := Q) (P := P) (ops := l.toArray) (l.drop n) n listed a w' (fun j => by simp [List.getElem?_drop]) (by rw [hdl, hfin]; simpa using h5)
    rw [hdl] at hseq
    apply hseq
    have hget : ∀ j o, (l.take n)[j]? = some o → j < n ∧ l.toArray[j]? = some o := fun j o ho => by
      rw [List.getElem?_take] at ho
      split at ho
      · rename_i h; exact ⟨h, by simpa using ho⟩
      · cases ho
    have hact : a = putHead (fun t => a.eval (.tmp t)) (l.take n) base := by
      apply act_ext
      · rw [putHead_size, inv.tsize]
      · rw [putHead_defers, inv.defers]
      · intro t ht
        rw [putHead_eval _ _ _ _ (by rw [← inv.tsize]; exact ht)]
        split
        · rfl
        · rename_i hno
          refine inv.off t fun j hj hd => ?_
          exfalso
          apply hno
          obtain ⟨o, ho, hod⟩ := Option.bind_eq_some_iff.1 hd
          rw [List.any_eq_true]
          refine ⟨o, ?_, by simp [hod]⟩
          refine List.mem_of_getElem? (i := j) ?_
          rw [List.getElem?_take, if_pos hj]; simpa using ho
    rw [hact]
    refine hend _ w' inv.good (headHeld_of fun j o ho => ?_)
    obtain ⟨hj, ho'⟩ := hget j o ho
    obtain ⟨o', d, ho'', hf⟩ := headOk_spec h1 hj
    obtain rfl : o' = o := Option.some.inj (ho''.symm.trans ho')
    have := inv.rel j hj d (by simp [dstAt, ho'', hf.dst]) (leftN_zero hz hj)
    rw [hf.dst]
    exact this
end
end Go.Proofs.YtegobakoflbnfaaGreatDoor

namespace Go.Proofs.YtegobakoflbnfaaGreatDoor
open Go Go.RowKit

/-- a relation of a slot's value and the world, which new memory keeps -/
structure Rel where
  r : Value → World → Prop
  keeps : ∀ v w w', Below w.heap.size w w' → r v w → r v w'
def pick : List (Tmp × Rel) → Tmp → Value → World → Prop
  | [], _ => fun _ _ => True
  | (k, r) :: l, t => if t = k then r.r else pick l t
theorem pick_keeps : ∀ (l : List (Tmp × Rel)) (t : Tmp) (v : Value) (w w' : World), Below w.heap.size w w' → pick l t v w → pick l t v w'
  | [], _, _, _, _, _, _ => trivial
  | (k, r) :: l, t, v, w, w', hb, hp => by
    unfold pick at hp ⊢
    split
    · rename_i e; rw [if_pos e] at hp; exact r.keeps v w w' hb hp
    · rename_i e; rw [if_neg e] at hp; exact pick_keeps l t v w w' hb hp

def Is (v0 : Value) : Rel := ⟨fun v _ => v = v0, fun _ _ _ _ h => h⟩

theorem steps_cons {P : Program} {ops : Array Oper} {Q : Exit → Act → World → Prop} {n : Nat} {base : Act} {w0 : World} {R : Tmp → Value → World → Prop} {o : Oper} {l : List Oper} {k : Nat}
    (hg : o.guard = none) (h1 : StepU P ops Q n base w0 R o) (h2 : StepsInv P ops Q n base w0 R (l.take k)) : StepsInv P ops Q n base w0 R ((o :: l).take (k + 1)) := ⟨h1.inv hg, h2⟩
theorem steps_guard {P : Program} {ops : Array Oper} {Q : Exit → Act → World → Prop} {n : Nat} {base : Act} {w0 : World} {R : Tmp → Value → World → Prop} {o : Oper} {l : List Oper} {k : Nat}
    (h1 : StepInv P ops Q n base w0 R o) (h2 : StepsInv P ops Q n base w0 R (l.take k)) : StepsInv P ops Q n base w0 R ((o :: l).take (k + 1)) := ⟨h1, h2⟩

/-- the law, the relations listed by slot -/
theorem region_inv {P : Program} {Q : Exit → Act → World → Prop} {id : Nat} {base : Act} {w : World} {l : List Oper} (n N : Nat) (L : List (Tmp × Rel)) (hm : P.follows .mixedOrders = true) (hN : base.tmps.size = N) (hok : invOk .any l n N = true)
    (hstep : StepsInv P l.toArray Q n base w (pick L) (l.take n))
    (hend : ∀ (g : Tmp → Value) (w' : World), Below w.heap.size w w' → HeadHeld (pick L) g w' (l.take n) → wpList P l.toArray Q (l.drop n) (putHead g (l.take n) base) w') :
    (Code.region id l.toArray true).wp P Q base w := wp_region_inv n N (pick L) hm hN hok (pick_keeps L) hstep hend
theorem stop_op {P : Program} {ops : Array Oper} {Q : Exit → Act → World → Prop} {o : Oper} {rest : List Oper} {a : Act} {w : World} (d : Nat) (_ : o.dst = some d) (h : Hid (wpList P ops Q (o :: rest) a w)) : wpList P ops Q (o :: rest) a w := h.out
end Go.Proofs.YtegobakoflbnfaaGreatDoor
