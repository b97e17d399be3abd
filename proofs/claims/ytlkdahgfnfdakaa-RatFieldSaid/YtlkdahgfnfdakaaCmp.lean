import Derived.Test.YtlkdahgfnfdakaaSmall
namespace Go.Proofs.Ytlkdahgfnfdakaa
open Go.RowKit Go.Shelf WN
attribute [local go_sem] Oper.semAt_some

def cmpN (x y : Nat) : Int := if x < y then -1 else if y < x then 1 else 0

theorem cmpN_len {la lb : List Nat} (ca : Canon 1000000000 la) (cb : Canon 1000000000 lb) (h : la.length < lb.length) : val 1000000000 la < val 1000000000 lb := by
  have h1 := val_lt (B := 1000000000) (by omega) ca.1
  have h2 := pow_le_val (B := 1000000000) cb.2 (by intro e; subst e; simp at h)
  have h3 : 1000000000 ^ la.length ≤ 1000000000 ^ (lb.length - 1) := Nat.pow_le_pow_right (by omega) (by omega)
  omega

theorem cmpN_at {la lb : List Nat} (ca : Digs 1000000000 la) (cb : Digs 1000000000 lb) (hl : la.length = lb.length) {i x y : Nat} (hi : i < la.length) (hx : la[i]? = some x) (hy : lb[i]? = some y)
    (ht : la.drop (i + 1) = lb.drop (i + 1)) (hxy : x < y) : val 1000000000 la < val 1000000000 lb := by
  have hi2 : i < lb.length := hl ▸ hi
  rw [val_take_drop _ la i (by omega), val_take_drop _ lb i (by omega), val_drop _ _ _ hi, val_drop _ _ _ hi2, ht]
  rw [List.getElem?_eq_getElem hi] at hx
  rw [List.getElem?_eq_getElem hi2] at hy
  have hx := Option.some.inj hx
  have hy := Option.some.inj hy
  subst hx; subst hy
  have h1 := val_lt (B := 1000000000) (by omega) (ca.take i)
  rw [List.length_take, Nat.min_eq_left (by omega)] at h1
  generalize 1000000000 ^ i = P at *
  generalize val 1000000000 (lb.drop (i + 1)) = T at *
  generalize la[i] = x at *
  generalize lb[i] = y at *
  have h2 : P * (x + 1) ≤ P * y := Nat.mul_le_mul_left P hxy
  rw [Nat.mul_add, Nat.mul_add]
  rw [Nat.mul_add] at h2
  omega

def CmpOut (w : World) (la lb : List Nat) (e : Ending) (w' : World) : Prop := e = .returned (.int .i64 (cmpN (val 1000000000 la) (val 1000000000 lb))) ∧ Below w.heap.size w w'

def CmpI (w : World) (va vb : Value) (la lb : List Nat) (k : Nat) (W : World) : Prop :=
  Box W w.heap.size 53 vb ∧ Box W (w.heap.size + 1) 3 (.int .i64 0) ∧ Box W (w.heap.size + 1 + 1) 53 va ∧ Below w.heap.size w W ∧ la.drop (la.length - k) = lb.drop (la.length - k)
def CmpX (w : World) (r : Int) (c : Code) (W : World) : Prop := c = .ret ∧ Box W (w.heap.size + 1) 3 (.int .i64 r) ∧ Below w.heap.size w W

set_option maxRecDepth 100000 in
set_option maxHeartbeats 1000000 in
theorem compare_any (oa ob : Option Addr) (la lb : List Nat) (na ca nb cb : Nat) (hla : na ≤ 100000000000) (hlb : nb ≤ 100000000000) (da : Canon 1000000000 la) (db : Canon 1000000000 lb) (w : World)
    (hra : Rep w .u32 (.slice oa na ca) la) (hrb : Rep w .u32 (.slice ob nb cb) lb) :
    Calls Try.prog 118 #[.slice oa na ca, .slice ob nb cb] w (CmpOut w la lb) := by
  have ea := hra.len
  have eb := hrb.len
  have Ha := Lib.hid hra; clear hra
  have Hb := Lib.hid hrb; clear hrb
  have Da := Lib.hid da; clear da
  have Db := Lib.hid db; clear db
  obtain ⟨rfl, _⟩ := ea
  obtain ⟨rfl, _⟩ := eb
  by_cases h1 : la.length < lb.length
  · have hc : Hid (cmpN (val 1000000000 la) (val 1000000000 lb) = -1) := by show _ = _; simp [cmpN, cmpN_len Da.out Db.out h1]
    go_enter Try.func118, Try.ntmps118
    go_wp2
    refine bodyPost_ret (v := .int .i64 (-1)) (by simp [results, Try.f118, go_sem]) rfl ⟨by rw [hc.out], ?_⟩
    exact (((Below.refl _ w).alloc (Nat.le_refl _) _).alloc (by simp) _)
  by_cases h2 : lb.length < la.length
  · have hc : Hid (cmpN (val 1000000000 la) (val 1000000000 lb) = 1) := by
      show _ = _
      have := cmpN_len Db.out Da.out h2
      unfold cmpN; rw [if_neg (by omega), if_pos this]
    go_enter Try.func118, Try.ntmps118
    go_wp2
    refine bodyPost_ret (v := .int .i64 1) (by simp [results, Try.f118, go_sem]) rfl ⟨by rw [hc.out], ?_⟩
    exact (((Below.refl _ w).alloc (Nat.le_refl _) _).alloc (by simp) _)
  refine (callsIn_wide (n := 5)).1 ?_
  refine callsIn_of_wp_marks Try.func118 rfl trivial ?_ rfl
  simp only [Try.ntmps118, List.size_toArray, List.length_cons, List.length_nil, Nat.reduceAdd, Nat.reduceSub, Array.replicate_succ, Array.replicate_zero, List.push_toArray, List.append_toArray, List.nil_append, List.cons_append]
  gi_wp2_with (refine ⟨trivial, ?_⟩; gi_at_call 129; refine (callsIn_wide.2 (down_any _ _ _ _)).mono ?_; rintro e w' ⟨rfl, rfl⟩)
  obtain ⟨W0, hW0⟩ : ∃ W0, W0 = ((w.alloc (.cells #[.slice ob lb.length cb] 53)).alloc (.cells #[.int .i64 0] 3)).alloc (.cells #[.slice oa la.length ca] 53) := ⟨_, rfl⟩
  rw [← hW0]
  have b1 : Box W0 w.heap.size 53 (.slice ob lb.length cb) := by rw [hW0]; exact ((Box.new w 53 _).alloc _).alloc _
  have b2 : Box W0 (w.heap.size + 1) 3 (.int .i64 0) := by
    have := Box.new (w.alloc (.cells #[.slice ob lb.length cb] 53)) 3 (.int .i64 0); rw [World.size_alloc] at this; rw [hW0]; exact this.alloc _
  have b3 : Box W0 (w.heap.size + 1 + 1) 53 (.slice oa la.length ca) := by
    have := Box.new ((w.alloc (.cells #[.slice ob lb.length cb] 53)).alloc (.cells #[.int .i64 0] 3)) 53 (.slice oa la.length ca); rw [World.size_alloc, World.size_alloc] at this; rw [hW0]; exact this
  have b4 : Below w.heap.size w W0 := by rw [hW0]; exact (((Below.refl _ w).alloc (Nat.le_refl _) _).alloc (by simp) _).alloc (by simp; omega) _
  have hsz : W0.heap.size = w.heap.size + 1 + 1 + 1 := by rw [hW0]; simp
  clear hW0
  have hll : la.length = lb.length := by omega
  have hdd : la.drop (la.length - 0) = lb.drop (la.length - 0) := by rw [Nat.sub_zero, List.drop_length, hll, List.drop_length]
  have Hl := Lib.hid hll; clear hll
  refine wpIn_down 5 (w.heap.size + 1 + 1) oa la.length ca (by omega) rfl rfl (CmpI w (.slice oa la.length ca) (.slice ob lb.length cb) la lb) (CmpX w (cmpN (val 1000000000 la) (val 1000000000 lb))) ?hI ?hIx (fun k W h => Ha.out.reads h.2.2.2.1 h.2.2.1 k)
    ⟨b1, b2, b3, b4, hdd⟩
    (fun k x => { tmps := #[.slice oa la.length ca, .slice ob lb.length cb, undef, .pointer (some ⟨w.heap.size, 0, none⟩), .pointer (some ⟨w.heap.size + 1, 0, none⟩), .int .i64 ((la.length - 1 - k : Nat) : Int), .int .u32 x, .slice oa la.length ca,
      .int .i64 la.length, .slice ob lb.length cb, .int .i64 lb.length, .bool false, .slice oa la.length ca, .int .i64 la.length, .slice ob lb.length cb, .int .i64 lb.length, .bool false, .slice oa la.length ca,
      .func (.func 136) #[] #[.pointer (some ⟨w.heap.size + 1 + 1, 0, none⟩)], .int .i64 ((la.length - 1 - k : Nat) : Int), .int .u32 x, undef, undef, undef, undef, undef, undef, undef, undef, undef, undef, undef, undef], defers := [] }) ?assign ?body ?done ?stop
  case hI => exact fun k W W' ⟨h1, h2, h3, h4, h5⟩ t => ⟨h1.turn t, h2.turn t, h3.turn t, h4.trans (t.below.mono (by omega)), h5⟩
  case hIx => exact fun c W W' ⟨h1, h2, h3⟩ t => ⟨h1, h2.turn t, h3.trans (t.below.mono (by omega))⟩
  case assign =>
    intro _ k x W K hK
    gi_wp2
    exact hK
  case body =>
    rintro _ k b off x W ⟨g1, g2, g3, g4, g5⟩ hk hoa hx
    obtain ⟨x, hwx, rfl⟩ := Ha.out.word g4 hk hoa hx
    clear hx hdd
    obtain ⟨b', off', rfl, _, hcy⟩ := Hb.out.at' g4 (la.length - 1 - k) (by have := Hl.out; omega)
    have hy : lb[la.length - 1 - k]? = some (lb[la.length - 1 - k]'(by have := Hl.out; omega)) := List.getElem?_eq_getElem _
    generalize lb[la.length - 1 - k]'_ = y at *
    have Hx := Lib.hid hwx; clear hwx
    have Hy := Lib.hid hy; clear hy
    have Hg := Lib.hid g5; clear g5
    have c1 := g1.cell
    have c2 := g2.cell
    have f2 := g2.free
    clear b1 b2 b3 hoa
    have hib : la.length - 1 - k < lb.length := by have := Hl.out; omega
    have e1 : ((la.length - 1 - k : Nat) : Int) = (la.length : Int) - 1 - k := by omega
    rw [e1]
    clear e1
    have ht : la.drop (la.length - 1 - k + 1) = lb.drop (la.length - 1 - k + 1) := by rw [show la.length - 1 - k + 1 = la.length - k from by omega]; exact Hg.out
    have Ht := Lib.hid ht; clear ht
    by_cases hxy : x < y
    · have hc : Hid (cmpN (val 1000000000 la) (val 1000000000 lb) = -1) := by
        show _ = _
        have := cmpN_at Da.out.1 Db.out.1 Hl.out (by omega) Hx.out Hy.out Ht.out hxy
        unfold cmpN; rw [if_pos this]
      gi_wp2
      exact ⟨KeepsOthers.setCell _ _ _, rfl, by rw [hc.out]; exact g2.set _, g4.setCell (p := ⟨w.heap.size + 1, 0, none⟩) (by simp) _⟩
    by_cases hyx : y < x
    · have hc : Hid (cmpN (val 1000000000 la) (val 1000000000 lb) = 1) := by
        show _ = _
        have := cmpN_at Db.out.1 Da.out.1 Hl.out.symm (by have := Hl.out; omega) Hy.out Hx.out Ht.out.symm hyx
        unfold cmpN; rw [if_neg (by omega), if_pos this]
      gi_wp2
      exact ⟨KeepsOthers.setCell _ _ _, rfl, by rw [hc.out]; exact g2.set _, g4.setCell (p := ⟨w.heap.size + 1, 0, none⟩) (by simp) _⟩
    · gi_wp2
      refine ⟨KeepsOthers.refl _, g1, g2, g3, g4, ?_⟩
      have hxy2 : x = y := by omega
      have hX := Hx.out
      have hY := Hy.out
      rw [show la.length - (k + 1) = la.length - 1 - k from by omega]
      rw [List.getElem?_eq_getElem (by omega)] at hX
      rw [List.getElem?_eq_getElem hib] at hY
      rw [List.drop_eq_getElem_cons (by omega : la.length - 1 - k < la.length), List.drop_eq_getElem_cons hib, Option.some.inj hX, Option.some.inj hY, Ht.out, hxy2]
  case done =>
    rintro E W hE ⟨g1, g2, g3, g4, g5⟩ hd
    have c2 := g2.cell
    have f2 := g2.free
    clear b1 b2 b3 hdd
    have hc : Hid (cmpN (val 1000000000 la) (val 1000000000 lb) = 0) := by
      show _ = _
      rw [Nat.sub_self, List.drop_zero, List.drop_zero] at g5
      rw [g5]; simp [cmpN]
    clear g5
    gi_wp2
    have hd' := (KeepsOthers.setCell W ⟨w.heap.size + 1, 0, none⟩ (.int .i64 0)).same E _ hd rfl
    have t := Turn.put (B := w.heap.size) (.deferred none) (by omega) hd' rfl
    have hc5 := ((g2.set (.int .i64 0)).turn t).cell
    refine ⟨by simp, .inl ⟨_, _, rfl, run_takeDeferred hd', .int .i64 0, by simp [results, Try.f118, go_sem, hc5], ?_⟩⟩
    exact ⟨by rw [hc.out], (g4.setCell (p := ⟨w.heap.size + 1, 0, none⟩) (by simp) _).trans t.below⟩
  case stop =>
    rintro E c W hE ⟨rfl, h2, h3⟩ hd
    gi_wp2
    have t := Turn.put (B := w.heap.size) (.deferred none) (by omega) hd rfl
    have hc5 := (h2.turn t).cell
    refine ⟨by simp, .inl ⟨_, _, rfl, run_takeDeferred hd, _, by simp [results, Try.f118, go_sem, hc5]; rfl, ?_⟩⟩
    exact ⟨rfl, h3.trans t.below⟩
end Go.Proofs.Ytlkdahgfnfdakaa
