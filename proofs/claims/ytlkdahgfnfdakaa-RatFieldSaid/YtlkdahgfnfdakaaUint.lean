import Derived.Test.YtlkdahgfnfdakaaSmall
namespace Go.Proofs.Ytlkdahgfnfdakaa
open Go.RowKit Go.Shelf WN
attribute [local go_sem] Oper.semAt_some

def UintI (w : World) (v : Value) (l : List Nat) (k : Nat) (W : World) : Prop :=
  Box W w.heap.size 64 (.int .u64 (val 1000000000 (l.drop (l.length - k)) : Nat)) ∧ Box W (w.heap.size + 1) 53 v ∧ Below w.heap.size w W

theorem val_drop_next {B : Nat} {l : List Nat} {k y : Nat} (hk : k < l.length) (hy : l[l.length - 1 - k]? = some y) : val B (l.drop (l.length - (k + 1))) = y + B * val B (l.drop (l.length - k)) := by
  have h : l.length - 1 - k < l.length := by omega
  rw [show l.length - (k + 1) = l.length - 1 - k from by omega, val_drop _ _ _ h, show l.length - 1 - k + 1 = l.length - k from by omega]
  rw [List.getElem?_eq_getElem h] at hy
  cases hy; rfl

set_option maxRecDepth 100000 in
set_option maxHeartbeats 1000000 in
theorem toUint_any (oa : Option Addr) (l : List Nat) (n cap : Nat) (hlen : n ≤ 2) (hd : Digs 1000000000 l) (w : World) (hr : Rep w .u32 (.slice oa n cap) l) :
    Calls Try.prog 126 #[.slice oa n cap] w fun e w' => e = .returned (.int .u64 (val 1000000000 l : Nat)) ∧ Below w.heap.size w w' := by
  obtain ⟨rfl, _⟩ := hr.len
  have Hr := Lib.hid hr; clear hr
  have Hd := Lib.hid hd; clear hd
  refine (callsIn_wide (n := 5)).1 ?_
  refine callsIn_of_wp_marks Try.func126 rfl trivial ?_ rfl
  simp only [Try.ntmps126, List.size_toArray, List.length_cons, List.length_nil, Nat.reduceAdd, Nat.reduceSub, Array.replicate_succ, Array.replicate_zero, List.push_toArray, List.append_toArray, List.nil_append, List.cons_append]
  gi_wp2_with (refine ⟨trivial, ?_⟩; gi_at_call 129; refine (callsIn_wide.2 (down_any _ _ _ _)).mono ?_; rintro e w' ⟨rfl, rfl⟩)
  have b1 : Box ((w.alloc (.cells #[.int .u64 0] 64)).alloc (.cells #[.slice oa l.length cap] 53)) w.heap.size 64 (.int .u64 0) := (Box.new w 64 _).alloc _
  have b3 : Box ((w.alloc (.cells #[.int .u64 0] 64)).alloc (.cells #[.slice oa l.length cap] 53)) (w.heap.size + 1) 53 (.slice oa l.length cap) := by
    have := Box.new (w.alloc (.cells #[.int .u64 0] 64)) 53 (.slice oa l.length cap); rw [World.size_alloc] at this; exact this
  have b4 : Below w.heap.size w ((w.alloc (.cells #[.int .u64 0] 64)).alloc (.cells #[.slice oa l.length cap] 53)) := ((Below.refl _ w).alloc (Nat.le_refl _) _).alloc (by simp) _
  have hsz : ((w.alloc (.cells #[.int .u64 0] 64)).alloc (.cells #[.slice oa l.length cap] 53)).heap.size = w.heap.size + 1 + 1 := by simp
  generalize ((w.alloc (.cells #[.int .u64 0] 64)).alloc (.cells #[.slice oa l.length cap] 53)) = W0 at *
  refine wpIn_down 5 (w.heap.size + 1) oa l.length cap (by omega) rfl rfl (UintI w (.slice oa l.length cap) l) (fun _ _ => False) ?hI ?hIx (fun k W h => Hr.out.reads h.2.2 h.2.1 k) ⟨by simpa using b1, b3, b4⟩
    (fun k x => { tmps := #[.slice oa l.length cap, undef, .int .u64 0, .pointer (some ⟨w.heap.size, 0, none⟩), undef, .int .u32 x, .slice oa l.length cap,
      .func (.func 136) #[] #[.pointer (some ⟨w.heap.size + 1, 0, none⟩)], .int .i64 ((l.length - 1 - k : Nat) : Int), .int .u32 x, undef, undef, undef, undef, undef, undef], defers := [] }) ?assign ?body ?done ?stop
  case hI => exact fun k W W' ⟨h1, h2, h3⟩ t => ⟨h1.turn t, h2.turn t, h3.trans (t.below.mono (by omega))⟩
  case hIx => exact fun c W W' h t => h
  case assign =>
    intro _ k x W K hK
    gi_wp2
    exact hK
  case body =>
    rintro _ k b off x W ⟨h1, h2, h3⟩ hk hoa hx
    obtain ⟨y, hy, rfl⟩ := Hr.out.word h3 hk hoa hx
    have hy9 : y < 1000000000 := Hd.out y (List.mem_of_getElem? hy)
    have hv := val_drop_next (B := 1000000000) hk hy
    have hlt : val 1000000000 (l.drop (l.length - k)) < 1000000000 ^ (l.drop (l.length - k)).length := val_lt (by omega) (Hd.out.drop _)
    rw [List.length_drop, show l.length - (l.length - k) = k from by omega] at hlt
    have hlt2 : val 1000000000 (l.drop (l.length - k)) < 1000000000 := Nat.lt_of_lt_of_le hlt (by
      have : k = 0 ∨ k = 1 := by omega
      rcases this with rfl | rfl <;> simp)
    clear hlt hy hx hoa
    have hs : Box (W.setCell ⟨w.heap.size, 0, none⟩ (.int .u64 (val 1000000000 (l.drop (l.length - (k + 1))) : Nat))) w.heap.size 64 (.int .u64 (val 1000000000 (l.drop (l.length - (k + 1))) : Nat)) := h1.set _
    have Hs := Lib.hid hs; clear hs
    generalize val 1000000000 (l.drop (l.length - k)) = z at *
    have Hv := Lib.hid hv; clear hv
    have hz : 0 ≤ (z : Int) * 1000000000 := by omega
    have c1 := h1.cell
    have f1 := h1.free
    gi_wp2
    have e : Value.int .u64 (↑z * 1000000000 + ↑y) = .int .u64 (val 1000000000 (l.drop (l.length - (k + 1))) : Nat) := u64_eq (by rw [Hv.out]; omega)
    rw [e]
    exact ⟨KeepsOthers.setCell _ _ _, Hs.out, h2.other _ _ (by simp), h3.setCell (p := ⟨w.heap.size, 0, none⟩) (Nat.le_refl _) _⟩
  case done =>
    rintro E W hE ⟨h1, h2, h3⟩ hd
    have c1 := h1.cell
    gi_wp2
    have t := Turn.put (B := w.heap.size) (.deferred none) (by omega) hd rfl
    refine ⟨by simp, .inl ⟨_, _, rfl, run_takeDeferred hd, _, results_tmp rfl _ _ _, ?_⟩⟩
    exact ⟨by simp, h3.trans t.below⟩
  case stop =>
    rintro E c W hE h hd
    exact h.elim
end Go.Proofs.Ytlkdahgfnfdakaa
