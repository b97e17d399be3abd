import Derived.Test.YtlkdahgfnfdakaaDown
import Derived.Test.YtlkdahgfnfdakaaWNat
namespace Go.Proofs.Ytlkdahgfnfdakaa
open Go.RowKit Go.Shelf WN
attribute [local go_sem] Oper.semAt_some

def TrimOut (w : World) (l : List Nat) (e : Ending) (w' : World) : Prop := ∃ v, e = .returned v ∧ Rep w' .u32 v (trim l) ∧ Below w.heap.size w w'

def TrimI (w : World) (oa : Option Addr) (l : List Nat) (cap : Nat) (k : Nat) (W : World) : Prop :=
  Box W w.heap.size 53 (.slice oa l.length cap) ∧ Box W (w.heap.size + 1) 53 (.slice none 0 0) ∧ Box W (w.heap.size + 1 + 1) 53 (.slice oa l.length cap) ∧
    Rep W .u32 (.slice oa l.length cap) l ∧ Below w.heap.size w W ∧ ∀ j (hj : j < l.length), l.length ≤ j + k → l[j] = 0
def TrimX (w : World) (l : List Nat) (c : Code) (W : World) : Prop := c = .ret ∧ ∃ v, Box W (w.heap.size + 1) 53 v ∧ Rep W .u32 v (trim l) ∧ Below w.heap.size w W

theorem TrimI.reads {w : World} {oa : Option Addr} {l : List Nat} {cap k : Nat} {W : World} (h : TrimI w oa l cap k W) : Reads (w.heap.size + 1 + 1) oa l.length cap k W := by
  obtain ⟨_, _, h3, hr, _, _⟩ := h
  refine ⟨h3.cell, fun hk => ?_⟩
  obtain ⟨oa', cap', he, _, hcell⟩ := hr
  cases he
  obtain ⟨b, off, rfl, hc⟩ := hcell (l.length - 1 - k) (by omega)
  exact ⟨b, off, _, rfl, hc⟩

set_option maxRecDepth 100000 in
set_option maxHeartbeats 1000000 in
theorem trimmed_any (oa : Option Addr) (l : List Nat) (cap : Nat) (hlen : l.length ≤ 1000000000000) (w : World) (hr : Rep w .u32 (.slice oa l.length cap) l) :
    Calls Try.prog 130 #[.slice oa l.length cap] w (TrimOut w l) := by
  refine (callsIn_wide (n := 5)).1 ?_
  refine callsIn_of_wp_marks Try.func130 rfl trivial ?_ rfl
  simp only [Try.ntmps130, List.size_toArray, List.length_cons, List.length_nil, Nat.reduceAdd, Nat.reduceSub, Array.replicate_succ, Array.replicate_zero, List.push_toArray, List.append_toArray, List.nil_append, List.cons_append]
  gi_wp2_with (refine ⟨trivial, ?_⟩; gi_at_call 129; refine (callsIn_wide.2 (down_any _ _ _ _)).mono ?_; rintro e w' ⟨rfl, rfl⟩)
  have b1 : Box (((w.alloc (.cells #[.slice oa l.length cap] 53)).alloc (.cells #[.slice none 0 0] 53)).alloc (.cells #[.slice oa l.length cap] 53)) w.heap.size 53 (.slice oa l.length cap) := ((Box.new w 53 _).alloc _).alloc _
  have b2 : Box (((w.alloc (.cells #[.slice oa l.length cap] 53)).alloc (.cells #[.slice none 0 0] 53)).alloc (.cells #[.slice oa l.length cap] 53)) (w.heap.size + 1) 53 (.slice none 0 0) := by
    have := Box.new (w.alloc (.cells #[.slice oa l.length cap] 53)) 53 (.slice none 0 0); rw [World.size_alloc] at this; exact this.alloc _
  have b3 : Box (((w.alloc (.cells #[.slice oa l.length cap] 53)).alloc (.cells #[.slice none 0 0] 53)).alloc (.cells #[.slice oa l.length cap] 53)) (w.heap.size + 1 + 1) 53 (.slice oa l.length cap) := by
    have := Box.new ((w.alloc (.cells #[.slice oa l.length cap] 53)).alloc (.cells #[.slice none 0 0] 53)) 53 (.slice oa l.length cap); rw [World.size_alloc, World.size_alloc] at this; exact this
  have b4 : Below w.heap.size w (((w.alloc (.cells #[.slice oa l.length cap] 53)).alloc (.cells #[.slice none 0 0] 53)).alloc (.cells #[.slice oa l.length cap] 53)) := (((Below.refl _ w).alloc (Nat.le_refl _) _).alloc (by simp) _).alloc (by simp; omega) _
  have b5 := hr.below b4 (Nat.le_refl _)
  have hsz : (((w.alloc (.cells #[.slice oa l.length cap] 53)).alloc (.cells #[.slice none 0 0] 53)).alloc (.cells #[.slice oa l.length cap] 53)).heap.size = w.heap.size + 1 + 1 + 1 := by simp
  have hcap : l.length ≤ cap := by obtain ⟨_, _, he, hc, _⟩ := hr; cases he; exact hc
  generalize (((w.alloc (.cells #[.slice oa l.length cap] 53)).alloc (.cells #[.slice none 0 0] 53)).alloc (.cells #[.slice oa l.length cap] 53)) = W0 at *
  refine wpIn_down 5 (w.heap.size + 1 + 1) oa l.length cap hlen rfl rfl (TrimI w oa l cap) (TrimX w l) ?hI ?hIx (fun k W h => h.reads) ⟨b1, b2, b3, b5, b4, fun j hj h => by omega⟩
    (fun k x => { tmps := #[.slice oa l.length cap, .pointer (some ⟨w.heap.size, 0, none⟩), .pointer (some ⟨w.heap.size + 1, 0, none⟩), .int .i64 ((l.length - 1 - k : Nat) : Int), .int .u32 x, .slice oa l.length cap,
      .func (.func 136) #[] #[.pointer (some ⟨w.heap.size + 1 + 1, 0, none⟩)], .int .i64 ((l.length - 1 - k : Nat) : Int), .int .u32 x, undef, undef, undef, undef, undef, undef], defers := [] }) ?assign ?body ?done ?stop
  case hI => exact fun k W W' ⟨h1, h2, h3, h4, h5, h6⟩ t => ⟨h1.turn t, h2.turn t, h3.turn t, h4.turn t, h5.trans (t.below.mono (by omega)), h6⟩
  case hIx => exact fun c W W' ⟨h1, v, h2, h3, h4⟩ t => ⟨h1, v, h2.turn t, h3.turn t, h4.trans (t.below.mono (by omega))⟩
  case assign =>
    intro _ k x W K hK
    gi_wp2
    exact hK
  case body =>
    rintro _ k b off x W ⟨h1, h2, h3, h4, h5, h6⟩ hk rfl hx
    have c1 := h1.cell
    have c2 := h2.cell
    have f2 := h2.free
    have hxl : x = (l[l.length - 1 - k]'(by omega) : Nat) := by
      obtain ⟨oa', cap', he, _, hcell⟩ := h4
      cases he
      obtain ⟨b', off', he, hc⟩ := hcell (l.length - 1 - k) (by omega)
      cases he
      rw [hx] at hc
      simpa using hc
    have Hx := Lib.hid hxl; clear hxl hx
    have e1 : ((l.length - 1 - k : Nat) : Int) = (l.length : Int) - 1 - k := by omega
    rw [e1]
    clear e1
    by_cases hz : x = 0
    · have hz' : (x != 0) = false := by rw [hz]; rfl
      have Hz := Lib.hid hz; clear hz
      gi_wp2
      refine ⟨KeepsOthers.refl _, h1, h2, h3, h4, h5, fun j hj hjk => ?_⟩
      rcases Nat.lt_or_ge j (l.length - k) with h | h
      · have : j = l.length - 1 - k := by omega
        subst this
        have := Hx.out; rw [Hz.out] at this; omega
      · exact h6 j hj (by omega)
    · have hz' : (x != 0) = true := by rw [bne_iff_ne]; exact hz
      have Hz := Lib.hid hz; clear hz
      have Hr := Lib.hid hr
      clear hr b5
      gi_wp2
      refine ⟨KeepsOthers.setCell _ _ _, rfl, _, h2.set _, ?_, h5.setCell (p := ⟨w.heap.size + 1, 0, none⟩) (by simp) _⟩
      rw [trim_top (m := l.length - 1 - k) (by omega) (fun j hj h => h6 j hj (by omega)) (fun h => Hz.out (by rw [Hx.out, h]; rfl))]
      exact (Hr.out.below (h5.setCell (p := ⟨w.heap.size + 1, 0, none⟩) (by simp) _) (Nat.le_refl _)).take _ (by omega)
  case done =>
    rintro E W hE ⟨h1, h2, h3, h4, h5, h6⟩ hd
    have c2 := h2.cell
    have f2 := h2.free
    clear hr b5
    gi_wp2
    have hd' := (KeepsOthers.setCell W ⟨w.heap.size + 1, 0, none⟩ (.slice none 0 0)).same E _ hd rfl
    have t := Turn.put (B := w.heap.size) (.deferred none) (by omega) hd' rfl
    have hb := (h2.set (.slice none 0 0)).turn t
    have hc5 := hb.cell
    refine ⟨by simp, .inl ⟨_, _, rfl, run_takeDeferred hd', .slice none 0 0, by simp [results, Try.f130, go_sem, hc5], ?_⟩⟩
    exact ⟨_, rfl, by rw [trim_zeros fun j hj => h6 j hj (by omega)]; exact Rep.nil _ _, (h5.setCell (p := ⟨w.heap.size + 1, 0, none⟩) (by simp) _).trans t.below⟩
  case stop =>
    rintro E c W hE ⟨rfl, v, h2, h3, h4⟩ hd
    gi_wp2
    have t := Turn.put (B := w.heap.size) (.deferred none) (by omega) hd rfl
    have hc5 := (h2.turn t).cell
    refine ⟨by simp, .inl ⟨_, _, rfl, run_takeDeferred hd, v, ?_, ?_⟩⟩
    · obtain ⟨oa', cap', rfl, _⟩ := h3
      simp [results, Try.f130, go_sem, hc5]
    · exact ⟨_, rfl, h3.turn t, h4.trans t.below⟩
end Go.Proofs.Ytlkdahgfnfdakaa
