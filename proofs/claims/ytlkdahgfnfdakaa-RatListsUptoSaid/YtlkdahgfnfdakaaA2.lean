/- subtractTimes, addBack, guess: what long division does with a part of the rest. Numbers in memory, and what the functions of words do with them. -/
import Derived.Test.YtlkdahgfnfdakaaA1
import Derived.Deep.QuietTactic
import Derived.BigQuiet
import Derived.BigRegionIn
import Derived.Deep.Cut
import Derived.Deep.RegionWith
import Derived.Laws.CopyOwn
namespace Go.Proofs.Ytlkdahgfnfdakaa
open Go.RowKit Go.Shelf WN
attribute [local go_sem] Oper.semAt_some

def OverWI (w : World) (va : Value) (l : List Nat) (b : Nat) (k : Nat) (W : World) : Prop :=
  ∃ qs r, qs.length = k ∧ Digs 1000000000 qs ∧ r < b ∧ val 1000000000 (l.drop (l.length - k)) = b * val 1000000000 qs + r ∧
    Row W (w.heap.size + 1) .u32 117 (List.replicate (l.length - k) 0 ++ qs) ∧ Box W w.heap.size 117 (.int .u32 (b : Nat)) ∧ Box W (w.heap.size + 1 + 1) 53 (.slice (some ⟨w.heap.size + 1, 0, none⟩) l.length l.length) ∧
    Box W (w.heap.size + 1 + 1 + 1) 64 (.int .u64 (r : Nat)) ∧ Box W (w.heap.size + 1 + 1 + 1 + 1) 53 va ∧ Below w.heap.size w W

def OverWOut (w : World) (l : List Nat) (b : Nat) (e : Ending) (w' : World) : Prop :=
  ∃ v q, e = .returned (.tuple #[v, .int .u32 (val 1000000000 l % b : Nat)]) ∧ Rep w' .u32 v q ∧ Canon 1000000000 q ∧ val 1000000000 q = val 1000000000 l / b ∧ Below w.heap.size w w'

theorem set_prev {qs : List Nat} {k n : Nat} (hk : k < n) (d : Nat) : (List.replicate (n - k) 0 ++ qs).set (n - 1 - k) d = List.replicate (n - (k + 1)) 0 ++ (d :: qs) := by
  obtain ⟨m, hm⟩ : ∃ m, n - k = m + 1 := ⟨n - k - 1, by omega⟩
  rw [hm, show n - 1 - k = m from by omega, show n - (k + 1) = m from by omega, List.replicate_succ', List.append_assoc, List.set_append_right _ _ (by simp)]
  simp

theorem OverWI.step {w W : World} {va : Value} {l : List Nat} {b k x : Nat} (hk : k < l.length) (hb : 0 < b) (hx : l[l.length - 1 - k]? = some x) (hx9 : x < 1000000000)
    {qs : List Nat} {r : Nat} (h1 : qs.length = k) (h2 : Digs 1000000000 qs) (h3 : r < b) (h4 : val 1000000000 (l.drop (l.length - k)) = b * val 1000000000 qs + r) (h5 : Row W (w.heap.size + 1) .u32 117 (List.replicate (l.length - k) 0 ++ qs))
    (h6 : Box W w.heap.size 117 (.int .u32 (b : Nat))) (h7 : Box W (w.heap.size + 1 + 1) 53 (.slice (some ⟨w.heap.size + 1, 0, none⟩) l.length l.length))
    (h8 : Box W (w.heap.size + 1 + 1 + 1) 64 (.int .u64 (r : Nat))) (h9 : Box W (w.heap.size + 1 + 1 + 1 + 1) 53 va) (h10 : Below w.heap.size w W) :
    OverWI w va l b (k + 1) ((W.setCell ⟨w.heap.size + 1, l.length - 1 - k, none⟩ (.int .u32 ((r * 1000000000 + x) / b : Nat))).setCell ⟨w.heap.size + 1 + 1 + 1, 0, none⟩ (.int .u64 ((r * 1000000000 + x) % b : Nat))) := by
  have hd : (r * 1000000000 + x) / b < 1000000000 := by
    rw [Nat.div_lt_iff_lt_mul hb]
    have : (r + 1) * 1000000000 ≤ b * 1000000000 := Nat.mul_le_mul_right _ h3
    rw [Nat.mul_comm 1000000000]; omega
  refine ⟨(r * 1000000000 + x) / b :: qs, (r * 1000000000 + x) % b, by simp [h1], h2.cons hd, Nat.mod_lt _ hb, ?_, ?_, ?_, ?_, ?_, ?_, ?_⟩
  · rw [val_drop_next hk hx, h4, val_cons]
    have e := Nat.div_add_mod (r * 1000000000 + x) b
    rw [Nat.mul_add, Nat.mul_add, Nat.mul_left_comm]
    generalize 1000000000 * (b * val 1000000000 qs) = z1 at *
    rw [show b * (1000000000 * val 1000000000 qs) = 1000000000 * (b * val 1000000000 qs) from Nat.mul_left_comm _ _ _]
    omega
  · have := (h5.set (l.length - 1 - k) ((r * 1000000000 + x) / b)).other ⟨w.heap.size + 1 + 1 + 1, 0, none⟩ (.int .u64 ((r * 1000000000 + x) % b : Nat)) (by simp <;> omega)
    rwa [set_prev hk] at this
  · exact (h6.other _ _ (by simp <;> omega)).other _ _ (by simp <;> omega)
  · exact (h7.other _ _ (by simp <;> omega)).other _ _ (by simp <;> omega)
  · exact (h8.other _ _ (by simp <;> omega)).set _
  · exact (h9.other _ _ (by simp <;> omega)).other _ _ (by simp <;> omega)
  · exact (h10.setCell (p := ⟨w.heap.size + 1, _, none⟩) (by simp <;> omega) _).setCell (p := ⟨w.heap.size + 1 + 1 + 1, 0, none⟩) (by simp <;> omega) _

set_option maxRecDepth 100000 in
set_option maxHeartbeats 1000000 in
theorem overWord_any (oa : Option Addr) (l : List Nat) (n cap b : Nat) (hlen : n ≤ 100000000000) (hb0 : 0 < b) (hb9 : b < 1000000000) (hd : Digs 1000000000 l) (w : World) (hr : Rep w .u32 (.slice oa n cap) l) :
    Calls Try.prog 131 #[.slice oa n cap, .int .u32 (b : Nat)] w (OverWOut w l b) := by
  obtain ⟨rfl, _⟩ := hr.len
  have Hr := Lib.hid hr; clear hr
  have Hd := Lib.hid hd; clear hd
  have hmk := fun w => make_words w l.length l.length (by omega) (by omega) (by omega)
  refine (callsIn_wide (n := 5)).1 ?_
  refine callsIn_of_wp_marks Try.func131 rfl trivial ?_ rfl
  simp only [Try.ntmps131, List.size_toArray, List.length_cons, List.length_nil, Nat.reduceAdd, Nat.reduceSub, Array.replicate_succ, Array.replicate_zero, List.push_toArray, List.append_toArray, List.nil_append, List.cons_append]
  gi_wp2_with (refine ⟨trivial, ?_⟩; gi_at_call 129; refine (callsIn_wide.2 (down_any _ _ _ _)).mono ?_; rintro e w' ⟨rfl, rfl⟩)
  obtain ⟨W0, hW0⟩ : ∃ W0, W0 = ((((w.alloc (.cells #[.int .u32 (b : Nat)] 117)).alloc (.cells (ns .u32 (List.replicate l.length 0)) 117)).alloc (.cells #[.slice (some ⟨w.heap.size + 1, 0, none⟩) l.length l.length] 53)).alloc
      (.cells #[.int .u64 0] 64)).alloc (.cells #[.slice oa l.length cap] 53) := ⟨_, rfl⟩
  rw [← hW0]
  have b1 : Box W0 w.heap.size 117 (.int .u32 (b : Nat)) := by
    rw [hW0]; unfold Box; rw [alloc_lt _ _ _ (by simp <;> omega), alloc_lt _ _ _ (by simp <;> omega), alloc_lt _ _ _ (by simp <;> omega), alloc_lt _ _ _ (by simp)]; exact alloc_at _ _ _ (by simp)
  have b2 : Row W0 (w.heap.size + 1) .u32 117 (List.replicate l.length 0) := by
    rw [hW0]; unfold Row; rw [alloc_lt _ _ _ (by simp <;> omega), alloc_lt _ _ _ (by simp <;> omega), alloc_lt _ _ _ (by simp)]; exact alloc_at _ _ _ (by simp)
  have b3 : Box W0 (w.heap.size + 1 + 1) 53 (.slice (some ⟨w.heap.size + 1, 0, none⟩) l.length l.length) := by
    rw [hW0]; unfold Box; rw [alloc_lt _ _ _ (by simp <;> omega), alloc_lt _ _ _ (by simp)]; exact alloc_at _ _ _ (by simp)
  have b4 : Box W0 (w.heap.size + 1 + 1 + 1) 64 (.int .u64 0) := by
    rw [hW0]; unfold Box; rw [alloc_lt _ _ _ (by simp)]; exact alloc_at _ _ _ (by simp)
  have b5 : Box W0 (w.heap.size + 1 + 1 + 1 + 1) 53 (.slice oa l.length cap) := by
    rw [hW0]; exact alloc_at _ _ _ (by simp)
  have b6 : Below w.heap.size w W0 := by rw [hW0]; exact (((((Below.refl _ w).alloc (Nat.le_refl _) _).alloc (by simp) _).alloc (by simp <;> omega) _).alloc (by simp <;> omega) _).alloc (by simp <;> omega) _
  have hsz : W0.heap.size = w.heap.size + 1 + 1 + 1 + 1 + 1 := by rw [hW0]; simp
  clear hW0
  refine wpIn_down 5 (w.heap.size + 1 + 1 + 1 + 1) oa l.length cap (by omega) rfl rfl (OverWI w (.slice oa l.length cap) l b) (fun _ _ => False) ?hI ?hIx ?hRd
    ⟨[], 0, rfl, Digs.nil _, hb0, by simp, by simpa using b2, b1, b3, b4, b5, b6⟩
    (fun k x => { tmps := #[.slice oa l.length cap, .int .u32 (b : Nat), undef, .pointer (some ⟨w.heap.size, 0, none⟩), .slice none 0 0, .int .u32 0, .pointer (some ⟨w.heap.size + 1 + 1, 0, none⟩), .pointer (some ⟨w.heap.size + 1 + 1 + 1, 0, none⟩),
      .int .i64 ((l.length - 1 - k : Nat) : Int), .int .u32 x, undef, .slice oa l.length cap, .int .i64 l.length, .slice (some ⟨w.heap.size + 1, 0, none⟩) l.length l.length, .slice oa l.length cap,
      .func (.func 136) #[] #[.pointer (some ⟨w.heap.size + 1 + 1 + 1 + 1, 0, none⟩)], .int .i64 ((l.length - 1 - k : Nat) : Int), .int .u32 x, undef, undef, undef, undef, undef, undef, undef, undef, undef, undef, undef, undef, undef,
      undef, undef, undef, undef, undef, undef, undef, undef], defers := [] }) ?assign ?body ?done ?stop
  case hI => exact fun k W W' ⟨qs, r, h1, h2, h3, h4, h5, h6, h7, h8, h9, h10⟩ t => ⟨qs, r, h1, h2, h3, h4, h5.turn t, h6.turn t, h7.turn t, h8.turn t, h9.turn t, h10.trans (t.below.mono (by omega))⟩
  case hIx => exact fun c W W' h t => h
  case hRd => exact fun k W ⟨qs, r, h1, h2, h3, h4, h5, h6, h7, h8, h9, h10⟩ => Hr.out.reads h10 h9 k
  case assign =>
    intro _ k x W K hK
    gi_wp2
    exact hK
  case body =>
    rintro _ k b' off x W ⟨qs, r, h1, h2, h3, h4, h5, h6, h7, h8, h9, h10⟩ hk hoa hx
    obtain ⟨x, hwx, rfl⟩ := Hr.out.word h10 hk hoa hx
    have hx9 : x < 1000000000 := Hd.out x (List.mem_of_getElem? hwx)
    have Hst := Lib.hid (OverWI.step hk hb0 hwx hx9 h1 h2 h3 h4 h5 h6 h7 h8 h9 h10)
    have c6 := h6.cell
    have c7 := h7.cell
    have c8 := h8.cell
    have f8 := h8.free
    have c5 := h5.cell (l.length - 1 - k) (by simp <;> omega)
    have f5 := h5.free (l.length - 1 - k)
    generalize (List.replicate (l.length - k) 0 ++ qs)[l.length - 1 - k]'_ = old at c5
    clear h1 h2 h4 h5 h6 h7 h8 h9 h10 b1 b2 b3 b4 b5 b6 hx hwx hoa hmk
    have hq : (r * 1000000000 + x) / b < 1000000000 := by
      rw [Nat.div_lt_iff_lt_mul hb0]
      have : (r + 1) * 1000000000 ≤ b * 1000000000 := Nat.mul_le_mul_right _ h3
      rw [Nat.mul_comm 1000000000]; omega
    have hq1 : ((r : Int) * 1000000000 + (x : Int)) / (b : Int) < 1000000000 := by
      have : (((r * 1000000000 + x) / b : Nat) : Int) < 1000000000 := by omega
      rw [Int.natCast_ediv, Int.natCast_add, Int.natCast_mul] at this; exact this
    have hq0 : 0 ≤ ((r : Int) * 1000000000 + (x : Int)) / (b : Int) := Int.ediv_nonneg (by omega) (by omega)
    have hm1 : ((r : Int) * 1000000000 + (x : Int)) % (b : Int) < 1000000000 := by have := Int.emod_lt_of_pos ((r : Int) * 1000000000 + (x : Int)) (by omega : (0 : Int) < b); omega
    have hm0 : 0 ≤ ((r : Int) * 1000000000 + (x : Int)) % (b : Int) := Int.emod_nonneg _ (by omega)
    have hr9 : (r : Int) < 1000000000 := by omega
    have hmx : Try.prog.follows .mixedOrders = true := by kernel_rfl
    have hbp : (0 : Int) < b := by omega
    have hb9' : (b : Int) < 1000000000 := by omega
    have e1 : ((l.length - 1 - k : Nat) : Int) = (l.length : Int) - 1 - k := by omega
    rw [e1]
    clear e1
    gi_wp2
    have hP0 : 0 ≤ (r : Int) * 1000000000 + (x : Int) := by omega
    have hP9 : (r : Int) * 1000000000 + (x : Int) ≤ 9000000000000000000 := by omega
    generalize hP : (r : Int) * 1000000000 + (x : Int) = P at *
    have HP := Lib.hid hP; clear hP
    have hquo : IntKind.u64.wrap (P.tdiv (b : Int)) = P / (b : Int) := IntWalk.u64_quo _ _ ⟨hP0, by omega, by omega⟩
    have hwb : IntKind.u64.wrap (b : Int) = b := IntWalk.u64_in _ ⟨by omega, by omega⟩
    have hi1 : (k : Int) ≤ (l.length : Int) - 1 := by omega
    have hi2 : (l.length : Int) - 1 - k < l.length := by omega
    have hbz : ((b : Int) == 0) = false := by rw [beq_eq_false_iff_ne]; omega
    have hbn : ¬ b = 0 := by omega
    have hw32 : IntKind.u32.wrap (P / (b : Int)) = P / (b : Int) := IntWalk.u32_in _ ⟨hq0, by omega⟩
    have HF : Hid (∀ A, DownPost (OverWI w (.slice oa l.length cap) l b) (fun _ _ => False) k W .normal A ((W.setCell ⟨w.heap.size + 1, l.length - 1 - k, none⟩ (.int .u32 (P / (b : Int)))).setCell ⟨w.heap.size + 1 + 1 + 1, 0, none⟩ (.int .u64 (P.tmod (b : Int)))).drew) := by
      intro A
      have h := Hst.out
      rw [Int.tmod_eq_emod_of_nonneg hP0]
      rw [Int.natCast_ediv, Int.natCast_emod, Int.natCast_add, Int.natCast_mul, show ((1000000000 : Nat) : Int) = 1000000000 from rfl, HP.out] at h
      obtain ⟨qs, r, h1, h2, h3, h4, h5, h6, h7, h8, h9, h10⟩ := h
      exact ⟨((KeepsOthers.setCell _ _ _).trans (KeepsOthers.setCell _ _ _)).trans (KeepsOthers.drew _), qs, r, h1, h2, h3, h4, h5, h6, h7, h8, h9, h10.drew⟩
    clear Hst
    clear hm1 hm0 hq hP9 hq1 hq0 hbp hb9' hr9 hP0 h3 hx9 hb0 hb9 hlen hsz
    refine region_round _ rfl hmx (by kernel_rfl) ?_
    refine wpAnyIn_take (i := 1) (v := ?_) rfl rfl (by kernel_rfl) (by kernel_rfl) (by kernel_rfl) (fun _ _ _ h => h) ⟨Or.inl ⟨by rfl, ?_⟩, fun _ => rfl⟩ ?_
    rotate_left
    · intro w; go_simp; with_reducible rfl
    refine wpAnyIn_take (i := 2) (v := ?_) rfl rfl (by kernel_rfl) (by kernel_rfl) (by kernel_rfl) (fun _ _ _ h => h) ⟨Or.inl ⟨by rfl, ?_⟩, fun _ => rfl⟩ ?_
    rotate_left
    · intro w; go_simp; with_reducible rfl
    refine wpAnyIn_ready (rs := [0, 3]) (by kernel_rfl) (by simp) (AllReadyIn.cons rfl (fun K hK => ?_) (AllReadyIn.cons rfl (fun K hK => ?_) AllReadyIn.nil))
    · go_simp
      refine hK _ _ ?_
      clear hK K
      refine wpAnyIn_ready (rs := [3]) (by kernel_rfl) (by simp) (AllReadyIn.cons rfl (fun K hK => ?_) AllReadyIn.nil)
      go_simp
      refine hK _ _ ?_
      clear hK K
      refine wpAnyIn_take (i := 4) (v := ?_) rfl rfl (by kernel_rfl) (by kernel_rfl) (by kernel_rfl) (fun _ _ _ h => h) ⟨Or.inl ⟨by rfl, ?_⟩, fun _ => rfl⟩ ?_
      rotate_left
      · intro w; go_simp; with_reducible rfl
      refine wpAnyIn_ready (rs := [5]) (by kernel_rfl) (by simp) (AllReadyIn.cons rfl (fun K hK => ?_) AllReadyIn.nil)
      go_simp
      refine hK _ _ ?_
      clear hK K
      refine wpAnyIn_take (i := 6) (v := ?_) rfl rfl (by kernel_rfl) (by kernel_rfl) (by kernel_rfl) (fun _ _ _ h => h) ⟨Or.inl ⟨by rfl, ?_⟩, fun _ => rfl⟩ ?_
      rotate_left
      · intro w; go_simp; with_reducible rfl
      refine wpAnyIn_ready (rs := [7]) (by kernel_rfl) (by simp) (AllReadyIn.cons rfl (fun K hK => ?_) AllReadyIn.nil)
      go_simp
      refine hK _ _ ?_
      clear hK K
      refine wpAnyIn_ready (rs := [8]) (by kernel_rfl) (by simp) (AllReadyIn.cons rfl (fun K hK => ?_) AllReadyIn.nil)
      go_simp
      refine hK _ _ ?_
      clear hK K
      refine wpAnyIn_done (by kernel_rfl) ?_ _
      gi_wp2
      exact HF.out _
    · go_simp
      refine hK _ _ ?_
      clear hK K
      refine wpAnyIn_take (i := 4) (v := ?_) rfl rfl (by kernel_rfl) (by kernel_rfl) (by kernel_rfl) (fun _ _ _ h => h) ⟨Or.inl ⟨by rfl, ?_⟩, fun _ => rfl⟩ ?_
      rotate_left
      · intro w; go_simp; with_reducible rfl
      refine wpAnyIn_ready (rs := [0, 5]) (by kernel_rfl) (by simp) (AllReadyIn.cons rfl (fun K hK => ?_) (AllReadyIn.cons rfl (fun K hK => ?_) AllReadyIn.nil))
      · go_simp
        refine hK _ _ ?_
        clear hK K
        refine wpAnyIn_ready (rs := [5]) (by kernel_rfl) (by simp) (AllReadyIn.cons rfl (fun K hK => ?_) AllReadyIn.nil)
        go_simp
        refine hK _ _ ?_
        clear hK K
        refine wpAnyIn_take (i := 6) (v := ?_) rfl rfl (by kernel_rfl) (by kernel_rfl) (by kernel_rfl) (fun _ _ _ h => h) ⟨Or.inl ⟨by rfl, ?_⟩, fun _ => rfl⟩ ?_
        rotate_left
        · intro w; go_simp; with_reducible rfl
        refine wpAnyIn_ready (rs := [7]) (by kernel_rfl) (by simp) (AllReadyIn.cons rfl (fun K hK => ?_) AllReadyIn.nil)
        go_simp
        refine hK _ _ ?_
        clear hK K
        refine wpAnyIn_ready (rs := [8]) (by kernel_rfl) (by simp) (AllReadyIn.cons rfl (fun K hK => ?_) AllReadyIn.nil)
        go_simp
        refine hK _ _ ?_
        clear hK K
        refine wpAnyIn_done (by kernel_rfl) ?_ _
        gi_wp2
        exact HF.out _
      · go_simp
        refine hK _ _ ?_
        clear hK K
        refine wpAnyIn_take (i := 6) (v := ?_) rfl rfl (by kernel_rfl) (by kernel_rfl) (by kernel_rfl) (fun _ _ _ h => h) ⟨Or.inl ⟨by rfl, ?_⟩, fun _ => rfl⟩ ?_
        rotate_left
        · intro w; go_simp; with_reducible rfl
        refine wpAnyIn_ready (rs := [0]) (by kernel_rfl) (by simp) (AllReadyIn.cons rfl (fun K hK => ?_) AllReadyIn.nil)
        go_simp
        refine hK _ _ ?_
        clear hK K
        refine wpAnyIn_ready (rs := [7]) (by kernel_rfl) (by simp) (AllReadyIn.cons rfl (fun K hK => ?_) AllReadyIn.nil)
        go_simp
        refine hK _ _ ?_
        clear hK K
        refine wpAnyIn_ready (rs := [8]) (by kernel_rfl) (by simp) (AllReadyIn.cons rfl (fun K hK => ?_) AllReadyIn.nil)
        go_simp
        refine hK _ _ ?_
        clear hK K
        refine wpAnyIn_done (by kernel_rfl) ?_ _
        gi_wp2
        exact HF.out _
  case done =>
    rintro E W hE ⟨qs, r, h1, h2, h3, h4, h5, h6, h7, h8, h9, h10⟩ hd
    rw [Nat.sub_self, List.drop_zero] at h4
    rw [Nat.sub_self, List.replicate_zero, List.nil_append] at h5
    have hrep : Rep W .u32 (.slice (some ⟨w.heap.size + 1, 0, none⟩) l.length l.length) qs := by
      have := Rep.rowAll h5 l.length (by omega); rwa [h1] at this
    have hv : val 1000000000 qs = val 1000000000 l / b ∧ r = val 1000000000 l % b := by
      rw [h4, Nat.mul_add_div hb0, Nat.div_eq_of_lt h3, Nat.mul_add_mod, Nat.mod_eq_of_lt h3]; exact ⟨rfl, rfl⟩
    have Hv := Lib.hid hv; clear hv
    have c7 := h7.cell
    have c8 := h8.cell
    have Hc := Lib.hid (canon_trim h2)
    have hr9 : r < 1000000000 := by omega
    have hwr : IntKind.u32.wrap (r : Int) = r := IntWalk.u32_in _ ⟨by omega, by omega⟩
    clear h1 h2 h3 h4 b1 b2 b3 b4 b5 b6 hmk
    have hmx : Try.prog.follows .mixedOrders = true := by kernel_rfl
    gi_wp2
    refine wpIn_mono (Q := OnlyNormal fun a' w' => ∃ v, a' = { tmps := #[.slice oa l.length cap, .int .u32 (b : Nat), undef, .pointer (some ⟨w.heap.size, 0, none⟩), v, .int .u32 r, .pointer (some ⟨w.heap.size + 1 + 1, 0, none⟩), .pointer (some ⟨w.heap.size + 1 + 1 + 1, 0, none⟩),
      undef, undef, undef, .slice oa l.length cap, .int .i64 l.length, .slice (some ⟨w.heap.size + 1, 0, none⟩) l.length l.length, .slice oa l.length cap,
      .func (.func 136) #[] #[.pointer (some ⟨w.heap.size + 1 + 1 + 1 + 1, 0, none⟩)], undef, undef, undef, undef, undef, undef, undef, undef, undef, undef, undef, undef, undef, undef, undef,
      undef, undef, undef, undef, .slice (some ⟨w.heap.size + 1, 0, none⟩) l.length l.length, v, .int .u64 r, .int .u32 r], defers := [{ target := Target.collected E, args := #[] }] } ∧ Rep w' .u32 v (trim qs) ∧ Below W.heap.size W w') ?reg (OnlyNormal.elim ?after)
    case reg =>
      gi_region_with_o (refine ⟨trivial, ?_⟩; gi_at_call 130; refine (callsIn_wide.2 (trimmed_n _ qs _ _ (by omega) _ (by exact hrep))).mono ?_; rintro e w1 ⟨v, rfl, hv1, hb1⟩; have c9 := (hb1.cell (p := ⟨w.heap.size + 1 + 1 + 1, 0, none⟩) (by exact h8.lt)).trans c8)
      all_goals exact ⟨v, rfl, hv1, ((Below.refl W.heap.size W).drew).trans hb1⟩
    case after =>
      rintro a' w' ⟨v, rfl, hv1, hb1⟩
      have hd' := (hb1.block E (lt_of_block hd)).trans hd
      gi_wp2
      have t := Turn.put (B := w.heap.size) (.deferred none) (by omega) hd' rfl
      refine ⟨by simp, .inl ⟨_, _, rfl, run_takeDeferred hd', .tuple #[v, .int .u32 r], by simp [results, Try.f131, go_sem], ?_⟩⟩
      exact ⟨v, _, by rw [Hv.out.2], hv1.turn t, Hc.out, by rw [val_trim]; exact Hv.out.1, (h10.trans (hb1.mono h10.size)).trans t.below⟩
  case stop =>
    rintro E c W hE h hd
    exact h.elim
end Go.Proofs.Ytlkdahgfnfdakaa

namespace Go.Proofs.Ytlkdahgfnfdakaa
open Go.RowKit WN

/-- block g holds l; of what lay, nothing but block g has turned -/
def Only (w w' : World) (g : Nat) (l : List Nat) : Prop := Row w' g .u32 117 l ∧ w.grownBy w' (some g) ∧ w'.heap.size = w.heap.size

theorem Only.set {w w' : World} {g : Nat} {l : List Nat} (h : Only w w' g l) (i x : Nat) : Only w (w'.setCell ⟨g, i, none⟩ (.int .u32 (x : Nat))) g (l.set i x) :=
  ⟨h.1.set i x, ⟨h.2.1.os, h.2.1.tape, h.2.1.output, by simpa using h.2.1.size, fun k hk hne => (Below.heap_setCell _ _ _ _ (fun e => hne (by rw [e]))).trans (h.2.1.block k hk hne)⟩, by simpa using h.2.2⟩
theorem Only.refl {w : World} {g : Nat} {l : List Nat} (h : Row w g .u32 117 l) : Only w w g l := ⟨h, ⟨rfl, rfl, rfl, Nat.le_refl _, fun _ _ _ => rfl⟩, rfl⟩
theorem Rep.only {w w' : World} {g : Nat} {l m : List Nat} {k : IntKind} {oa : Option Addr} {n cap : Nat} (h : Rep w k (.slice oa n cap) l) (ho : Only w w' g m) (hne : ∀ b off, oa = some ⟨b, off, none⟩ → b ≠ g) (i : Nat) (hi : i < l.length) :
    ∃ b off, oa = some ⟨b, off, none⟩ ∧ b < w.heap.size ∧ w'.cell? ⟨b, off + i, none⟩ = some (.int k (l[i]'hi : Nat)) := by
  obtain ⟨oa', cap', he, hc, hcell⟩ := h
  cases he
  obtain ⟨b, off, rfl, hcl⟩ := hcell i hi
  have hb := block_lt_of_cell hcl
  exact ⟨b, off, rfl, hb, (World.cell?_of_block (ho.2.1.block b hb (by intro e; exact hne b off rfl (Option.some.inj e)))).trans hcl⟩

/-- the digits of l from o on, n of them, as a number -/
def part (l : List Nat) (o n : Nat) : Nat := val 1000000000 ((l.drop o).take n)

theorem part_set {l : List Nat} {o k x : Nat} (h : o + k < l.length) : part (l.set (o + k) x) o k = part l o k ∧ part (l.set (o + k) x) o (k + 1) = part l o k + 1000000000 ^ k * x := by
  have e : ((l.set (o + k) x).drop o).take k = (l.drop o).take k := by
    rw [List.drop_set, if_neg (by omega), Nat.add_sub_cancel_left, take_set]
  refine ⟨by unfold part; rw [e], ?_⟩
  unfold part
  rw [val_take_next, e]
  congr 2
  rw [List.getElem?_drop]; simp [h]

theorem part_succ (l : List Nat) (o k : Nat) : part l o (k + 1) = part l o k + 1000000000 ^ k * (l[o + k]?.getD 0) := by
  unfold part
  rw [val_take_next, List.getElem?_drop]

/-- subtractTimes, at the head of a round -/
def SubInv (l lb : List Nat) (o f : Nat) (w wr : World) (g k c : Nat) : Prop :=
  ∃ m, m.length = l.length ∧ Digs 1000000000 m ∧ (∀ t, t < o ∨ o + k ≤ t → m[t]? = l[t]?) ∧ part m o k + f * val 1000000000 (lb.take k) = part l o k + 1000000000 ^ k * c ∧ Only w wr g m

theorem SubInv.step {l lb : List Nat} {o f : Nat} {w wr : World} {g k c : Nat} (h : SubInv l lb o f w wr g k c) (hk : o + k < l.length) (x y d c' : Nat) (hx : l[o + k]? = some x) (hy : lb[k]?.getD 0 = y)
    (he : x + 1000000000 * c' = d + (c + f * y)) (hd : d < 1000000000) {wn : World} (hset : ∀ m, Only w wr g m → Only w wn g (m.set (o + k) d)) :
    SubInv l lb o f w wn g (k + 1) c' := by
  obtain ⟨m, hm, hdm, hs, hv, ho⟩ := h
  obtain ⟨p1, p2⟩ := part_set (l := m) (x := d) (by omega : o + k < m.length)
  refine ⟨m.set (o + k) d, by simpa using hm, hdm.set _ _ hd, fun t ht => ?_, ?_, hset m ho⟩
  · rw [List.getElem?_set_ne (by omega)]; exact hs t (by omega)
  · rw [p2, part_succ l, hx, Option.getD_some, val_take_next, hy, Nat.pow_succ]
    generalize 1000000000 ^ k = P at *
    have e4 : P * (x + 1000000000 * c') = P * (d + (c + f * y)) := by rw [he]
    rw [Nat.mul_add, Nat.mul_add, Nat.mul_add, ← Nat.mul_assoc] at e4
    rw [Nat.mul_add, ← Nat.mul_assoc f P y, Nat.mul_comm f P, Nat.mul_assoc P f y]
    omega

theorem SubInv.cell {l lb : List Nat} {o f : Nat} {w wr : World} {g k c : Nat} (h : SubInv l lb o f w wr g k c) (hk : o + k < l.length) :
    ∃ x, x < 1000000000 ∧ l[o + k]? = some x ∧ wr.cell? ⟨g, o + k, none⟩ = some (.int .u32 (x : Nat)) ∧ wr.frozen? ⟨g, o + k, none⟩ = false := by
  obtain ⟨m, hm, hdm, hs, hv, ho⟩ := h
  have e := hs (o + k) (.inr (Nat.le_refl _))
  rw [List.getElem?_eq_getElem (by omega)] at e
  exact ⟨m[o + k], hdm.get _ (by omega), e.symm, ho.1.cell _ (by omega), ho.1.free _⟩

def SubOut (l lb : List Nat) (o n f : Nat) (w : World) (g : Nat) (e : Ending) (w' : World) : Prop :=
  ∃ m c, e = .returned (.bool (decide (0 < c))) ∧ m.length = l.length ∧ Digs 1000000000 m ∧ (∀ t, t < o ∨ o + n ≤ t → m[t]? = l[t]?) ∧ part m o n + f * val 1000000000 lb = part l o n + 1000000000 ^ n * c ∧ Only w w' g m

set_option maxHeartbeats 2000000 in
set_option maxRecDepth 100000 in
theorem subtractTimes_core (l lb : List Nat) (g o n cap f : Nat) (hn : n ≤ 100000000000) (hnl : o + n ≤ l.length) (hlb : lb.length ≤ n) (hf : f < 1000000000) (dl : Digs 1000000000 l) (db : Digs 1000000000 lb) (ob : Option Addr) (nb cb : Nat) (w : World)
    (hr : Row w g .u32 117 l) (hb : Rep w .u32 (.slice ob nb cb) lb) (hne : ∀ b off, ob = some ⟨b, off, none⟩ → b ≠ g) :
    Calls Try.prog 138 #[.slice (some ⟨g, o, none⟩) n cap, .slice ob nb cb, .int .u32 (f : Nat)] w (SubOut l lb o n f w g) := by
  obtain ⟨rfl, _⟩ := hb.len
  have Hb := Lib.hid hb; clear hb
  have Hne := Lib.hid hne; clear hne
  have Db := Lib.hid db; clear db
  have hinit : SubInv l lb o f w w g 0 0 := ⟨l, rfl, dl, fun _ _ => rfl, by simp [part], Only.refl hr⟩
  have Hinit := Lib.hid hinit; clear hinit
  clear hr dl
  go_enter Try.func138, Try.ntmps138
  go_wp2
  go_loopw [7, 13] (fun vc vk wr => ∃ k c : Nat, k ≤ n ∧ vk = .int .i64 k ∧ vc = .int .u64 c ∧ c ≤ 1000000000 ∧ SubInv l lb o f w wr g k c) (fun _ vk _ => n - (intOf vk).toNat)
  case atStart => exact ⟨0, 0, Nat.zero_le _, rfl, rfl, by omega, Hinit.out⟩
  case round =>
    obtain ⟨k, c, hk, rfl, rfl, hc, hinv⟩ := hrel
    have Inv := Lib.hid hinv; clear hinv
    by_cases hlt : k < n
    · obtain ⟨x, hx9, hx, hcx, hfx⟩ := Inv.out.cell (by omega)
      have HX := Lib.hid hx; clear hx
      have hset : ∀ (u d : Nat) (m : List Nat), Only w wr g m → Only w ((wr.setCell ⟨g, o + k, none⟩ (.int .u32 (u : Nat))).setCell ⟨g, o + k, none⟩ (.int .u32 (d : Nat))) g (m.set (o + k) d) := fun u d m ho => by
        have := (ho.set (o + k) u).set (o + k) d
        rwa [List.set_set] at this
      have Hset := Lib.hid hset; clear hset
      by_cases hlb' : k < lb.length
      · obtain ⟨m, hm⟩ : ∃ m, Only w wr g m := by obtain ⟨m, _, _, _, _, ho⟩ := Inv.out; exact ⟨m, ho⟩
        obtain ⟨by', py, rfl, _, hcy⟩ := Hb.out.only hm Hne.out k hlb'
        clear hm
        have hy9 := Db.out.get k hlb'
        have HY : Hid (lb[k]?.getD 0 = lb[k]) := by show _ = _; rw [List.getElem?_eq_getElem hlb']; rfl
        generalize lb[k] = y at *
        have hm := mul_bound f y hf hy9
        have hm1 : (f : Int) * (y : Int) ≤ 999999998000000001 := by rw [← Int.natCast_mul]; omega
        have hm0 : 0 ≤ (f : Int) * (y : Int) := by rw [← Int.natCast_mul]; omega
        have hcast := Lib.hid (Int.natCast_mul f y)
        by_cases ht : x < (c + f * y) % 1000000000
        · have ht' : (x : Int) < ((c : Int) + (f : Int) * (y : Int)) % 1000000000 := by have := hcast.out; omega
          go_wp2
          go_roundw
          case rel => exact ⟨k + 1, (c + f * y) / 1000000000 + 1, hlt, by go_num, u64_eq (by have := hcast.out; omega), by omega, by
            have e1 : (x : Int) + 1000000000 = ((x + 1000000000 : Nat) : Int) := by omega
            have e2 : ((x + 1000000000 : Nat) : Int) - (↑c + ↑f * ↑y) % 1000000000 = ((x + 1000000000 - (c + f * y) % 1000000000 : Nat) : Int) := by have := hcast.out; omega
            rw [e1, e2]
            exact Inv.out.step (by omega) x y _ _ HX.out HY.out (by omega) (by omega) (Hset.out _ _)⟩
          case measure => simp [intOf]; omega
        · have ht' : ((c : Int) + (f : Int) * (y : Int)) % 1000000000 ≤ (x : Int) := by have := hcast.out; omega
          go_wp2
          go_roundw
          case rel => exact ⟨k + 1, (c + f * y) / 1000000000, hlt, by go_num, u64_eq (by have := hcast.out; omega), by omega, by
            have e2 : (x : Int) - (↑c + ↑f * ↑y) % 1000000000 = ((x - (c + f * y) % 1000000000 : Nat) : Int) := by have := hcast.out; omega
            rw [e2]
            exact Inv.out.step (by omega) x y _ _ HX.out HY.out (by omega) (by omega) (fun m ho => ho.set _ _)⟩
          case measure => simp [intOf]; omega
      · have HY : Hid (lb[k]?.getD 0 = 0) := by show _ = _; rw [List.getElem?_eq_none (by omega)]; rfl
        by_cases ht : x < c % 1000000000
        · have ht' : (x : Int) < (c : Int) % 1000000000 := by omega
          go_wp2
          go_roundw
          case rel => exact ⟨k + 1, c / 1000000000 + 1, hlt, by go_num, u64_eq (by omega), by omega, by
            have e1 : (x : Int) + 1000000000 = ((x + 1000000000 : Nat) : Int) := by omega
            have e2 : ((x + 1000000000 : Nat) : Int) - ↑c % 1000000000 = ((x + 1000000000 - c % 1000000000 : Nat) : Int) := by omega
            rw [e1, e2]
            exact Inv.out.step (by omega) x 0 _ _ HX.out HY.out (by omega) (by omega) (Hset.out _ _)⟩
          case measure => simp [intOf]; omega
        · have ht' : (c : Int) % 1000000000 ≤ (x : Int) := by omega
          go_wp2
          go_roundw
          case rel => exact ⟨k + 1, c / 1000000000, hlt, by go_num, u64_eq (by omega), by omega, by
            have e2 : (x : Int) - ↑c % 1000000000 = ((x - c % 1000000000 : Nat) : Int) := by omega
            rw [e2]
            exact Inv.out.step (by omega) x 0 _ _ HX.out HY.out (by omega) (by omega) (fun m ho => ho.set _ _)⟩
          case measure => simp [intOf]; omega
    · have hcd : Hid (decide (0 < c) = decide ((0 : Int) < c)) := by show _ = _; by_cases h : 0 < c <;> simp [h]
      obtain rfl : k = n := by omega
      go_wp2
      go_ret
      obtain ⟨m, hm, hdm, hs, hv, ho⟩ := Inv.out
      exact ⟨m, c, by rw [hcd.out]; simp, hm, hdm, hs, by rwa [List.take_of_length_le hlb] at hv, ho⟩

/-- addBack -/
def AddOut (l lb : List Nat) (o n : Nat) (w : World) (g : Nat) (e : Ending) (w' : World) : Prop :=
  ∃ m c, e = .returned (.tuple #[]) ∧ m.length = l.length ∧ Digs 1000000000 m ∧ (∀ t, t < o ∨ o + n ≤ t → m[t]? = l[t]?) ∧ part m o n + 1000000000 ^ n * c = part l o n + val 1000000000 lb ∧ Only w w' g m

def AddInv (l lb : List Nat) (o : Nat) (w wr : World) (g k c : Nat) : Prop :=
  ∃ m, m.length = l.length ∧ Digs 1000000000 m ∧ (∀ t, t < o ∨ o + k ≤ t → m[t]? = l[t]?) ∧ part m o k + 1000000000 ^ k * c = part l o k + val 1000000000 (lb.take k) ∧ Only w wr g m

theorem AddInv.step {l lb : List Nat} {o : Nat} {w wr : World} {g k c : Nat} (h : AddInv l lb o w wr g k c) (hk : o + k < l.length) (x y : Nat) (hx : l[o + k]? = some x) (hy : lb[k]?.getD 0 = y) :
    AddInv l lb o w (wr.setCell ⟨g, o + k, none⟩ (.int .u32 ((x + c + y) % 1000000000 : Nat))) g (k + 1) ((x + c + y) / 1000000000) := by
  obtain ⟨m, hm, hdm, hs, hv, ho⟩ := h
  obtain ⟨p1, p2⟩ := part_set (l := m) (x := (x + c + y) % 1000000000) (by omega : o + k < m.length)
  refine ⟨m.set (o + k) ((x + c + y) % 1000000000), by simpa using hm, hdm.set _ _ (Nat.mod_lt _ (by omega)), fun t ht => ?_, ?_, ho.set _ _⟩
  · rw [List.getElem?_set_ne (by omega)]; exact hs t (by omega)
  · rw [p2, part_succ l, hx, Option.getD_some, val_take_next, hy, Nat.pow_succ]
    have e3 := Nat.mod_add_div (x + c + y) 1000000000
    generalize 1000000000 ^ k = P at *
    generalize (x + c + y) / 1000000000 = q at *
    generalize (x + c + y) % 1000000000 = r at *
    have e4 : P * (r + 1000000000 * q) = P * (x + c + y) := by rw [e3]
    rw [Nat.mul_add, Nat.mul_add, Nat.mul_add, ← Nat.mul_assoc] at e4
    omega

theorem AddInv.cell {l lb : List Nat} {o : Nat} {w wr : World} {g k c : Nat} (h : AddInv l lb o w wr g k c) (hk : o + k < l.length) :
    ∃ x, x < 1000000000 ∧ l[o + k]? = some x ∧ wr.cell? ⟨g, o + k, none⟩ = some (.int .u32 (x : Nat)) ∧ wr.frozen? ⟨g, o + k, none⟩ = false := by
  obtain ⟨m, hm, hdm, hs, hv, ho⟩ := h
  have e := hs (o + k) (.inr (Nat.le_refl _))
  rw [List.getElem?_eq_getElem (by omega)] at e
  exact ⟨m[o + k], hdm.get _ (by omega), e.symm, ho.1.cell _ (by omega), ho.1.free _⟩

set_option maxHeartbeats 2000000 in
set_option maxRecDepth 100000 in
theorem addBack_core (l lb : List Nat) (g o n cap : Nat) (hn : n ≤ 100000000000) (hnl : o + n ≤ l.length) (hlb : lb.length ≤ n) (dl : Digs 1000000000 l) (db : Digs 1000000000 lb) (ob : Option Addr) (nb cb : Nat) (w : World)
    (hr : Row w g .u32 117 l) (hb : Rep w .u32 (.slice ob nb cb) lb) (hne : ∀ b off, ob = some ⟨b, off, none⟩ → b ≠ g) :
    Calls Try.prog 139 #[.slice (some ⟨g, o, none⟩) n cap, .slice ob nb cb] w (AddOut l lb o n w g) := by
  obtain ⟨rfl, _⟩ := hb.len
  have Hb := Lib.hid hb; clear hb
  have Hne := Lib.hid hne; clear hne
  have Db := Lib.hid db; clear db
  have hinit : AddInv l lb o w w g 0 0 := ⟨l, rfl, dl, fun _ _ => rfl, by simp [part], Only.refl hr⟩
  have Hinit := Lib.hid hinit; clear hinit
  clear hr dl
  go_enter Try.func139, Try.ntmps139
  go_wp2
  go_loopw [4, 9] (fun vc vk wr => ∃ k c : Nat, k ≤ n ∧ vk = .int .i64 k ∧ vc = .int .u32 c ∧ c ≤ 1 ∧ AddInv l lb o w wr g k c) (fun _ vk _ => n - (intOf vk).toNat)
  case atStart => exact ⟨0, 0, Nat.zero_le _, rfl, rfl, by omega, Hinit.out⟩
  case round =>
    obtain ⟨k, c, hk, rfl, rfl, hc, hinv⟩ := hrel
    have Inv := Lib.hid hinv; clear hinv
    by_cases hlt : k < n
    · obtain ⟨x, hx9, hx, hcx, hfx⟩ := Inv.out.cell (by omega)
      have HX := Lib.hid hx; clear hx
      by_cases hlb' : k < lb.length
      · obtain ⟨m, hm⟩ : ∃ m, Only w wr g m := by obtain ⟨m, _, _, _, _, ho⟩ := Inv.out; exact ⟨m, ho⟩
        obtain ⟨by', py, rfl, _, hcy⟩ := Hb.out.only hm Hne.out k hlb'
        clear hm
        have hy9 := Db.out.get k hlb'
        have HY : Hid (lb[k]?.getD 0 = lb[k]) := by show _ = _; rw [List.getElem?_eq_getElem hlb']; rfl
        generalize lb[k] = y at *
        go_wp2
        go_roundw
        case rel => exact ⟨k + 1, (x + c + y) / 1000000000, hlt, by go_num, u32_eq (by omega), by omega, by
          have := Inv.out.step (by omega) x y HX.out HY.out
          rwa [show (((x + c + y) % 1000000000 : Nat) : Int) = (↑x + ↑c + ↑y) % 1000000000 from by omega] at this⟩
        case measure => simp [intOf]; omega
      · have HY : Hid (lb[k]?.getD 0 = 0) := by show _ = _; rw [List.getElem?_eq_none (by omega)]; rfl
        go_wp2
        go_roundw
        case rel => exact ⟨k + 1, (x + c + 0) / 1000000000, hlt, by go_num, u32_eq (by omega), by omega, by
          have := Inv.out.step (by omega) x 0 HX.out HY.out
          rwa [show (((x + c + 0) % 1000000000 : Nat) : Int) = (↑x + ↑c) % 1000000000 from by omega] at this⟩
        case measure => simp [intOf]; omega
    · obtain rfl : k = n := by omega
      go_wp2
      go_end0
      obtain ⟨m, hm, hdm, hs, hv, ho⟩ := Inv.out
      exact ⟨m, c, rfl, hm, hdm, hs, by rwa [List.take_of_length_le hlb] at hv, ho⟩
end Go.Proofs.Ytlkdahgfnfdakaa

namespace Go.Proofs.Ytlkdahgfnfdakaa
open Go.RowKit WN

/-- the numbers of a guess: P is what is divided, v the divisor; both by their highest digits -/
structure GM (P v top high low p2 : Nat) : Prop where
  M : ∃ M pr vr, 0 < M ∧ P = (top * 1000000000 + p2) * M + pr ∧ pr < M ∧ v = (high * 1000000000 + low) * M + vr ∧ vr < M
  hp2 : p2 < 1000000000
  hlow : low < 1000000000
  hhigh : 0 < high
  hh9 : high < 1000000000
  hlt : P < v * 1000000000

theorem GM.vpos {P v top high low p2 : Nat} (h : GM P v top high low p2) : 0 < v := by
  have := h.hlt
  rcases Nat.eq_zero_or_pos v with h0 | h0
  · subst h0; omega
  · exact h0

theorem GM.top_lt {P v top high low p2 : Nat} (h : GM P v top high low p2) : top < (high + 1) * 1000000000 := by
  obtain ⟨M, pr, vr, hM, hP, hpr, hv, hvr⟩ := h.M
  have h1 := h.hlt
  have h2 := h.hlow
  have e1 : top * 1000000000 * M ≤ P := by rw [hP, Nat.add_mul]; omega
  have e2 : v < (high + 1) * 1000000000 * M := by
    rw [hv]
    have : (high * 1000000000 + low + 1) * M ≤ (high + 1) * 1000000000 * M := Nat.mul_le_mul_right M (by omega)
    rw [Nat.add_mul _ 1, Nat.one_mul] at this
    omega
  have e3 : top * 1000000000 * M < (high + 1) * 1000000000 * M * 1000000000 := by omega
  rw [Nat.mul_right_comm top] at e3
  have e5 : top * M < (high + 1) * 1000000000 * M := Nat.lt_of_mul_lt_mul_right e3
  exact Nat.lt_of_mul_lt_mul_right e5

theorem GM.start {P v top high low p2 : Nat} (h : GM P v top high low p2) : P / v ≤ top / high ∧ top / high ≤ 2000000000 := by
  have hv := h.vpos
  have ht := h.top_lt
  obtain ⟨M, pr, vr, hM, hP, hpr, hvv, hvr⟩ := h.M
  have hp2 := h.hp2
  constructor
  · apply Nat.le_of_lt_succ
    rw [Nat.div_lt_iff_lt_mul hv, Nat.succ_eq_add_one]
    have e1 : top + 1 ≤ (top / high + 1) * high := by
      have := Nat.div_add_mod top high
      have h3 := Nat.mod_lt top h.hhigh
      rw [Nat.add_mul, Nat.mul_comm]; omega
    have e2 : (top + 1) * (1000000000 * M) ≤ (top / high + 1) * high * (1000000000 * M) := Nat.mul_le_mul_right _ e1
    have e3 : (top / high + 1) * (high * 1000000000 * M) ≤ (top / high + 1) * v := Nat.mul_le_mul_left _ (by rw [hvv, Nat.add_mul]; omega)
    have e4 : P < (top + 1) * (1000000000 * M) := by
      rw [hP]
      have : (top * 1000000000 + p2 + 1) * M ≤ ((top + 1) * 1000000000) * M := Nat.mul_le_mul_right M (by omega)
      rw [Nat.mul_assoc (top + 1)] at this
      rw [Nat.add_mul _ 1, Nat.one_mul] at this
      omega
    rw [Nat.mul_assoc (top / high + 1) high, ← Nat.mul_assoc high] at e2
    omega
  · have h1 := h.hhigh
    have : top / high < 2000000001 := by
      rw [Nat.div_lt_iff_lt_mul h1]
      have : (high + 1) * 1000000000 ≤ 2000000001 * high := by omega
      omega
    omega

theorem GM.down {P v top high low p2 word rest : Nat} (h : GM P v top high low p2) (hw : word * high + rest = top) (hq : P / v ≤ word)
    (hc : 1000000000 ≤ word ∨ rest * 1000000000 + p2 < word * low) : P / v ≤ word - 1 ∧ 1 ≤ word := by
  have hv := h.vpos
  obtain ⟨M, pr, vr, hM, hP, hpr, hvv, hvr⟩ := h.M
  rcases hc with hc | hc
  · have : P / v < 1000000000 := by rw [Nat.div_lt_iff_lt_mul hv, Nat.mul_comm]; exact h.hlt
    generalize P / v = q at *
    omega
  · have h1 : P < word * v := by
      have e1 : word * ((high * 1000000000 + low) * M) ≤ word * v := Nat.mul_le_mul_left _ (by rw [hvv]; omega)
      have e2 : top * 1000000000 + p2 + 1 ≤ word * (high * 1000000000 + low) := by
        rw [Nat.mul_add, ← Nat.mul_assoc, ← hw, Nat.add_mul]; omega
      have e3 := Nat.mul_le_mul_right M e2
      rw [Nat.add_mul _ 1, Nat.one_mul, Nat.mul_assoc word] at e3
      omega
    have h2 : P / v < word := by rw [Nat.div_lt_iff_lt_mul hv]; exact h1
    clear h1 hc
    generalize P / v = q at *
    omega

theorem GM.stop {P v top high low p2 word rest : Nat} (h : GM P v top high low p2) (hw : word * high + rest = top) (hw9 : word < 1000000000)
    (hc : 1000000000 ≤ rest ∨ word * low ≤ rest * 1000000000 + p2) : word ≤ P / v + 1 := by
  have hv := h.vpos
  obtain ⟨M, pr, vr, hM, hP, hpr, hvv, hvr⟩ := h.M
  have hlow := h.hlow
  have hh := h.hhigh
  have e1 : word * (high * 1000000000 + low) ≤ top * 1000000000 + p2 := by
    rw [Nat.mul_add, ← Nat.mul_assoc, ← hw, Nat.add_mul]
    rcases hc with hc | hc
    · have : word * low ≤ 1000000000 * 1000000000 := Nat.mul_le_mul (by omega) (by omega)
      omega
    · omega
  rcases Nat.eq_zero_or_pos word with h0 | h0
  · rw [h0]; exact Nat.zero_le _
  obtain ⟨u, rfl⟩ : ∃ u, word = u + 1 := ⟨word - 1, by omega⟩
  have : u ≤ P / v := by
    rw [Nat.le_div_iff_mul_le hv]
    have e2 : u * v ≤ u * ((high * 1000000000 + low + 1) * M) := Nat.mul_le_mul_left _ (by rw [hvv, Nat.add_mul _ 1]; omega)
    have e3 : u * (high * 1000000000 + low + 1) ≤ top * 1000000000 + p2 := by
      rw [Nat.mul_add u _ 1, Nat.mul_one]
      rw [Nat.add_mul u 1] at e1
      generalize u * (high * 1000000000 + low) = z at *
      omega
    have e4 := Nat.mul_le_mul_right M e3
    rw [Nat.mul_assoc] at e4
    omega
  exact Nat.add_le_add_right this 1

theorem drewN_drewN (w : World) (a b : Nat) : (w.drewN a).drewN b = w.drewN (a + b) := by simp [World.drewN, Nat.add_assoc]

def GuessOut (P v : Nat) (w : World) (e : Ending) (w' : World) : Prop := ∃ q q' : Nat, e = .returned (.int .u32 (q : Nat)) ∧ q < 1000000000 ∧ P / v ≤ q ∧ q ≤ P / v + 1 ∧ w' = w.drewN q'

set_option maxHeartbeats 2000000 in
set_option maxRecDepth 20000 in
theorem guess_core (P v pn p1 p2 high low : Nat) (gm : GM P v (pn * 1000000000 + p1) high low p2) (hpn : pn < 1000000000) (hp1 : p1 < 1000000000)
    (g o m cap bb bo n cb : Nat) (hm : m = n + 1) (hn2 : 2 ≤ n) (hn : n ≤ 100000000000) (w : World)
    (c0 : w.cell? ⟨g, o + n, none⟩ = some (.int .u32 (pn : Nat))) (c1 : w.cell? ⟨g, o + (n - 1), none⟩ = some (.int .u32 (p1 : Nat))) (c2 : w.cell? ⟨g, o + (n - 2), none⟩ = some (.int .u32 (p2 : Nat)))
    (b1 : w.cell? ⟨bb, bo + (n - 1), none⟩ = some (.int .u32 (high : Nat))) (b2 : w.cell? ⟨bb, bo + (n - 2), none⟩ = some (.int .u32 (low : Nat))) :
    Calls Try.prog 137 #[.slice (some ⟨g, o, none⟩) m cap, .slice (some ⟨bb, bo, none⟩) n cb] w (GuessOut P v w) := by
  have Gm := Lib.hid gm
  have hh0 := gm.hhigh
  have hh9 := gm.hh9
  have hl9 := gm.hlow
  have hp29 := gm.hp2
  clear gm
  have hnm : n < m := by omega
  have hmm : m ≤ 200000000000 := by omega
  have Hm := Lib.hid hm; clear hm
  go_enter Try.func137, Try.ntmps137
  go_wp2
  have hn0 : (0 : Int) ≤ n := by omega
  have hni : (n : Int) < m := by omega
  have hw1 : IntKind.i64.wrap ((n : Int) - 1) = (n : Int) - 1 := IntWalk.i64_in _ ⟨by omega, by omega⟩
  have hw2 : IntKind.i64.wrap ((n : Int) - 2) = (n : Int) - 2 := IntWalk.i64_in _ ⟨by omega, by omega⟩
  go_quiet (fail)
  go_wp2
  have hw3 : IntKind.u64.wrap (high : Int) = high := IntWalk.u64_in _ ⟨by omega, by omega⟩
  go_quiet (fail)
  go_wp2
  have hT0 : 0 ≤ (pn : Int) * 1000000000 + p1 := by omega
  have hT9 : (pn : Int) * 1000000000 + p1 ≤ 999999999999999999 := by omega
  have HT : Hid ((pn : Int) * 1000000000 + p1 = ((pn * 1000000000 + p1 : Nat) : Int)) := by show _ = _; omega
  rw [HT.out] at hT0 hT9 ⊢
  have Ht9 : pn * 1000000000 + p1 ≤ 999999999999999999 := by omega
  generalize pn * 1000000000 + p1 = top at *
  clear HT
  have hq1 : Hid (IntKind.u64.wrap ((top : Int) / (high : Int)) = ((top / high : Nat) : Int)) := by
    show _ = _
    rw [← Int.natCast_ediv, IntWalk.u64_in _ ⟨Int.natCast_nonneg _, by have := Nat.div_le_self top high; omega⟩]
  have hq2 : Hid ((top : Int) % (high : Int) = ((top % high : Nat) : Int)) := by
    show _ = _
    rw [Int.natCast_emod]
  have hhz : ((high : Int) == 0) = false := by rw [beq_eq_false_iff_ne]; omega
  have hhn : ¬ high = 0 := by omega
  clear hT0 hT9
  go_quiet (fail)
  go_wp2
  rw [hq1.out, hq2.out]
  obtain ⟨hs1, hs2⟩ := Gm.out.start
  have hdm : Hid (top / high * high + top % high = top) := by show _ = _; rw [Nat.mul_comm]; exact Nat.div_add_mod top high
  clear hq1 hq2
  generalize top / high = q0 at *
  generalize top % high = r0 at *
  go_loopw [9, 10] (fun vw vr wr => ∃ word rest q : Nat, vw = .int .u64 word ∧ vr = .int .u64 rest ∧ Hid (word * high + rest = top) ∧ Hid (P / v ≤ word) ∧ word ≤ 2000000000 ∧ wr = w.drewN q) (fun vw _ _ => (intOf vw).toNat)
  case atStart => exact ⟨q0, r0, _, rfl, rfl, hdm, hs1, hs2, by rw [drewN_drewN, drewN_drewN]⟩
  case round =>
    obtain ⟨word, rest, q, rfl, rfl, hwr, hPv, hw2, rfl⟩ := hrel
    have hrt : (rest : Int) ≤ 999999999999999999 := by
      have := hwr.out
      have : rest ≤ top := by omega
      omega
    have hcast := Lib.hid (Int.natCast_mul word low)
    clear hs1 hs2 hdm Ht9 hw1 hhz hhn hw3 c0 c1 b1 b2
    by_cases hA : 1000000000 ≤ word
    · obtain ⟨h1, h2⟩ := Gm.out.down hwr.out hPv.out (.inl hA)
      have H1 := Lib.hid h1; clear h1
      have hA' : (1000000000 : Int) ≤ word := by omega
      go_wp2
      go_roundw
      case rel => exact ⟨word - 1, rest + high, q, u64_eq (by omega), by go_num, by
        have := hwr.out
        show _ = _
        rw [Nat.sub_mul, Nat.one_mul]
        have : high ≤ word * high := Nat.le_mul_of_pos_left _ h2
        omega, H1.out, by omega, rfl⟩
      case measure => simp [intOf]; omega
    · have hpr := mul_bound word low (by omega) hl9
      have hp1' : (word : Int) * (low : Int) ≤ 999999998000000001 := by rw [← Int.natCast_mul]; omega
      have hp0' : 0 ≤ (word : Int) * (low : Int) := by rw [← Int.natCast_mul]; omega
      have hwm : IntKind.u64.wrap ((word : Int) * (low : Int)) = (word : Int) * (low : Int) := IntWalk.u64_in _ ⟨hp0', by omega⟩
      clear hpr hp1' hp0'
      by_cases hB : rest < 1000000000
      · by_cases hC : rest * 1000000000 + p2 < word * low
        · obtain ⟨h1, h2⟩ := Gm.out.down hwr.out hPv.out (.inr hC)
          have H1 := Lib.hid h1; clear h1
          have hC' : (rest : Int) * 1000000000 + (p2 : Int) < (word : Int) * (low : Int) := by have := hcast.out; omega
          have hA' : (word : Int) < 1000000000 := by omega
          have hB' : (rest : Int) < 1000000000 := by omega
          clear hC hA hB
          go_wp2
          go_roundw
          case rel => exact ⟨word - 1, rest + high, q, u64_eq (by omega), by go_num, by
            have := hwr.out
            show _ = _
            rw [Nat.sub_mul, Nat.one_mul]
            have : high ≤ word * high := Nat.le_mul_of_pos_left _ h2
            omega, H1.out, by omega, rfl⟩
          case measure => simp [intOf]; omega
        · have H1 := Lib.hid (Gm.out.stop hwr.out (by omega) (.inr (by omega)))
          have hC' : (word : Int) * (low : Int) ≤ (rest : Int) * 1000000000 + (p2 : Int) := by have := hcast.out; omega
          have hA' : (word : Int) < 1000000000 := by omega
          have hB' : (rest : Int) < 1000000000 := by omega
          have hC2 : decide ((rest : Int) * 1000000000 + (p2 : Int) < (word : Int) * (low : Int)) = false := by simp; omega
          have hC3 : ¬ ((rest : Int) * 1000000000 + (p2 : Int) < (word : Int) * (low : Int)) := by omega
          clear hC hA hB
          have hA2 : decide ((1000000000 : Int) ≤ (word : Int)) = false := by simp; omega
          clear hC3 hC'
          go_wp2
          go_ret
          exact ⟨word, q, rfl, by omega, hPv.out, H1.out, rfl⟩
      · have H1 := Lib.hid (Gm.out.stop hwr.out (by omega) (.inl (by omega)))
        have hA' : (word : Int) < 1000000000 := by omega
        have hA2 : decide ((1000000000 : Int) ≤ (word : Int)) = false := by simp; omega
        have hB2 : decide ((rest : Int) < 1000000000) = false := by simp; omega
        have hB3 : ¬ (rest : Int) < 1000000000 := by omega
        have hB' : (1000000000 : Int) ≤ (rest : Int) := by omega
        clear hA hB hw2
        go_wp2
        go_ret
        exact ⟨word, q, rfl, by omega, hPv.out, H1.out, rfl⟩
end Go.Proofs.Ytlkdahgfnfdakaa

namespace Go.Proofs.Ytlkdahgfnfdakaa
open Go.RowKit Go.Shelf WN
attribute [local go_sem] Oper.semAt_some

theorem drop_part (l : List Nat) (o n : Nat) : val 1000000000 (l.drop o) = part l o n + 1000000000 ^ n * val 1000000000 (l.drop (o + n)) := by
  unfold part
  by_cases h : n ≤ (l.drop o).length
  · rw [val_take_drop _ (l.drop o) n h, List.drop_drop]
  · rw [List.take_of_length_le (by omega)]
    have : l.drop (o + n) = [] := List.drop_eq_nil_of_le (by simp at h; omega)
    rw [this]; simp

theorem part_lt {l : List Nat} (h : Digs 1000000000 l) (o n : Nat) : part l o n < 1000000000 ^ n := by
  have h1 := val_lt (B := 1000000000) (by omega) ((h.drop o).take n)
  unfold part
  refine Nat.lt_of_lt_of_le h1 (Nat.pow_le_pow_right (by omega) (by simp; omega))

theorem outside {l m : List Nat} {o n : Nat} (hs : ∀ t, t < o ∨ o + n ≤ t → m[t]? = l[t]?) : m.take o = l.take o ∧ m.drop (o + n) = l.drop (o + n) := by
  constructor
  · apply List.ext_getElem?
    intro i
    rw [List.getElem?_take, List.getElem?_take]
    split
    · exact hs i (.inl (by assumption))
    · rfl
  · apply List.ext_getElem?
    intro i
    rw [List.getElem?_drop, List.getElem?_drop]
    exact hs _ (.inr (by omega))

/-- the numbers of one round -/
theorem div_round {q c P v part1 X : Nat} (hv : 0 < v) (hvX : v ≤ X) (hq1 : P / v ≤ q) (hq2 : q ≤ P / v + 1) (h1 : part1 + q * v = P + X * c) (hp : part1 < X) :
    (¬ 0 < c → q = P / v ∧ part1 = P % v) ∧ (0 < c → q = P / v + 1 ∧ c = 1 ∧ ∀ part2 c2, part2 + X * c2 = part1 + v → part2 < X → part2 = P % v) := by
  have hdm := Nat.div_add_mod P v
  have hml := Nat.mod_lt P hv
  have hq : q = P / v ∨ q = P / v + 1 := by omega
  have hXc : ∀ d, 0 < d → X ≤ X * d := fun d hd => Nat.le_mul_of_pos_right X hd
  rw [Nat.mul_comm v] at hdm
  rcases hq with rfl | rfl
  · have : c = 0 := by
      rcases Nat.eq_zero_or_pos c with h | h
      · exact h
      · have := hXc c h; generalize P / v * v = z at *; generalize X * c = y at *; omega
    subst this
    refine ⟨fun _ => ⟨rfl, ?_⟩, fun h => absurd h (by omega)⟩
    rw [Nat.mul_zero, Nat.add_zero] at h1
    generalize P / v * v = z at *; omega
  · rw [Nat.add_mul, Nat.one_mul] at h1
    generalize P / v * v = z at *
    have hc1 : c = 1 := by
      rcases Nat.lt_or_ge 1 c with h | h
      · obtain ⟨d, rfl⟩ : ∃ d, c = d + 2 := ⟨c - 2, by omega⟩
        rw [Nat.mul_add] at h1
        have := hXc
        generalize X * d = y at *
        omega
      · rcases Nat.eq_zero_or_pos c with h0 | h0
        · subst h0; rw [Nat.mul_zero] at h1; omega
        · omega
    subst hc1
    rw [Nat.mul_one] at h1
    refine ⟨fun h => absurd Nat.zero_lt_one h, fun _ => ⟨rfl, rfl, fun part2 c2 h2 h3 => ?_⟩⟩
    rcases Nat.eq_zero_or_pos c2 with h0 | h0
    · subst h0; rw [Nat.mul_zero] at h2; omega
    · rcases Nat.lt_or_ge 1 c2 with h | h
      · obtain ⟨d, rfl⟩ : ∃ d, c2 = d + 2 := ⟨c2 - 2, by omega⟩
        rw [Nat.mul_add] at h2
        generalize X * d = y at *
        omega
      · obtain rfl : c2 = 1 := by omega
        rw [Nat.mul_one] at h2; omega

/-- what long division knows when k rounds are over -/
structure DivNums (la : Nat) (v n Nq k : Nat) (R qs : List Nat) : Prop where
  len : R.length = Nq + n
  digs : Digs 1000000000 R
  qlen : qs.length = k
  qdigs : Digs 1000000000 qs
  sum : la = val 1000000000 R + v * (1000000000 ^ (Nq - k) * val 1000000000 qs)
  top : val 1000000000 (R.drop (Nq - k)) < v

theorem DivNums.P {la v n Nq k : Nat} {R qs : List Nat} (h : DivNums la v n Nq k R qs) (hk : k < Nq) (hv : v < 1000000000 ^ n) :
    part R (Nq - 1 - k) (n + 1) < v * 1000000000 ∧ val 1000000000 (R.drop (Nq - 1 - k + (n + 1))) = 0 := by
  have ht := h.top
  have e1 := drop_part R (Nq - k) n
  have hz : val 1000000000 (R.drop (Nq - k + n)) = 0 := by
    rcases Nat.eq_zero_or_pos (val 1000000000 (R.drop (Nq - k + n))) with h0 | h0
    · exact h0
    · have : 1000000000 ^ n * 1 ≤ 1000000000 ^ n * val 1000000000 (R.drop (Nq - k + n)) := Nat.mul_le_mul_left _ h0
      omega
  rw [hz, Nat.mul_zero, Nat.add_zero] at e1
  have hidx : Nq - 1 - k + (n + 1) = Nq - k + n := by omega
  refine ⟨?_, by rw [hidx]; exact hz⟩
  have hlt : Nq - 1 - k < R.length := by rw [h.len]; omega
  have e2 := drop_part R (Nq - 1 - k) (n + 1)
  rw [hidx, hz, Nat.mul_zero, Nat.add_zero, val_drop _ _ _ hlt, show Nq - 1 - k + 1 = Nq - k from by omega] at e2
  have := h.digs.get _ hlt
  omega

theorem DivNums.next {la v n Nq k : Nat} {R qs : List Nat} (h : DivNums la v n Nq k R qs) (hk : k < Nq) (hv0 : 0 < v) (hv : v < 1000000000 ^ n) {m : List Nat} (hm : m.length = R.length) (hd : Digs 1000000000 m)
    (hs : ∀ t, t < Nq - 1 - k ∨ Nq - 1 - k + (n + 1) ≤ t → m[t]? = R[t]?) (hp : part m (Nq - 1 - k) (n + 1) = part R (Nq - 1 - k) (n + 1) % v) (hq9 : part R (Nq - 1 - k) (n + 1) / v < 1000000000) :
    DivNums la v n Nq (k + 1) m (part R (Nq - 1 - k) (n + 1) / v :: qs) := by
  obtain ⟨hP, hz⟩ := h.P hk hv
  obtain ⟨o1, o2⟩ := outside hs
  have hsum := h.sum
  generalize hPd : part R (Nq - 1 - k) (n + 1) = P at *
  have hlt : Nq - 1 - k ≤ R.length := by rw [h.len]; omega
  have e1 := val_take_drop 1000000000 R (Nq - 1 - k) hlt
  have e2 := val_take_drop 1000000000 m (Nq - 1 - k) (by omega)
  have d1 := drop_part R (Nq - 1 - k) (n + 1)
  have d2 := drop_part m (Nq - 1 - k) (n + 1)
  rw [hz, Nat.mul_zero, Nat.add_zero, hPd] at d1
  rw [o2, hz, Nat.mul_zero, Nat.add_zero, hp] at d2
  rw [d1] at e1
  rw [d2, o1] at e2
  refine ⟨by rw [hm, h.len], hd, by simp [h.qlen], h.qdigs.cons hq9, ?_, ?_⟩
  · rw [hsum, e1, e2, val_cons, show Nq - (k + 1) = Nq - 1 - k from by omega, show Nq - k = Nq - 1 - k + 1 from by omega, Nat.pow_succ]
    have hdm := Nat.div_add_mod P v
    generalize 1000000000 ^ (Nq - 1 - k) = X at *
    have e3 : X * P = v * (X * (P / v)) + X * (P % v) := by
      conv => lhs; rw [← hdm, Nat.mul_add]
      rw [Nat.mul_left_comm]
    rw [e3, Nat.mul_add X, Nat.mul_add v, Nat.mul_assoc X]
    omega
  · rw [show Nq - (k + 1) = Nq - 1 - k from by omega, d2]; exact Nat.mod_lt _ hv0

theorem DivNums.start {la : List Nat} {v n Nq : Nat} (hla : Digs 1000000000 la) (hlen : la.length + 1 = Nq + n) (hn : 1 ≤ n) (hv : 1000000000 ^ (n - 1) ≤ v) : DivNums (val 1000000000 la) v n Nq 0 (la ++ [0]) [] := by
  refine ⟨by simp; omega, hla.snoc (by omega), rfl, Digs.nil _, by rw [val_snoc]; simp, ?_⟩
  rw [Nat.sub_zero, List.drop_append_of_le_length (by omega), val_snoc, Nat.mul_zero, Nat.add_zero]
  have := val_lt (B := 1000000000) (by omega) (hla.drop Nq)
  rw [List.length_drop, show la.length - Nq = n - 1 from by omega] at this
  omega

theorem DivNums.done {la v n Nq : Nat} {R qs : List Nat} (h : DivNums la v n Nq Nq R qs) (hv : 0 < v) : val 1000000000 qs = la / v ∧ val 1000000000 R = la % v := by
  have h1 := h.sum
  have h2 := h.top
  rw [Nat.sub_self, List.drop_zero] at h2
  rw [Nat.sub_self, Nat.pow_zero, Nat.one_mul] at h1
  rw [h1, Nat.add_mul_div_left _ _ hv, Nat.div_eq_of_lt h2, Nat.zero_add, Nat.add_mul_mod_self_left, Nat.mod_eq_of_lt h2]
  exact ⟨rfl, rfl⟩
end Go.Proofs.Ytlkdahgfnfdakaa

namespace Go.Proofs.Ytlkdahgfnfdakaa
open Go.RowKit Go.Shelf WN
attribute [local go_sem] Oper.semAt_some

def DivI (w : World) (vb : Value) (la : Nat) (v n Nq : Nat) (k : Nat) (W : World) : Prop :=
  ∃ R qs, DivNums la v n Nq k R qs ∧ Row W (w.heap.size + 1) .u32 117 R ∧ Row W (w.heap.size + 1 + 1 + 1) .u32 117 (List.replicate (Nq - k) 0 ++ qs) ∧
    Box W w.heap.size 53 vb ∧ Box W (w.heap.size + 1 + 1) 53 (.slice (some ⟨w.heap.size + 1, 0, none⟩) (Nq + n) (Nq + n)) ∧
    Box W (w.heap.size + 1 + 1 + 1 + 1) 53 (.slice (some ⟨w.heap.size + 1 + 1 + 1, 0, none⟩) Nq Nq) ∧ Box W (w.heap.size + 1 + 1 + 1 + 1 + 1) 53 (.slice (some ⟨w.heap.size + 1 + 1 + 1, 0, none⟩) Nq Nq) ∧ Below w.heap.size w W

def DivOut (w : World) (a b : Nat) (e : Ending) (w' : World) : Prop :=
  ∃ vq vr q r, e = .returned (.tuple #[vq, vr]) ∧ Rep w' .u32 vq q ∧ Canon 1000000000 q ∧ val 1000000000 q = a / b ∧ Rep w' .u32 vr r ∧ Canon 1000000000 r ∧ val 1000000000 r = a % b ∧ Below w.heap.size w w'

theorem copy_ns (l : List Nat) : (((ns .u32 (List.replicate (l.length + 1) 0)).toList.take 0 ++ (nl .u32 l ++ (ns .u32 (List.replicate (l.length + 1) 0)).toList.drop (0 + (nl .u32 l).length))).toArray) = ns .u32 (l ++ [0]) := by
  apply Array.toList_inj.1
  simp [ns_toList, nl, List.replicate_succ']

theorem Rep.src {w wr : World} {k : IntKind} {oa : Option Addr} {n cap : Nat} {l : List Nat} (h : Rep w k (.slice oa n cap) l) (hb : Below w.heap.size w wr) {ad : Addr} (ha : oa = some ad) :
    ∀ j v, (nl k l)[j]? = some v → wr.cell? (ad.add j) = some v := by
  intro j v hv
  have hj : j < l.length := by have := (List.getElem?_eq_some_iff.1 hv).1; simpa [nl] using this
  obtain ⟨b, off, he, _, hc⟩ := h.at' hb j hj
  rw [ha] at he
  cases he
  rw [Addr.add_lit, hc, ← hv]
  simp [nl, hj]

theorem wpList_copy_words {w : World} {ops : Array Oper} {rest : List Oper} {o : Oper} {a : Act} {Q : Exit → Act → World → Prop} (hgd : o.guard = none) (d s : Operand)
    (ho : o.op = .call { callee := .builtin .copy, args := #[d, s], argTypes := #[53, 53] }) (hsz : (Try.prog.info? 117).map (·.size) = some 1)
    (g dLen dCap : Nat) (ad : Addr) (sLen sCap : Nat) (hd : a.eval d = .slice (some ⟨g, 0, none⟩) dLen dCap) (hs : a.eval s = .slice (some ad) sLen sCap)
    (l : List Nat) (hg : Row w g .u32 117 (List.replicate (l.length + 1) 0)) (hn : l.length = sLen) (hn2 : sLen ≤ dLen)
    (hsrc : ∀ j v, (nl .u32 l)[j]? = some v → w.cell? (ad.add j) = some v)
    (h : ∀ w', Row w' g .u32 117 (l ++ [0]) → (∀ k, k ≠ g → w'.heap[k]? = w.heap[k]?) → w'.heap.size = w.heap.size → w.grownBy w' (some g) → wpList Try.prog ops Q rest (a.put o.dst (.int .i64 (l.length : Nat))) w') :
    wpList Try.prog ops Q (o :: rest) a w := by
  refine wpList_copy_own hgd d s 53 53 ho 117 Try.underlying53 hsz g 0 dLen dCap ad sLen sCap hd hs (ns .u32 (List.replicate (l.length + 1) 0)) 117 hg (nl .u32 l) (by rw [nl_length, hn]; exact (Nat.min_eq_left hn2).symm) hsrc
    (by rw [nl_length, ns_size]; simp) (by intro v hv; simp [nl] at hv; obtain ⟨x, _, rfl⟩ := hv; rfl) ?_
  rw [copy_ns, nl_length]
  exact h _ (setRow_heap _ _ _ _ _ _ hg) (fun k hk => setRow_other _ _ _ _ hk) (by simp) ⟨rfl, rfl, rfl, by simp, fun k _ hk => setRow_other _ _ _ _ (fun e => hk (by rw [e]))⟩

theorem gm_of {R lb : List Nat} {o : Nat} (dR : Digs 1000000000 R) (dl : Digs 1000000000 lb) (hn : 2 ≤ lb.length) (ho : o + lb.length < R.length) (hh : lb[lb.length - 1]?.getD 0 ≠ 0) (hlt : part R o (lb.length + 1) < val 1000000000 lb * 1000000000) :
    GM (part R o (lb.length + 1)) (val 1000000000 lb) ((R[o + lb.length]?.getD 0) * 1000000000 + (R[o + (lb.length - 1)]?.getD 0)) (lb[lb.length - 1]?.getD 0) (lb[lb.length - 2]?.getD 0) (R[o + (lb.length - 2)]?.getD 0) := by
  have g9 : ∀ i, R[i]?.getD 0 < 1000000000 := fun i => by have := dR.getD i (by omega); rwa [List.getD_eq_getElem?_getD] at this
  have l9 : ∀ i, lb[i]?.getD 0 < 1000000000 := fun i => by have := dl.getD i (by omega); rwa [List.getD_eq_getElem?_getD] at this
  refine ⟨⟨1000000000 ^ (lb.length - 2), part R o (lb.length - 2), val 1000000000 (lb.take (lb.length - 2)), Nat.pow_pos (by omega), ?_, part_lt dR _ _, ?_, ?_⟩, g9 _, l9 _, by have := hh; omega, l9 _, hlt⟩
  · obtain ⟨m, hm⟩ : ∃ m, lb.length = m + 2 := ⟨lb.length - 2, by omega⟩
    rw [hm, show m + 2 - 2 = m from by omega, show m + 2 - 1 = m + 1 from by omega, part_succ, part_succ, part_succ, show 1000000000 ^ (m + 2) = 1000000000 ^ m * 1000000000 * 1000000000 from by rw [Nat.pow_succ, Nat.pow_succ], Nat.pow_succ 1000000000 m]
    generalize R[o + (m + 2)]?.getD 0 = a
    generalize R[o + (m + 1)]?.getD 0 = b
    generalize R[o + m]?.getD 0 = c
    generalize 1000000000 ^ m = X
    rw [Nat.add_mul _ c, Nat.add_mul (a * 1000000000) b, Nat.add_mul]
    rw [Nat.mul_comm c X, show X * 1000000000 * b = b * 1000000000 * X from by rw [Nat.mul_right_comm, Nat.mul_comm X b, Nat.mul_right_comm], show X * 1000000000 * 1000000000 * a = a * 1000000000 * 1000000000 * X from by
      rw [Nat.mul_comm (X * 1000000000 * 1000000000) a, ← Nat.mul_assoc, ← Nat.mul_assoc, Nat.mul_right_comm a X, Nat.mul_right_comm (a * 1000000000) X]]
    omega
  · obtain ⟨m, hm⟩ : ∃ m, lb.length = m + 2 := ⟨lb.length - 2, by omega⟩
    have e := val_take_next 1000000000 lb (m + 1)
    rw [List.take_of_length_le (by omega : lb.length ≤ m + 1 + 1), val_take_next 1000000000 lb m, Nat.pow_succ] at e
    rw [hm, show m + 2 - 2 = m from by omega, show m + 2 - 1 = m + 1 from by omega, e]
    generalize lb[m + 1]?.getD 0 = a
    generalize lb[m]?.getD 0 = b
    generalize 1000000000 ^ m = X
    rw [Nat.add_mul, Nat.mul_comm b X, show X * 1000000000 * a = a * 1000000000 * X from by rw [Nat.mul_right_comm, Nat.mul_comm X a, Nat.mul_right_comm]]
    omega
  · have := val_lt (B := 1000000000) (by omega) (dl.take (lb.length - 2))
    rwa [List.length_take, Nat.min_eq_left (by omega)] at this

theorem top_ne {l : List Nat} (h : Top l) (hl : 0 < l.length) : l[l.length - 1]?.getD 0 ≠ 0 := by
  intro h0
  apply h
  rw [List.getLast?_eq_getElem?, List.getElem?_eq_getElem (by omega)]
  rw [List.getElem?_eq_getElem (by omega)] at h0
  exact congrArg some h0

theorem DivI.close {w W W3 : World} {vb : Value} {la v n Nq k t d : Nat} {m qs : List Nat} (hk : k < Nq) (ht : Nq - 1 - k = t) (hn : DivNums la v n Nq (k + 1) m (d :: qs)) (hq : qs.length = k) (hko : KeepsOthers W W3)
    (h2 : Row W3 (w.heap.size + 1) .u32 117 m) (h3 : Row W3 (w.heap.size + 1 + 1 + 1) .u32 117 (List.replicate (Nq - k) 0 ++ qs)) (h4 : Box W3 w.heap.size 53 vb)
    (h5 : Box W3 (w.heap.size + 1 + 1) 53 (.slice (some ⟨w.heap.size + 1, 0, none⟩) (Nq + n) (Nq + n))) (h6 : Box W3 (w.heap.size + 1 + 1 + 1 + 1) 53 (.slice (some ⟨w.heap.size + 1 + 1 + 1, 0, none⟩) Nq Nq))
    (h7 : Box W3 (w.heap.size + 1 + 1 + 1 + 1 + 1) 53 (.slice (some ⟨w.heap.size + 1 + 1 + 1, 0, none⟩) Nq Nq)) (h8 : Below w.heap.size w W3) (A : Act) :
    DownPost (DivI w vb la v n Nq) (fun _ _ => False) k W .normal A (W3.setCell ⟨w.heap.size + 1 + 1 + 1, t, none⟩ (.int .u32 (d : Nat))) := by
  refine ⟨hko.trans (KeepsOthers.setCell _ _ _), m, d :: qs, hn, h2.other _ _ (by simp <;> omega), ?_, h4.other _ _ (by simp <;> omega), h5.other _ _ (by simp <;> omega), h6.other _ _ (by simp <;> omega), h7.other _ _ (by simp <;> omega), h8.setCell (p := ⟨w.heap.size + 1 + 1 + 1, t, none⟩) (by simp <;> omega) _⟩
  rw [← set_prev hk, ht]
  exact h3.set t d

set_option maxRecDepth 100000 in
set_option maxHeartbeats 4000000 in
theorem divideLong_core (la lb : List Nat) (oa ob : Option Addr) (na ca nb cb : Nat) (hna : na ≤ 10000000000) (hn2 : 2 ≤ nb) (hnb : nb ≤ na) (da : Digs 1000000000 la) (db : Canon 1000000000 lb) (w : World)
    (hra : Rep w .u32 (.slice oa na ca) la) (hrb : Rep w .u32 (.slice ob nb cb) lb) :
    Calls Try.prog 132 #[.slice oa na ca, .slice ob nb cb] w (DivOut w (val 1000000000 la) (val 1000000000 lb)) := by
  have ea := hra.len
  have eb := hrb.len
  have Ha := Lib.hid hra; clear hra
  have Hb := Lib.hid hrb; clear hrb
  have Da := Lib.hid da; clear da
  have Db := Lib.hid db; clear db
  obtain ⟨rfl, _⟩ := ea
  obtain ⟨rfl, _⟩ := eb
  have hmk1 := fun w => make_words w ((la.length : Int) + 1) ((la.length : Int) + 1) (by omega) (by omega) (by omega)
  have hmk2 := fun w => make_words w ((la.length : Int) - (lb.length : Int) + 1) ((la.length : Int) - (lb.length : Int) + 1) (by omega) (by omega) (by omega)
  obtain ⟨i0, hi, hz0, hz1, hz2⟩ := info_parts Try.info117
  refine (callsIn_wide (n := 5)).1 ?_
  refine callsIn_of_wp_marks Try.func132 rfl trivial ?_ rfl
  refine wpIn_wide.2 ?_
  simp only [Try.ntmps132, List.size_toArray, List.length_cons, List.length_nil, Nat.reduceAdd, Nat.reduceSub, Array.replicate_succ, Array.replicate_zero, List.push_toArray, List.append_toArray, List.nil_append, List.cons_append]
  have hsz1 : (Try.prog.info? 117).map (·.size) = some 1 := by rw [hi]; simp [hz1]
  obtain ⟨ba, oa', hoa, _⟩ := Ha.out.at' (Below.refl _ _) 0 (by omega)
  subst hoa
  have r0 : Row (((w.alloc (.cells #[.slice ob lb.length cb] 53)).alloc (.cells (ns .u32 (List.replicate (la.length + 1) 0)) 117)).alloc (.cells #[.slice (some ⟨w.heap.size + 1, 0, none⟩) (la.length + 1) (la.length + 1)] 53)) (w.heap.size + 1) .u32 117 (List.replicate (la.length + 1) 0) := by
    unfold Row; rw [alloc_lt _ _ _ (by simp <;> omega)]; exact alloc_at _ _ _ (by simp)
  have x0 : (((w.alloc (.cells #[.slice ob lb.length cb] 53)).alloc (.cells (ns .u32 (List.replicate (la.length + 1) 0)) 117)).alloc (.cells #[.slice (some ⟨w.heap.size + 1, 0, none⟩) (la.length + 1) (la.length + 1)] 53)).heap[w.heap.size]? = some (.cells #[.slice ob lb.length cb] 53) := by
    rw [alloc_lt _ _ _ (by simp <;> omega), alloc_lt _ _ _ (by simp)]; exact alloc_at _ _ _ (by simp)
  have x2 : (((w.alloc (.cells #[.slice ob lb.length cb] 53)).alloc (.cells (ns .u32 (List.replicate (la.length + 1) 0)) 117)).alloc (.cells #[.slice (some ⟨w.heap.size + 1, 0, none⟩) (la.length + 1) (la.length + 1)] 53)).heap[w.heap.size + 1 + 1]? = some (.cells #[.slice (some ⟨w.heap.size + 1, 0, none⟩) (la.length + 1) (la.length + 1)] 53) := alloc_at _ _ _ (by simp)
  have hbw : Below w.heap.size w (((w.alloc (.cells #[.slice ob lb.length cb] 53)).alloc (.cells (ns .u32 (List.replicate (la.length + 1) 0)) 117)).alloc (.cells #[.slice (some ⟨w.heap.size + 1, 0, none⟩) (la.length + 1) (la.length + 1)] 53)) := (((Below.refl _ w).alloc (Nat.le_refl _) _).alloc (by simp) _).alloc (by simp <;> omega) _
  have hsrc := Lib.hid (Ha.out.src hbw rfl)
  have X0 := Lib.hid x0
  have X2 := Lib.hid x2
  have R0 := Lib.hid r0
  clear x0 x2 r0
  go_wp2_with (first
    | (refine wpList_copy_words rfl (.tmp 15) (.tmp 16) rfl hsz1 (w.heap.size + 1) _ _ _ _ _ rfl rfl la R0.out rfl (Nat.le_succ _) hsrc.out ?_; intro W1 r1 o1 z1 g1; have k0 : Box W1 w.heap.size 53 _ := (o1 _ (by omega)).trans X0.out; have k2 : Box W1 (w.heap.size + 1 + 1) 53 _ := (o1 _ (by omega)).trans X2.out; have c0 := k0.cell; clear o1 X0 X2 R0 hsrc; have R1 := Lib.hid r1; clear r1)
    | (go_at_call 129; refine (down_any _ _ _ _).mono ?_; rintro e w' ⟨rfl, rfl⟩))
  have hN : ∃ Nq, la.length - lb.length + 1 = Nq ∧ la.length + 1 = Nq + lb.length ∧ 1 ≤ Nq ∧ Nq ≤ 10000000001 := ⟨_, rfl, by omega, by omega, by omega⟩
  obtain ⟨Nq, hN1, hN2, hN3, hN4⟩ := hN
  rw [hN1]
  have hbW1 : Below w.heap.size w W1 := hbw.grown g1 (by simp <;> omega) (fun k e => by cases e; omega)
  have z1' : W1.heap.size = w.heap.size + 1 + 1 + 1 := by rw [z1]; simp
  obtain ⟨W0, hW0⟩ : ∃ W0, W0 = ((W1.alloc (.cells (ns .u32 (List.replicate Nq 0)) 117)).alloc (.cells #[.slice (some ⟨w.heap.size + 1 + 1 + 1, 0, none⟩) Nq Nq] 53)).alloc (.cells #[.slice (some ⟨w.heap.size + 1 + 1 + 1, 0, none⟩) Nq Nq] 53) := ⟨_, rfl⟩
  rw [← hW0]
  have b0 : Box W0 w.heap.size 53 (.slice ob lb.length cb) := by rw [hW0]; exact ((k0.alloc _).alloc _).alloc _
  have b1 : Row W0 (w.heap.size + 1) .u32 117 (la ++ [0]) := by rw [hW0]; exact ((R1.out.alloc _).alloc _).alloc _
  have b2 : Box W0 (w.heap.size + 1 + 1) 53 (.slice (some ⟨w.heap.size + 1, 0, none⟩) (Nq + lb.length) (Nq + lb.length)) := by rw [hW0, ← hN2]; exact ((k2.alloc _).alloc _).alloc _
  have b3 : Row W0 (w.heap.size + 1 + 1 + 1) .u32 117 (List.replicate Nq 0) := by
    rw [hW0]; unfold Row; rw [alloc_lt _ _ _ (by simp <;> omega), alloc_lt _ _ _ (by simp <;> omega)]; exact alloc_at _ _ _ (by omega)
  have b4 : Box W0 (w.heap.size + 1 + 1 + 1 + 1) 53 (.slice (some ⟨w.heap.size + 1 + 1 + 1, 0, none⟩) Nq Nq) := by
    rw [hW0]; unfold Box; rw [alloc_lt _ _ _ (by simp <;> omega)]; exact alloc_at _ _ _ (by simp <;> omega)
  have b5 : Box W0 (w.heap.size + 1 + 1 + 1 + 1 + 1) 53 (.slice (some ⟨w.heap.size + 1 + 1 + 1, 0, none⟩) Nq Nq) := by
    rw [hW0]; exact alloc_at _ _ _ (by simp <;> omega)
  have b6 : Below w.heap.size w W0 := by rw [hW0]; exact ((hbW1.alloc (by omega) _).alloc (by simp <;> omega) _).alloc (by simp <;> omega) _
  have hsz : W0.heap.size = w.heap.size + 1 + 1 + 1 + 1 + 1 + 1 := by rw [hW0]; simp <;> omega
  clear hW0 k0 k2 c0 R1 g1 z1 z1' hbW1 hbw hmk1 hmk2
  have hv0 : 0 < val 1000000000 lb := val_pos (by omega) Db.out.2 (by intro e; rw [e] at hn2; simp at hn2)
  have hvl := val_lt (B := 1000000000) (by omega) Db.out.1
  have hstart : DivNums (val 1000000000 la) (val 1000000000 lb) lb.length Nq 0 (la ++ [0]) [] := DivNums.start Da.out hN2 (by omega) (pow_le_val Db.out.2 (by intro e; rw [e] at hn2; simp at hn2))
  have hN2a : la.length + 1 ≤ Nq + lb.length := by omega
  have hN2b : Nq + lb.length ≤ la.length + 1 := by omega
  clear hN1 hN2
  refine (wpIn_wide (n := 5)).1 ?_
  refine wpIn_down 5 (w.heap.size + 1 + 1 + 1 + 1 + 1) (some ⟨w.heap.size + 1 + 1 + 1, 0, none⟩) Nq Nq (by omega) rfl rfl (DivI w (.slice ob lb.length cb) (val 1000000000 la) (val 1000000000 lb) lb.length Nq) (fun _ _ => False) ?hI ?hIx ?hRd
    ⟨la ++ [0], [], hstart, b1, by simpa using b3, b0, b2, b4, b5, b6⟩
    (fun k x => { tmps := #[.slice (some ⟨ba, oa', none⟩) la.length ca, .slice ob lb.length cb, undef, .pointer (some ⟨w.heap.size, 0, none⟩), .slice none 0 0, .slice none 0 0, .pointer (some ⟨w.heap.size + 1 + 1, 0, none⟩), .pointer (some ⟨w.heap.size + 1 + 1 + 1 + 1, 0, none⟩),
      .int .i64 ((Nq - 1 - k : Nat) : Int), undef, undef, .slice (some ⟨ba, oa', none⟩) la.length ca, .int .i64 la.length, .int .i64 (la.length + 1), .slice (some ⟨w.heap.size + 1, 0, none⟩) (la.length + 1) (la.length + 1),
      .slice (some ⟨w.heap.size + 1, 0, none⟩) (la.length + 1) (la.length + 1), .slice (some ⟨ba, oa', none⟩) la.length ca, .int .i64 la.length, .slice (some ⟨ba, oa', none⟩) la.length ca, .int .i64 la.length, .slice ob lb.length cb, .int .i64 lb.length,
      .int .i64 (la.length - lb.length), .int .i64 (la.length - lb.length + 1), .slice (some ⟨w.heap.size + 1 + 1 + 1, 0, none⟩) Nq Nq, .slice (some ⟨w.heap.size + 1 + 1 + 1, 0, none⟩) Nq Nq,
      .func (.func 136) #[] #[.pointer (some ⟨w.heap.size + 1 + 1 + 1 + 1 + 1, 0, none⟩)], .int .i64 ((Nq - 1 - k : Nat) : Int), .int .u32 x, undef, undef, undef, undef, undef, undef, undef, undef, undef, undef, undef, undef, undef, undef, undef, undef, undef, undef, undef, undef, undef, undef, undef, undef, undef, undef, undef, undef], defers := [] }) ?assign ?body ?done ?stop
  case hI => exact fun k W W' ⟨R, qs, h1, h2, h3, h4, h5, h6, h7, h8⟩ t => ⟨R, qs, h1, h2.turn t, h3.turn t, h4.turn t, h5.turn t, h6.turn t, h7.turn t, h8.trans (t.below.mono (by omega))⟩
  case hIx => exact fun c W W' h t => h
  case hRd => exact fun k W ⟨R, qs, h1, h2, h3, h4, h5, h6, h7, h8⟩ => ⟨h7.cell, fun hk => ⟨_, _, _, rfl, by rw [Nat.zero_add]; exact h3.cell _ (by rw [List.length_append, List.length_replicate, h1.qlen]; omega)⟩⟩
  case assign =>
    intro _ k x W K hK
    gi_wp2
    exact hK
  case body =>
    rintro l k b off x W ⟨R, qs, h1, h2, h3, h4, h5, h6, h7, h8⟩ hk hoa hx
    clear b0 b1 b2 b3 b4 b5 b6 hoa hx hstart
    obtain ⟨t, ht⟩ : ∃ t, Nq - 1 - k = t := ⟨_, rfl⟩
    obtain ⟨hP, hz⟩ := h1.P hk hvl
    have hnext := fun m => DivNums.next h1 hk hv0 hvl (m := m)
    rw [ht] at hP hz hnext ⊢
    have hRl := h1.len
    have hd := h1.digs
    have hql := h1.qlen
    have htq : t < Nq := by omega
    have gm := gm_of hd Db.out.1 hn2 (by omega) (top_ne Db.out.2 (by omega)) hP
    have g9 : ∀ i, R[i]?.getD 0 < 1000000000 := fun i => by have := hd.getD i (by omega); rwa [List.getD_eq_getElem?_getD] at this
    have rc : ∀ i, i < R.length → W.cell? ⟨w.heap.size + 1, i, none⟩ = some (.int .u32 (R[i]?.getD 0 : Nat)) := fun i hi => by rw [h2.cell i hi, List.getElem?_eq_getElem hi]; rfl
    obtain ⟨bb, bo, hob, hbb, _⟩ := Hb.out.at' h8 0 (by omega)
    subst hob
    have lc : ∀ i, i < lb.length → W.cell? ⟨bb, bo + i, none⟩ = some (.int .u32 (lb[i]?.getD 0 : Nat)) := fun i hi => by
      obtain ⟨b', o', he, _, hc⟩ := Hb.out.at' h8 i hi
      cases he
      rw [hc, List.getElem?_eq_getElem hi]; rfl
    have Hg := Lib.hid (guess_core _ _ _ _ _ _ _ gm (g9 _) (g9 _) (w.heap.size + 1) t (lb.length + 1) (Nq + lb.length - t) bb bo lb.length cb rfl hn2 (by omega) W (rc _ (by omega)) (rc _ (by omega)) (rc _ (by omega)) (lc _ (by omega)) (lc _ (by omega)))
    have HbW : Rep W .u32 (.slice (some ⟨bb, bo, none⟩) lb.length cb) lb := Hb.out.below h8 (Nat.le_refl _)
    have Hs := Lib.hid (fun q (hq : q < 1000000000) (W' : World) (hr : Row W' (w.heap.size + 1) .u32 117 R) (hb : Rep W' .u32 (.slice (some ⟨bb, bo, none⟩) lb.length cb) lb) =>
      subtractTimes_core R lb (w.heap.size + 1) t (lb.length + 1) (Nq + lb.length - t) q (by omega) (by omega) (by omega) hq hd Db.out.1 (some ⟨bb, bo, none⟩) lb.length cb W' hr hb (fun b off e => by cases e; omega))
    have Hd := Lib.hid hd
    have Hnext := Lib.hid hnext
    have HP := Lib.hid hP
    have H2 := Lib.hid h2
    have H3 := Lib.hid h3
    have HBW := Lib.hid HbW
    have c0 := h4.cell
    have c2 := h5.cell
    have c4 := h6.cell
    have hpart := Lib.hid (part_lt hd t (lb.length + 1))
    clear gm g9 rc lc hd hnext hP hz h1 h2 h3 HbW
    have hi1 : (t : Int) + (lb.length : Int) + 1 ≤ (Nq : Int) + (lb.length : Int) := by omega
    gi_wp2_with fail
    refine ⟨trivial, ?_⟩
    rw [show t + lb.length + 1 - t = lb.length + 1 from by omega]
    refine (CallsIn.inRound l (callsIn_wide.2 Hg.out)).mono ?_
    rintro e W2 ⟨q, nq, rfl, hq9, hq1, hq2, rfl⟩
    have Hq1 := Lib.hid hq1; clear hq1
    have Hq2 := Lib.hid hq2; clear hq2
    gi_wp2_with fail
    refine ⟨trivial, ?_⟩
    refine (CallsIn.inRound l (callsIn_wide.2 (Hs.out q hq9 (W.drewN nq) H2.out HBW.out))).mono ?_
    rintro e W2 ⟨m, c, rfl, hm, hdm, hsm, hsum, honly⟩
    have hrd := div_round hv0 (Nat.le_of_lt (Nat.lt_of_lt_of_le hvl (Nat.pow_le_pow_right (by omega) (Nat.le_succ _)))) Hq1.out Hq2.out hsum (part_lt hdm _ _)
    have hq9' : part R t (lb.length + 1) / val 1000000000 lb < 1000000000 := by rw [Nat.div_lt_iff_lt_mul hv0, Nat.mul_comm]; exact HP.out
    have ho : ∀ j, j ≠ w.heap.size + 1 → W2.heap[j]? = W.heap[j]? := fun j hj => by
      rcases Nat.lt_or_ge j W.heap.size with h | h
      · exact honly.2.1.block (w := W.drewN nq) j h (fun e => hj (Option.some.inj e))
      · rw [Array.getElem?_eq_none h, Array.getElem?_eq_none (by rw [honly.2.2]; exact h)]
    have hbel : Below w.heap.size w W2 := (h8.trans ⟨rfl, rfl, rfl, Nat.le_refl _, fun _ _ => rfl⟩ : Below w.heap.size w (W.drewN nq)).grown honly.2.1 (by have := h8.size; exact this) (fun k e => by cases e; omega)
    have hkeep : KeepsOthers W W2 := ⟨by rw [honly.2.2]; exact Nat.le_refl _, fun j o hj hoc => by
      refine (ho j (fun e => ?_)).trans hj
      subst e
      rw [H2.out] at hj
      cases hj; cases hoc⟩
    have H4 : Hid (Box W2 w.heap.size 53 _) := (ho _ (by omega)).trans h4
    have H5 : Hid (Box W2 (w.heap.size + 1 + 1) 53 _) := (ho _ (by omega)).trans h5
    have H6 : Hid (Box W2 (w.heap.size + 1 + 1 + 1 + 1) 53 _) := (ho _ (by omega)).trans h6
    have H7 : Hid (Box W2 (w.heap.size + 1 + 1 + 1 + 1 + 1) 53 _) := (ho _ (by omega)).trans h7
    have H3' : Hid (Row W2 (w.heap.size + 1 + 1 + 1) .u32 117 (List.replicate (Nq - k) 0 ++ qs)) := (ho _ (by omega)).trans H3.out
    have Hm := Lib.hid hm
    have Hdm := Lib.hid hdm
    have Hsm := Lib.hid hsm
    have Hrd := Lib.hid hrd
    have Hrow := Lib.hid honly.1
    have hdc0 := H4.out.cell
    have hdc6 := H6.out.cell
    have hd3f := H3'.out.free t
    have hd3c := H3'.out.cell t (by rw [List.length_append, List.length_replicate, hql]; omega)
    generalize (List.replicate (Nq - k) 0 ++ qs)[t]'_ = old at hd3c
    clear hm hdm hsm hsum hrd ho honly h4 h5 h6 h7 h8 c0 c2 c4
    by_cases hc : 0 < c
    · have hcd : decide (0 < c) = true := by simp [hc]
      rw [hcd]
      obtain ⟨hqe, -, hadd⟩ := Hrd.out.2 hc
      have Hadd := Lib.hid hadd; clear hadd
      have Hqe := Lib.hid hqe; clear hqe
      gi_wp2_with fail
      refine ⟨trivial, ?_⟩
      refine (CallsIn.inRound l (callsIn_wide.2 (addBack_core m lb (w.heap.size + 1) t (lb.length + 1) (Nq + lb.length - t) (by omega) (by have := Hm.out; omega) (by omega) Hdm.out Db.out.1 (some ⟨bb, bo, none⟩) lb.length cb W2 Hrow.out (Hb.out.below hbel (Nat.le_refl _)) (fun b off e => by cases e; omega)))).mono ?_
      rintro e W3 ⟨m2, c2, rfl, hm2, hdm2, hsm2, hsum2, honly⟩
      have ho : ∀ j, j ≠ w.heap.size + 1 → W3.heap[j]? = W2.heap[j]? := fun j hj => by
        rcases Nat.lt_or_ge j W2.heap.size with h | h
        · exact honly.2.1.block j h (fun e => hj (Option.some.inj e))
        · rw [Array.getElem?_eq_none h, Array.getElem?_eq_none (by rw [honly.2.2]; exact h)]
      have hbel3 : Below w.heap.size w W3 := hbel.grown honly.2.1 hbel.size (fun k e => by cases e; omega)
      have hkeep3 : KeepsOthers W W3 := hkeep.trans ⟨by rw [honly.2.2]; exact Nat.le_refl _, fun j o hj hoc => by
        refine (ho j (fun e => ?_)).trans hj
        subst e
        have h2 : W2.heap[w.heap.size + 1]? = _ := Hrow.out
        rw [h2] at hj
        cases hj; cases hoc⟩
      have K4 : Hid (Box W3 w.heap.size 53 _) := (ho _ (by omega)).trans H4.out
      have K5 : Hid (Box W3 (w.heap.size + 1 + 1) 53 _) := (ho _ (by omega)).trans H5.out
      have K6 : Hid (Box W3 (w.heap.size + 1 + 1 + 1 + 1) 53 _) := (ho _ (by omega)).trans H6.out
      have K7 : Hid (Box W3 (w.heap.size + 1 + 1 + 1 + 1 + 1) 53 _) := (ho _ (by omega)).trans H7.out
      have K3 : Hid (Row W3 (w.heap.size + 1 + 1 + 1) .u32 117 (List.replicate (Nq - k) 0 ++ qs)) := (ho _ (by omega)).trans H3'.out
      have Krow : Hid (Row W3 (w.heap.size + 1) .u32 117 m2) := honly.1
      have e3 := World.cell?_of_block (w := W2) (w' := W3) (a := ⟨w.heap.size + 1 + 1 + 1, t, none⟩) (ho _ (by simp <;> omega))
      have e3f := World.frozen?_of_block (w := W2) (w' := W3) (a := ⟨w.heap.size + 1 + 1 + 1, t, none⟩) (ho _ (by simp <;> omega))
      rw [hd3c] at e3
      rw [hd3f] at e3f
      have e6 := K6.out
      have e6c := Box.cell e6
      have hnums := Hnext.out m2 (by rw [hm2]; exact Hm.out) hdm2 (fun j hj => (hsm2 j hj).trans (Hsm.out j hj)) (Hadd.out _ c2 hsum2 (part_lt hdm2 _ _)) hq9'
      have Hfin := Lib.hid (fun A => DivI.close hk ht hnums hql hkeep3 Krow.out K3.out K4.out K5.out K6.out K7.out hbel3 A)
      have hq0 : 1 ≤ q := by rw [Hqe.out]; exact Nat.le_add_left 1 _
      have hq1 : (1 : Int) ≤ (q : Int) := by omega
      clear hq0
      clear ho hsum2 honly hbel hbel3 hkeep hkeep3 hd3c hd3f hdc0 hdc6 hm2 hdm2 hsm2 hnums e6
      gi_wp2
      have hfe : Value.int .u32 ((q : Int) - 1) = .int .u32 (part R t (lb.length + 1) / val 1000000000 lb : Nat) := u32_eq (by rw [Hqe.out]; omega)
      rw [hfe]
      exact Hfin.out _
    · have hcd : decide (0 < c) = false := by simp [hc]
      rw [hcd]
      obtain ⟨hqe, hpe⟩ := Hrd.out.1 hc
      have Hqe := Lib.hid hqe; clear hqe
      have hnums := Hnext.out m Hm.out Hdm.out Hsm.out hpe hq9'
      have Hfin := Lib.hid (fun A => DivI.close hk ht hnums hql hkeep Hrow.out H3'.out H4.out H5.out H6.out H7.out hbel A)
      clear hnums hpe hbel hkeep
      gi_wp2
      have hfe : Value.int .u32 (q : Int) = .int .u32 (part R t (lb.length + 1) / val 1000000000 lb : Nat) := u32_eq (by rw [Hqe.out])
      rw [hfe]
      exact Hfin.out _
  case done =>
    rintro E W hE ⟨R, qs, h1, h2, h3, h4, h5, h6, h7, h8⟩ hd
    obtain ⟨hq1, hq2⟩ := h1.done hv0
    rw [Nat.sub_self, List.replicate_zero, List.nil_append] at h3
    have hrq : Rep W .u32 (.slice (some ⟨w.heap.size + 1 + 1 + 1, 0, none⟩) Nq Nq) qs := by
      have := Rep.rowAll h3 Nq (by rw [h1.qlen]; omega); rwa [h1.qlen] at this
    have hrr : Rep W .u32 (.slice (some ⟨w.heap.size + 1, 0, none⟩) (Nq + lb.length) (Nq + lb.length)) R := by
      have := Rep.rowAll h2 (Nq + lb.length) (by rw [h1.len]; omega); rwa [h1.len] at this
    have Hcq := Lib.hid (canon_trim h1.qdigs)
    have Hcr := Lib.hid (canon_trim h1.digs)
    have HQ1 := Lib.hid hq1; clear hq1
    have HQ2 := Lib.hid hq2; clear hq2
    have c5 := h5.cell
    have c6 := h6.cell
    have T1 := fun w' (hb : Below W.heap.size W w') => trimmed_n _ qs Nq Nq (by omega) w' (hrq.below hb (Nat.le_refl _))
    have T2 := fun w' (hb : Below W.heap.size W w') => trimmed_n _ R (Nq + lb.length) (Nq + lb.length) (by omega) w' (hrr.below hb (Nat.le_refl _))
    have HT1 := Lib.hid T1; clear T1
    have HT2 := Lib.hid T2; clear T2
    have H8 := Lib.hid h8
    have H5 := Lib.hid h5
    have H6 := Lib.hid h6
    clear h1 h2 h3 h4 h5 h6 h7 h8 b0 b1 b2 b3 b4 b5 b6 hrq hrr hstart hv0 hvl
    go_wp2
    refine wp_mono (Q := OnlyNormal fun a' w' => ∃ vq vr, a'.tmps.size = 57 ∧ a'.tmps.getD 4 undef = vq ∧ a'.tmps.getD 5 undef = vr ∧ a'.defers = [{ target := Target.collected E, args := #[] }] ∧ Rep w' .u32 vq (trim qs) ∧ Rep w' .u32 vr (trim R) ∧ Below W.heap.size W w') ?reg (OnlyNormal.elim ?after)
    case reg =>
      go_region_with (go_at_call 130; first
        | ((with_reducible refine (HT1.out _ ?_).mono ?_); (focus (repeat (first | assumption | exact Below.refl _ _ | apply Below.drew))); rintro e w1 ⟨vq, rfl, hvq, hbq⟩; have hbq' : Below W.heap.size W w1 := ((Below.refl W.heap.size W).drew).trans hbq; have c6' := (hbq.cell (p := ⟨w.heap.size + 1 + 1, 0, none⟩) (by exact H5.out.lt)).trans c5)
        | ((with_reducible refine (HT2.out _ ?_).mono ?_); (focus (repeat (first | assumption | exact Below.refl _ _ | apply Below.drew))); rintro e w2 ⟨vr, rfl, hvr, hbr⟩))
      all_goals exact ⟨vq, vr, rfl, rfl, rfl, rfl, hvq.below hbr (Nat.le_refl _), hvr, hbq'.trans (hbr.mono hbq'.size)⟩
    case after =>
      rintro a' w' ⟨vq, vr, hsz', h4, h5, hdef, hvq, hvr, hb⟩
      have hd' := (hb.block E (lt_of_block hd)).trans hd
      obtain ⟨tm, df⟩ := a'
      simp only at hsz' h4 h5 hdef
      subst hdef
      go_wp2
      have t := Turn.put (B := w.heap.size) (.deferred none) (by omega) hd' rfl
      have h4' : tm[4]?.getD undef = vq := by simpa using h4
      have h5' : tm[5]?.getD undef = vr := by simpa using h5
      refine ⟨by simp, .inl ⟨_, _, rfl, run_takeDeferred hd', .tuple #[vq, vr], by simp [results, Try.f132, go_sem, h4', h5'], ?_⟩⟩
      exact ⟨vq, vr, _, _, rfl, hvq.turn t, Hcq.out, by rw [val_trim]; exact HQ1.out, hvr.turn t, Hcr.out, by rw [val_trim]; exact HQ2.out, (H8.out.trans (hb.mono H8.out.size)).trans t.below⟩
  case stop =>
    rintro E c W hE h hd
    exact h.elim
end Go.Proofs.Ytlkdahgfnfdakaa

namespace Go.Proofs.Ytlkdahgfnfdakaa
open Go.RowKit Go.Shelf WN

/-- how many words a number has -/
def Len (n : Nat) : Nat := (ofNat 1000000000 n).length

/-- v is a slice of words that holds the number n -/
def Num (w : World) (v : Value) (n : Nat) : Prop := ∃ l, Rep w .u32 v l ∧ Canon 1000000000 l ∧ val 1000000000 l = n

theorem Num.len {w : World} {l : List Nat} {n : Nat} (h : Canon 1000000000 l) (hv : val 1000000000 l = n) : l.length = Len n := by
  unfold Len; rw [ofNat_unique (by omega) h hv]
theorem Num.below {w w' : World} {v : Value} {n : Nat} (h : Num w v n) {B : Nat} (hb : Below B w w') (hB : w.heap.size ≤ B) : Num w' v n := by
  obtain ⟨l, h1, h2⟩ := h; exact ⟨l, h1.below hb hB, h2⟩
theorem Num.nil (w : World) : Num w (.slice none 0 0) 0 := ⟨[], Rep.nil w _, ⟨Digs.nil _, Top.nil⟩, rfl⟩

theorem len_lt {n k : Nat} (h : n < 1000000000 ^ k) : Len n ≤ k := len_le_of_lt (B := 1000000000) (by omega) (ofNat_canon (by omega) n).2 (by rw [val_ofNat (by omega)]; exact h)
theorem lt_len (n : Nat) : n < 1000000000 ^ Len n := by
  have := val_lt (B := 1000000000) (by omega) (ofNat_canon (B := 1000000000) (by omega) n).1
  rwa [val_ofNat (by omega)] at this
theorem len_mono {n m : Nat} (h : n ≤ m) : Len n ≤ Len m := len_lt (Nat.lt_of_le_of_lt h (lt_len m))
theorem len_add (n m : Nat) : Len (n + m) ≤ max (Len n) (Len m) + 1 := by
  apply len_lt
  have h1 := lt_len n
  have h2 := lt_len m
  have h3 : 1000000000 ^ Len n ≤ 1000000000 ^ max (Len n) (Len m) := Nat.pow_le_pow_right (by omega) (Nat.le_max_left _ _)
  have h4 : 1000000000 ^ Len m ≤ 1000000000 ^ max (Len n) (Len m) := Nat.pow_le_pow_right (by omega) (Nat.le_max_right _ _)
  rw [Nat.pow_succ]
  omega
theorem len_mul (n m : Nat) : Len (n * m) ≤ Len n + Len m := by
  apply len_lt
  rw [Nat.pow_add]
  rcases Nat.eq_zero_or_pos m with h | h
  · subst h; rw [Nat.mul_zero]; exact Nat.mul_pos (Nat.pow_pos (by omega)) (Nat.pow_pos (by omega))
  · exact Nat.lt_of_lt_of_le (Nat.mul_lt_mul_of_pos_right (lt_len n) h) (Nat.mul_le_mul_left _ (Nat.le_of_lt (lt_len m)))
theorem len_zero : Len 0 = 0 := by unfold Len; rfl
theorem len_small {n : Nat} (h : n < 1000000000) : Len n ≤ 1 := len_lt (by rw [Nat.pow_one]; exact h)
theorem len_le_of_len {n m : Nat} (h : Len n < Len m) : n < m := by
  rcases Nat.lt_or_ge n m with h' | h'
  · exact h'
  · have := len_mono h'; omega

def Ret1 (w : World) (n : Nat) (e : Ending) (w' : World) : Prop := ∃ v, e = .returned v ∧ Num w' v n ∧ Below w.heap.size w w'
def Ret2 (w : World) (n m : Nat) (e : Ending) (w' : World) : Prop := ∃ v1 v2, e = .returned (.tuple #[v1, v2]) ∧ Num w' v1 n ∧ Num w' v2 m ∧ Below w.heap.size w w'

theorem plus_num {w : World} {va vb : Value} {a b : Nat} (ha : Num w va a) (hb : Num w vb b) (la : Len a ≤ 10000000000) (lb : Len b ≤ 10000000000) : Calls Try.prog 116 #[va, vb] w (Ret1 w (a + b)) := by
  obtain ⟨l, ra, ca, hva⟩ := ha
  obtain ⟨m, rb, cb, hvb⟩ := hb
  have e1 := Num.len (w := w) ca hva
  have e2 := Num.len (w := w) cb hvb
  by_cases h : m.length ≤ l.length
  · refine (plus_core l m h (by omega) ca.1 cb.1 va vb w ra rb _ (.inl rfl)).mono ?_
    rintro e w' ⟨v, s, rfl, hr, hd, ht, hv, hb⟩
    exact ⟨v, rfl, ⟨s, hr, ⟨hd, ht ca.2⟩, by rw [hv, hva, hvb]⟩, hb⟩
  · refine (plus_core m l (by omega) (by omega) cb.1 ca.1 vb va w rb ra _ (.inr ⟨rfl, by omega⟩)).mono ?_
    rintro e w' ⟨v, s, rfl, hr, hd, ht, hv, hb⟩
    exact ⟨v, rfl, ⟨s, hr, ⟨hd, ht cb.2⟩, by rw [hv, hva, hvb, Nat.add_comm]⟩, hb⟩

theorem minus_num {w : World} {va vb : Value} {a b : Nat} (ha : Num w va a) (hb : Num w vb b) (la : Len a ≤ 10000000000) (hle : b ≤ a) : Calls Try.prog 133 #[va, vb] w (Ret1 w (a - b)) := by
  obtain ⟨l, ra, ca, hva⟩ := ha
  obtain ⟨m, rb, cb, hvb⟩ := hb
  have e1 := Num.len (w := w) ca hva
  have e2 := Num.len (w := w) cb hvb
  have e3 := len_mono hle
  refine (minus_core l m (by omega) (by omega) ca.1 cb.1 (by omega) va vb w ra rb).mono ?_
  rintro e w' ⟨v, s, rfl, hr, hc, hv, hb⟩
  exact ⟨v, rfl, ⟨s, hr, hc, by omega⟩, hb⟩

theorem times_num {w : World} {va vb : Value} {a b : Nat} (ha : Num w va a) (hb : Num w vb b) (la : Len a ≤ 10000000000) (lb : Len b ≤ 10000000000) : Calls Try.prog 108 #[va, vb] w (Ret1 w (a * b)) := by
  obtain ⟨l, ra, ca, hva⟩ := ha
  obtain ⟨m, rb, cb, hvb⟩ := hb
  have e1 := Num.len (w := w) ca hva
  have e2 := Num.len (w := w) cb hvb
  refine (times_core l m (by omega) (by omega) ca cb va vb w ra rb).mono ?_
  rintro e w' ⟨v, s, rfl, hr, hc, hv, hb⟩
  exact ⟨v, rfl, ⟨s, hr, hc, by rw [hv, hva, hvb]⟩, hb⟩

theorem compare_num {w : World} {va vb : Value} {a b : Nat} (ha : Num w va a) (hb : Num w vb b) (la : Len a ≤ 10000000000) (lb : Len b ≤ 10000000000) :
    Calls Try.prog 118 #[va, vb] w fun e w' => e = .returned (.int .i64 (cmpN a b)) ∧ Below w.heap.size w w' := by
  obtain ⟨l, ra, ca, hva⟩ := ha
  obtain ⟨m, rb, cb, hvb⟩ := hb
  have e1 := Num.len (w := w) ca hva
  have e2 := Num.len (w := w) cb hvb
  obtain ⟨oa, cpa, rfl, _⟩ := id ra
  obtain ⟨ob, cpb, rfl, _⟩ := id rb
  refine (compare_any oa ob l m _ cpa _ cpb (by omega) (by omega) ca cb w ra rb).mono ?_
  rintro e w' ⟨rfl, hb⟩
  exact ⟨by rw [hva, hvb], hb⟩

theorem canon_one {l : List Nat} (h : Canon 1000000000 l) : l = [1] ↔ val 1000000000 l = 1 := by
  constructor
  · rintro rfl; rfl
  · intro hv
    exact canon_unique h ⟨Digs.cons (by omega) (Digs.nil _), by simp [Top]⟩ (by rw [hv]; rfl)
theorem canon_zero {l : List Nat} (h : Canon 1000000000 l) : l = [] ↔ val 1000000000 l = 0 := (val_eq_zero (by omega) h.2).symm

theorem isOne_num {w : World} {va : Value} {a : Nat} (ha : Num w va a) (la : Len a ≤ 10000000000) : Calls Try.prog 96 #[va] w fun e w' => e = .returned (.bool (decide (a = 1))) ∧ w = w' := by
  obtain ⟨l, ra, ca, hva⟩ := ha
  have e1 := Num.len (w := w) ca hva
  obtain ⟨oa, cpa, rfl, _⟩ := id ra
  refine (isOne_any l _ cpa oa w (by omega) ra).mono ?_
  rintro e w' ⟨rfl, rfl⟩
  exact ⟨by rw [← hva, decide_eq_decide.2 (canon_one ca)], rfl⟩
theorem isZero_num {w : World} {va : Value} {a : Nat} (ha : Num w va a) (la : Len a ≤ 10000000000) : Calls Try.prog 98 #[va] w fun e w' => e = .returned (.bool (decide (a = 0))) ∧ w = w' := by
  obtain ⟨l, ra, ca, hva⟩ := ha
  have e1 := Num.len (w := w) ca hva
  obtain ⟨oa, cpa, rfl, _⟩ := id ra
  refine (isZero_any l _ cpa oa w (by omega) ra).mono ?_
  rintro e w' ⟨rfl, rfl⟩
  exact ⟨by rw [← hva, decide_eq_decide.2 (canon_zero ca)], rfl⟩
theorem isOdd_num {w : World} {va : Value} {a : Nat} (ha : Num w va a) (la : Len a ≤ 10000000000) : Calls Try.prog 119 #[va] w fun e w' => e = .returned (.bool (decide (a % 2 = 1))) ∧ w = w' := by
  obtain ⟨l, ra, ca, hva⟩ := ha
  have e1 := Num.len (w := w) ca hva
  obtain ⟨oa, cpa, rfl, _⟩ := id ra
  refine (isOdd_any l _ cpa oa w (by omega) ra).mono ?_
  rintro e w' ⟨rfl, rfl⟩
  exact ⟨by rw [hva], rfl⟩
theorem one_num (w : World) : Calls Try.prog 99 #[] w (Ret1 w 1) := by
  refine (one_any w).mono ?_
  rintro e w' ⟨v, rfl, hr, hb⟩
  exact ⟨v, rfl, ⟨[1], hr, ⟨Digs.cons (by omega) (Digs.nil _), by simp [Top]⟩, rfl⟩, hb⟩
theorem overWord_num {w : World} {va : Value} {a b : Nat} (ha : Num w va a) (la : Len a ≤ 10000000000) (hb0 : 0 < b) (hb9 : b < 1000000000) :
    Calls Try.prog 131 #[va, .int .u32 (b : Nat)] w fun e w' => ∃ v, e = .returned (.tuple #[v, .int .u32 (a % b : Nat)]) ∧ Num w' v (a / b) ∧ Below w.heap.size w w' := by
  obtain ⟨l, ra, ca, hva⟩ := ha
  have e1 := Num.len (w := w) ca hva
  obtain ⟨oa, cpa, rfl, _⟩ := id ra
  refine (overWord_any oa l _ cpa b (by omega) hb0 hb9 ca.1 w ra).mono ?_
  rintro e w' ⟨v, q, rfl, hr, hc, hv, hb⟩
  exact ⟨v, by rw [hva], ⟨q, hr, hc, by rw [hv, hva]⟩, hb⟩
theorem divideLong_num {w : World} {va vb : Value} {a b : Nat} (ha : Num w va a) (hb : Num w vb b) (la : Len a ≤ 10000000000) (hb2 : 2 ≤ Len b) (hle : b ≤ a) : Calls Try.prog 132 #[va, vb] w (Ret2 w (a / b) (a % b)) := by
  obtain ⟨l, ra, ca, hva⟩ := ha
  obtain ⟨m, rb, cb, hvb⟩ := hb
  have e1 := Num.len (w := w) ca hva
  have e2 := Num.len (w := w) cb hvb
  have e3 := len_mono hle
  obtain ⟨oa, cpa, rfl, _⟩ := id ra
  obtain ⟨ob, cpb, rfl, _⟩ := id rb
  refine (divideLong_core l m oa ob _ cpa _ cpb (by omega) (by omega) (by omega) ca.1 cb w ra rb).mono ?_
  rintro e w' ⟨vq, vr, q, r, rfl, hr1, hc1, hv1, hr2, hc2, hv2, hb⟩
  exact ⟨vq, vr, rfl, ⟨q, hr1, hc1, by rw [hv1, hva, hvb]⟩, ⟨r, hr2, hc2, by rw [hv2, hva, hvb]⟩, hb⟩
theorem toUint_num {w : World} {va : Value} {a : Nat} (ha : Num w va a) (la : Len a ≤ 2) : Calls Try.prog 126 #[va] w fun e w' => e = .returned (.int .u64 (a : Nat)) ∧ Below w.heap.size w w' := by
  obtain ⟨l, ra, ca, hva⟩ := ha
  have e1 := Num.len (w := w) ca hva
  obtain ⟨oa, cpa, rfl, _⟩ := id ra
  refine (toUint_any oa l _ cpa (by omega) ca.1 w ra).mono ?_
  rintro e w' ⟨rfl, hb⟩
  exact ⟨by rw [hva], hb⟩

/-- fromUint, at the head of a round: what has been collected, and what is left -/
def FromInv (n : Nat) (w wr : World) (v : Value) (m : Nat) : Prop :=
  ∃ l, wr.ownsRow w.heap.size 117 1 v l.length (nl .u32 l) ∧ Digs 1000000000 l ∧ n = val 1000000000 l + 1000000000 ^ l.length * m ∧ (m = 0 → Top l) ∧ l.length ≤ 20 ∧ Below w.heap.size w wr

set_option maxHeartbeats 1000000 in
set_option maxRecDepth 100000 in
theorem fromUint_num (n : Nat) (hn : n < 18446744073709551616) (w : World) : Calls Try.prog 106 #[.int .u64 (n : Nat)] w (Ret1 w n) := by
  have hn0 : (n : Int) ≤ 18446744073709551615 := by omega
  have Hn := Lib.hid hn0; clear hn0
  clear hn
  go_enter Try.func106, Try.ntmps106
  go_wp2
  obtain ⟨i0, hi, hz0, hz1, hz2⟩ := info_parts Try.info117
  go_loopw [3, 0] (fun v vm wr => ∃ m : Nat, vm = .int .u64 m ∧ (m : Int) ≤ 18446744073709551615 ∧ FromInv n w wr v m) (fun _ vm _ => (intOf vm).toNat)
  case atStart => exact ⟨n, rfl, Hn.out, [], World.ownsRow_nil _ _ _ _, Digs.nil _, by simp, fun _ => Top.nil, by simp, Below.refl _ _⟩
  case round =>
    obtain ⟨m, rfl, hm, hinv⟩ := hrel
    have Inv := Lib.hid hinv
    by_cases h0 : 0 < m
    · obtain ⟨l, hown, hd, he, ht, hl, hb⟩ := hinv
      have HE := Lib.hid he; clear he
      have HT := Lib.hid ht; clear ht
      have hl2 : l.length ≤ 3 := by
        have h1 : 1000000000 ^ l.length * 1 ≤ 1000000000 ^ l.length * m := Nat.mul_le_mul_left _ h0
        have h2 := HE.out
        have h3 : n < 1000000000 ^ 3 := by have := Hn.out; omega
        have h4 : 1000000000 ^ l.length < 1000000000 ^ 3 := by omega
        have := (Nat.pow_lt_pow_iff_right (by omega : 1 < 1000000000)).1 h4
        omega
      have Hm := Lib.hid hm; clear hm
      have hrem : IntKind.u32.wrap ((m : Int) % 1000000000) = (m : Int) % 1000000000 := IntWalk.u32_in _ ⟨by omega, by omega⟩
      have hquo : IntKind.u64.wrap ((m : Int).tdiv 1000000000) = (m : Int) / 1000000000 := IntWalk.u64_quo _ _ ⟨by omega, Hm.out, by omega⟩
      go_wp2_with (at_builtin; refine wpList_append_own _ rfl (.tmp 6) (.tmp 10) 53 rfl w.heap.size 117 i0 (.int .u32 0) 1 4 Try.underlying53 hi hz0 hz1 hz2 rfl (by decide) _ l.length _ rfl (hown.alloc _) ⟨wr.heap.size, 0, none⟩ 1 1 (nl .u32 [m % 1000000000]) rfl rfl (by have := one_cell wr (m % 1000000000) 117; rwa [Int.natCast_emod] at this) (by intro u hu; simp [nl] at hu; subst hu; rfl) (by unfold maxLen; omega) (by omega) (by have := hb.size; simp; omega) ?_; intro v' w1 hown1 hgrow1 _)
      have hmw : IntKind.u64.wrap ((m : Int) / 1000000000) = ((m / 1000000000 : Nat) : Int) := by
        rw [Int.natCast_ediv]; exact IntWalk.u64_in _ ⟨by omega, by have := Hm.out; omega⟩
      rw [hmw]
      go_roundw
      case rel =>
        refine ⟨m / 1000000000, rfl, by have := Hm.out; omega, l ++ [m % 1000000000], ?_, hd.snoc (Nat.mod_lt _ (by omega)), ?_, ?_, by simp; omega, (hb.alloc hb.size _).grown hgrow1 (by simp; have := hb.size; omega) (fun k hk => (hown.lt k hk).1)⟩
        · rw [List.length_append, nl_append]; exact hown1
        · rw [val_snoc, List.length_append, List.length_singleton, Nat.pow_succ, HE.out]
          have := Nat.mod_add_div m 1000000000
          rw [Nat.add_assoc, Nat.mul_assoc, ← Nat.mul_add, this]
        · intro h
          refine top_snoc ?_
          omega
      case measure => simp [intOf]; omega
    · obtain rfl : m = 0 := by omega
      clear hinv
      go_wp2
      go_ret
      obtain ⟨l, hown, hd, he, ht, hl, hb⟩ := Inv.out
      exact ⟨_, rfl, ⟨l, Rep.own hown, ⟨hd, ht rfl⟩, by omega⟩, hb⟩
end Go.Proofs.Ytlkdahgfnfdakaa

namespace Go.Proofs.Ytlkdahgfnfdakaa
open Go.RowKit WN

theorem Num.open {w : World} {v : Value} {n : Nat} (h : Num w v n) : ∃ oa cap l, v = .slice oa (Len n) cap ∧ Rep w .u32 (.slice oa (Len n) cap) l ∧ Canon 1000000000 l ∧ val 1000000000 l = n ∧ l.length = Len n := by
  obtain ⟨l, hr, hc, hv⟩ := h
  have e := Num.len (w := w) hc hv
  obtain ⟨oa, cap, rfl, _⟩ := id hr
  rw [e] at hr ⊢
  exact ⟨oa, cap, l, rfl, hr, hc, hv, e⟩

theorem len_pos {n : Nat} (h : 0 < n) : 0 < Len n := by
  rcases Nat.eq_zero_or_pos (Len n) with h0 | h0
  · have := lt_len n; rw [h0] at this; simp at this; omega
  · exact h0
theorem len_one_lt {n : Nat} (h : Len n ≤ 1) : n < 1000000000 := by
  have := lt_len n
  exact Nat.lt_of_lt_of_le this (Nat.le_trans (Nat.pow_le_pow_right (by omega) h) (by simp))

/-- a number of one word, new -/
theorem num_lit (w : World) (s : Nat) (h0 : 0 < s) (h9 : s < 1000000000) : Num (w.alloc (.cells #[.int .u32 (s : Nat)] 117)) (.slice (some ⟨w.heap.size, 0, none⟩) 1 1) s :=
  ⟨[s], Rep.rowAll (Row.new w .u32 117 [s]) 1 (by simp), ⟨Digs.cons h9 (Digs.nil _), by simp [Top]; omega⟩, by simp⟩

theorem scale_math {a b s : Nat} (hs : 0 < s) : a * s / (b * s) = a / b ∧ a * s % (b * s) = a % b * s ∧ a % b * s / s = a % b := by
  refine ⟨Nat.mul_div_mul_right _ _ hs, Nat.mul_mod_mul_right _ _ _, Nat.mul_div_cancel _ hs⟩

set_option maxHeartbeats 1000000 in
set_option maxRecDepth 100000 in
theorem over_num {w : World} {va vb : Value} {a b : Nat} (ha : Num w va a) (hb : Num w vb b) (la : Len a ≤ 1000000000) (lb : Len b ≤ 1000000000) (hb0 : 0 < b) :
    Calls Try.prog 110 #[va, vb] w (Ret2 w (a / b) (a % b)) := by
  have Ha := Lib.hid ha
  have Hb := Lib.hid hb
  obtain ⟨oa, ca, la', rfl, hra, hca, hva, hla⟩ := ha.open
  obtain ⟨ob, cb, lb', rfl, hrb, hcb, hvb, hlb⟩ := hb.open
  have Hrb := Lib.hid hrb
  have Hcb := Lib.hid hcb
  have Hvb := Lib.hid hvb
  have Hlb := Lib.hid hlb
  clear ha hb hra hca hva hla hrb hcb hvb hlb
  by_cases h1 : b = 1
  · have hd : Hid (decide (b = 1) = true) := by show _ = _; simp [h1]
    have H1 := Lib.hid h1
    clear h1
    go_enter Try.func110, Try.ntmps110
    go_wp2_with (go_at_call 96; refine (isOne_num Hb.out (by omega)).mono ?_; rintro e w1 ⟨rfl, rfl⟩; rw [hd.out])
    go_ret2
    exact ⟨_, _, rfl, by rw [H1.out, Nat.div_one]; exact Ha.out, by rw [H1.out, Nat.mod_one]; exact Num.nil _, Below.refl _ _⟩
  have hd1 : Hid (decide (b = 1) = false) := by show _ = _; simp [h1]
  by_cases h2 : a < b
  · have hc : Hid (cmpN a b = -1) := by show _ = _; unfold cmpN; rw [if_pos h2]
    clear h1
    go_enter Try.func110, Try.ntmps110
    go_wp2_with fail
    refine (isOne_num Hb.out (by omega)).mono ?_; rintro e w1 ⟨rfl, rfl⟩; rw [hd1.out]
    go_wp2_with fail
    refine (compare_num Ha.out Hb.out (by omega) (by omega)).mono ?_; rintro e w1 ⟨rfl, hb1⟩; rw [hc.out]
    go_wp2_with fail
    go_ret2
    exact ⟨_, _, rfl, by rw [Nat.div_eq_of_lt h2]; exact Num.nil _, by rw [Nat.mod_eq_of_lt h2]; exact Ha.out.below hb1 (Nat.le_refl _), hb1⟩
  have hc : ∃ r : Int, cmpN a b = r ∧ 0 ≤ r ∧ r ≤ 1 := by
    unfold cmpN
    rw [if_neg h2]
    split
    · exact ⟨_, rfl, by omega, by omega⟩
    · exact ⟨_, rfl, by omega, by omega⟩
  obtain ⟨r, hc, hr0, hr1⟩ := hc
  have Hc := Lib.hid hc; clear hc
  have hrd : decide (r < 0) = false := by simp; omega
  have hle : b ≤ a := Nat.le_of_not_lt h2
  have hlen := len_mono hle
  clear h1 h2
  have hbpos := len_pos hb0
  by_cases h3 : Len b = 1
  · obtain ⟨bb, bo, rfl, hbb, hcell⟩ := Hrb.out.at' (Below.refl _ _) 0 (by have := Hlb.out; omega)
    have hb9 := len_one_lt (Nat.le_of_eq h3)
    have hx : lb'[0]'(by have := Hlb.out; omega) = b := by
      have h := Hvb.out
      obtain ⟨x, hx⟩ : ∃ x, lb' = [x] := List.length_eq_one_iff.1 (Hlb.out.trans h3)
      subst hx
      simpa using h
    rw [hx] at hcell
    clear hx
    have H3 := Lib.hid h3
    have hl1 : (((Len b : Nat) : Int) == 1) = true := by rw [h3]; rfl
    clear h3
    go_enter Try.func110, Try.ntmps110
    go_wp2_with fail
    refine (isOne_num Hb.out (by omega)).mono ?_; rintro e w1 ⟨rfl, rfl⟩; rw [hd1.out]
    go_wp2_with fail
    refine (compare_num Ha.out Hb.out (by omega) (by omega)).mono ?_; rintro e w1 ⟨rfl, hb1⟩; rw [Hc.out]
    have hcell1 := (hb1.cell (p := ⟨bb, bo + 0, none⟩) hbb).trans hcell
    rw [Nat.add_zero] at hcell1
    have hli : (0 : Int) < (Len b : Nat) := by omega
    go_wp2_with fail
    refine (overWord_num (Ha.out.below hb1 (Nat.le_refl _)) (by omega) hb0 hb9).mono ?_; rintro e w2 ⟨v, rfl, hv, hb2⟩
    have hmb : a % b < 1000000000 := Nat.lt_trans (Nat.mod_lt _ hb0) hb9
    generalize hmod : a % b = m at *
    have Hmod := Lib.hid hmod; clear hmod
    have hwm : IntKind.u64.wrap (m : Int) = m := IntWalk.u64_in _ ⟨by omega, by omega⟩
    go_wp2_with fail
    refine (fromUint_num m (by omega) _).mono ?_; rintro e w3 ⟨v2, rfl, hv2, hb3⟩
    go_wp2_with fail
    go_ret2
    exact ⟨_, _, rfl, hv.below hb3 (Nat.le_refl _), hv2, (hb1.trans (hb2.mono hb1.size)).trans (hb3.mono (Nat.le_trans hb1.size hb2.size))⟩
  · have h2 : 2 ≤ Len b := by omega
    have hne : (((Len b : Nat) : Int) == 1) = false := by rw [beq_eq_false_iff_ne]; omega
    clear h3
    obtain ⟨bb, bo, rfl, hbb, hcell⟩ := Hrb.out.at' (Below.refl _ _) (Len b - 1) (by have := Hlb.out; omega)
    have ht9 := Hcb.out.1.get (Len b - 1) (by have := Hlb.out; omega)
    have htop : lb'[Len b - 1]'(by have := Hlb.out; omega) ≠ 0 := by
      have h := top_ne Hcb.out.2 (by have := Hlb.out; omega)
      have e : lb'.length - 1 = Len b - 1 := by rw [Hlb.out]
      rw [e, List.getElem?_eq_getElem (by have := Hlb.out; omega)] at h
      exact h
    generalize lb'[Len b - 1]'_ = t at *
    have hdiv : ∃ s : Nat, 1000000000 / (t + 1) = s ∧ 0 < s ∧ s ≤ 1000000000 := ⟨_, rfl, Nat.div_pos (by omega) (by omega), Nat.div_le_self _ _⟩
    obtain ⟨s, hs, hs0, hs9⟩ := hdiv
    have hs9' : s ≠ 1000000000 ∨ t = 0 := by
      rcases Nat.eq_zero_or_pos t with h | h
      · exact .inr h
      · refine .inl ?_
        have : s ≤ 1000000000 / 2 := by rw [← hs]; exact Nat.div_le_div_left (by omega) (by omega)
        omega
    have ht0 : t ≠ 0 := htop
    clear htop
    have hs9'' : s < 1000000000 := by omega
    have hquo : IntKind.u32.wrap ((1000000000 : Int).tdiv ((t : Int) + 1)) = (s : Int) := by
      rw [IntWalk.u32_quo _ _ ⟨by omega, by omega, by omega⟩, ← hs, Int.natCast_ediv]; rfl
    have Hs := Lib.hid hs; clear hs
    go_enter Try.func110, Try.ntmps110
    go_wp2_with fail
    refine (isOne_num Hb.out (by omega)).mono ?_; rintro e w1 ⟨rfl, rfl⟩; rw [hd1.out]
    go_wp2_with fail
    refine (compare_num Ha.out Hb.out (by omega) (by omega)).mono ?_; rintro e w1 ⟨rfl, hb1⟩; rw [Hc.out]
    have hcell1 := (hb1.cell (p := ⟨bb, bo + (Len b - 1), none⟩) hbb).trans hcell
    have hli : (0 : Int) < (Len b : Nat) := by omega
    go_wp2_with fail
    clear hquo hcell hcell1
    have ns := num_lit w1 s hs0 hs9''
    have b2 : Below w.heap.size w (w1.alloc (.cells #[.int .u32 (s : Nat)] 117)) := hb1.alloc hb1.size _
    have ls := len_small hs9''
    refine (times_num (Ha.out.below b2 (Nat.le_refl _)) ns (by omega) (by omega)).mono ?_; rintro e w2 ⟨va, rfl, hva, hb3⟩
    have b3 := b2.trans (hb3.mono b2.size)
    go_wp2_with fail
    have ns2 := num_lit w2 s hs0 hs9''
    have b4 : Below w.heap.size w (w2.alloc (.cells #[.int .u32 (s : Nat)] 117)) := b3.alloc b3.size _
    refine (times_num (Hb.out.below b4 (Nat.le_refl _)) ns2 (by omega) (by omega)).mono ?_; rintro e w3 ⟨vb, rfl, hvb, hb5⟩
    have b5 := b4.trans (hb5.mono b4.size)
    have hva' := (hva.below ((Below.refl _ w2).alloc (Nat.le_refl _) (.cells #[.int .u32 (s : Nat)] 117)) (Nat.le_refl _)).below hb5 (Nat.le_refl _)
    have hle2 : b * s ≤ a * s := Nat.mul_le_mul_right _ hle
    have hl1 := len_mul a s
    have hl2 := len_mono (Nat.le_mul_of_pos_right b hs0)
    have Hmath := Lib.hid (scale_math (a := a) (b := b) hs0)
    go_wp2_with fail
    refine (divideLong_num hva' hvb (by omega) (by omega) hle2).mono ?_; rintro e w4 ⟨vq, vr, rfl, hvq, hvr, hb6⟩
    rw [Hmath.out.1] at hvq
    rw [Hmath.out.2.1] at hvr
    have hlr : Len (a % b * s) ≤ 10000000000 := by have := len_mul (a % b) s; have := len_mono (Nat.mod_le a b); omega
    go_wp2_with fail
    refine (overWord_num hvr hlr hs0 hs9'').mono ?_; rintro e w5 ⟨vo, rfl, hvo, hb7⟩
    rw [Hmath.out.2.2] at hvo
    go_wp2_with fail
    go_ret2
    have b6 := b5.trans (hb6.mono b5.size)
    exact ⟨_, _, rfl, hvq.below hb7 (Nat.le_refl _), hvo, b6.trans (hb7.mono b6.size)⟩
end Go.Proofs.Ytlkdahgfnfdakaa
