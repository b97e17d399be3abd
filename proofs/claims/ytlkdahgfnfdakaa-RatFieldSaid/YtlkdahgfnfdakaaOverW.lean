import Derived.Test.YtlkdahgfnfdakaaUint
import Derived.Deep.QuietTactic
import Derived.BigQuiet
import Derived.BigRegionIn
namespace Go.Proofs.Ytlkdahgfnfdakaa
open Go.RowKit Go.Shelf WN
attribute [local go_sem] Oper.semAt_some

def OverWI (w : World) (va : Value) (l : List Nat) (b : Nat) (k : Nat) (W : World) : Prop :=
  ∃ qs r, qs.length = k ∧ Digs 1000000000 qs ∧ r < b ∧ val 1000000000 (l.drop (l.length - k)) = b * val 1000000000 qs + r ∧
    Row W (w.heap.size + 1) .u32 117 (List.replicate (l.length - k) 0 ++ qs) ∧ Box W w.heap.size 117 (.int .u32 (b : Nat)) ∧ Box W (w.heap.size + 1 + 1) 53 (.slice (some ⟨w.heap.size + 1, 0, none⟩) l.length l.length) ∧
    Box W (w.heap.size + 1 + 1 + 1) 64 (.int .u64 (r : Nat)) ∧ Box W (w.heap.size + 1 + 1 + 1 + 1) 53 va ∧ Below w.heap.size w W

def OverWOut (w : World) (l : List Nat) (b : Nat) (e : Ending) (w' : World) : Prop :=
  ∃ v q, e = .returned (.tuple #[v, .int .u32 (val 1000000000 l % b : Nat)]) ∧ Rep w' .u32 v q ∧ Canon 1000000000 q ∧ val 1000000000 q = val 1000000000 l / b ∧ Below w.heap.size w w'

theorem set_prev {qs : List Nat} {k n : Nat} (hk : k < n) (d : Nat) : (List.replicate (n - k) 0 ++ qs).set (n - 1 - k) d = List.replicate (n - (k + 1)) 0 ++ (d :: qs) := by
  obtain ⟨m, hm⟩ : ∃ m, n - k = m + 1 := ⟨n - k - 1, by omega⟩
  rw [hm, show n - 1 - k = m from by omega, show n - (k + 1) = m from by omega, List.replicate_succ', List.append_assoc, List.set_append_right _ _ (by simp)]
  simp

theorem OverWI.step {w W : World} {va : Value} {l : List Nat} {b k x : Nat} (hk : k < l.length) (hb : 0 < b) (hx : l[l.length - 1 - k]? = some x) (hx9 : x < 1000000000)
    {qs : List Nat} {r : Nat} (h1 : qs.length = k) (h2 : Digs 1000000000 qs) (h3 : r < b) (h4 : val 1000000000 (l.drop (l.length - k)) = b * val 1000000000 qs + r) (h5 : Row W (w.heap.size + 1) .u32 117 (List.replicate (l.length - k) 0 ++ qs))
    (h6 : Box W w.heap.size 117 (.int .u32 (b : Nat))) (h7 : Box W (w.heap.size + 1 + 1) 53 (.slice (some ⟨w.heap.size + 1, 0, none⟩) l.length l.length))
    (h8 : Box W (w.heap.size + 1 + 1 + 1) 64 (.int .u64 (r : Nat))) (h9 : Box W (w.heap.size + 1 + 1 + 1 + 1) 53 va) (h10 : Below w.heap.size w W) :
    OverWI w va l b (k + 1) ((W.setCell ⟨w.heap.size + 1, l.length - 1 - k, none⟩ (.int .u32 ((r * 1000000000 + x) / b : Nat))).setCell ⟨w.heap.size + 1 + 1 + 1, 0, none⟩ (.int .u64 ((r * 1000000000 + x) % b : Nat))) := by
  have hd : (r * 1000000000 + x) / b < 1000000000 := by
    rw [Nat.div_lt_iff_lt_mul hb]
    have : (r + 1) * 1000000000 ≤ b * 1000000000 := Nat.mul_le_mul_right _ h3
    rw [Nat.mul_comm 1000000000]; omega
  refine ⟨(r * 1000000000 + x) / b :: qs, (r * 1000000000 + x) % b, by simp [h1], h2.cons hd, Nat.mod_lt _ hb, ?_, ?_, ?_, ?_, ?_, ?_, ?_⟩
  · rw [val_drop_next hk hx, h4, val_cons]
    have e := Nat.div_add_mod (r * 1000000000 + x) b
    rw [Nat.mul_add, Nat.mul_add, Nat.mul_left_comm]
    generalize 1000000000 * (b * val 1000000000 qs) = z1 at *
    rw [show b * (1000000000 * val 1000000000 qs) = 1000000000 * (b * val 1000000000 qs) from Nat.mul_left_comm _ _ _]
    omega
  · have := (h5.set (l.length - 1 - k) ((r * 1000000000 + x) / b)).other ⟨w.heap.size + 1 + 1 + 1, 0, none⟩ (.int .u64 ((r * 1000000000 + x) % b : Nat)) (by simp <;> omega)
    rwa [set_prev hk] at this
  · exact (h6.other _ _ (by simp <;> omega)).other _ _ (by simp <;> omega)
  · exact (h7.other _ _ (by simp <;> omega)).other _ _ (by simp <;> omega)
  · exact (h8.other _ _ (by simp <;> omega)).set _
  · exact (h9.other _ _ (by simp <;> omega)).other _ _ (by simp <;> omega)
  · exact (h10.setCell (p := ⟨w.heap.size + 1, _, none⟩) (by simp <;> omega) _).setCell (p := ⟨w.heap.size + 1 + 1 + 1, 0, none⟩) (by simp <;> omega) _

set_option maxRecDepth 100000 in
set_option maxHeartbeats 1000000 in
theorem overWord_any (oa : Option Addr) (l : List Nat) (n cap b : Nat) (hlen : n ≤ 100000000000) (hb0 : 0 < b) (hb9 : b < 1000000000) (hd : Digs 1000000000 l) (w : World) (hr : Rep w .u32 (.slice oa n cap) l) :
    Calls Try.prog 131 #[.slice oa n cap, .int .u32 (b : Nat)] w (OverWOut w l b) := by
  obtain ⟨rfl, _⟩ := hr.len
  have Hr := Lib.hid hr; clear hr
  have Hd := Lib.hid hd; clear hd
  have hmk := fun w => make_words w l.length l.length (by omega) (by omega) (by omega)
  refine (callsIn_wide (n := 5)).1 ?_
  refine callsIn_of_wp_marks Try.func131 rfl trivial ?_ rfl
  simp only [Try.ntmps131, List.size_toArray, List.length_cons, List.length_nil, Nat.reduceAdd, Nat.reduceSub, Array.replicate_succ, Array.replicate_zero, List.push_toArray, List.append_toArray, List.nil_append, List.cons_append]
  gi_wp2_with (refine ⟨trivial, ?_⟩; gi_at_call 129; refine (callsIn_wide.2 (down_any _ _ _ _)).mono ?_; rintro e w' ⟨rfl, rfl⟩)
  obtain ⟨W0, hW0⟩ : ∃ W0, W0 = ((((w.alloc (.cells #[.int .u32 (b : Nat)] 117)).alloc (.cells (ns .u32 (List.replicate l.length 0)) 117)).alloc (.cells #[.slice (some ⟨w.heap.size + 1, 0, none⟩) l.length l.length] 53)).alloc
      (.cells #[.int .u64 0] 64)).alloc (.cells #[.slice oa l.length cap] 53) := ⟨_, rfl⟩
  rw [← hW0]
  have b1 : Box W0 w.heap.size 117 (.int .u32 (b : Nat)) := by
    rw [hW0]; unfold Box; rw [alloc_lt _ _ _ (by simp <;> omega), alloc_lt _ _ _ (by simp <;> omega), alloc_lt _ _ _ (by simp <;> omega), alloc_lt _ _ _ (by simp)]; exact alloc_at _ _ _ (by simp)
  have b2 : Row W0 (w.heap.size + 1) .u32 117 (List.replicate l.length 0) := by
    rw [hW0]; unfold Row; rw [alloc_lt _ _ _ (by simp <;> omega), alloc_lt _ _ _ (by simp <;> omega), alloc_lt _ _ _ (by simp)]; exact alloc_at _ _ _ (by simp)
  have b3 : Box W0 (w.heap.size + 1 + 1) 53 (.slice (some ⟨w.heap.size + 1, 0, none⟩) l.length l.length) := by
    rw [hW0]; unfold Box; rw [alloc_lt _ _ _ (by simp <;> omega), alloc_lt _ _ _ (by simp)]; exact alloc_at _ _ _ (by simp)
  have b4 : Box W0 (w.heap.size + 1 + 1 + 1) 64 (.int .u64 0) := by
    rw [hW0]; unfold Box; rw [alloc_lt _ _ _ (by simp)]; exact alloc_at _ _ _ (by simp)
  have b5 : Box W0 (w.heap.size + 1 + 1 + 1 + 1) 53 (.slice oa l.length cap) := by
    rw [hW0]; exact alloc_at _ _ _ (by simp)
  have b6 : Below w.heap.size w W0 := by rw [hW0]; exact (((((Below.refl _ w).alloc (Nat.le_refl _) _).alloc (by simp) _).alloc (by simp <;> omega) _).alloc (by simp <;> omega) _).alloc (by simp <;> omega) _
  have hsz : W0.heap.size = w.heap.size + 1 + 1 + 1 + 1 + 1 := by rw [hW0]; simp
  clear hW0
  refine wpIn_down 5 (w.heap.size + 1 + 1 + 1 + 1) oa l.length cap (by omega) rfl rfl (OverWI w (.slice oa l.length cap) l b) (fun _ _ => False) ?hI ?hIx ?hRd
    ⟨[], 0, rfl, Digs.nil _, hb0, by simp, by simpa using b2, b1, b3, b4, b5, b6⟩
    (fun k x => { tmps := #[.slice oa l.length cap, .int .u32 (b : Nat), undef, .pointer (some ⟨w.heap.size, 0, none⟩), .slice none 0 0, .int .u32 0, .pointer (some ⟨w.heap.size + 1 + 1, 0, none⟩), .pointer (some ⟨w.heap.size + 1 + 1 + 1, 0, none⟩),
      .int .i64 ((l.length - 1 - k : Nat) : Int), .int .u32 x, undef, .slice oa l.length cap, .int .i64 l.length, .slice (some ⟨w.heap.size + 1, 0, none⟩) l.length l.length, .slice oa l.length cap,
      .func (.func 136) #[] #[.pointer (some ⟨w.heap.size + 1 + 1 + 1 + 1, 0, none⟩)], .int .i64 ((l.length - 1 - k : Nat) : Int), .int .u32 x, undef, undef, undef, undef, undef, undef, undef, undef, undef, undef, undef, undef, undef,
      undef, undef, undef, undef, undef, undef, undef, undef], defers := [] }) ?assign ?body ?done ?stop
  case hI => exact fun k W W' ⟨qs, r, h1, h2, h3, h4, h5, h6, h7, h8, h9, h10⟩ t => ⟨qs, r, h1, h2, h3, h4, h5.turn t, h6.turn t, h7.turn t, h8.turn t, h9.turn t, h10.trans (t.below.mono (by omega))⟩
  case hIx => exact fun c W W' h t => h
  case hRd => exact fun k W ⟨qs, r, h1, h2, h3, h4, h5, h6, h7, h8, h9, h10⟩ => Hr.out.reads h10 h9 k
  case assign =>
    intro _ k x W K hK
    gi_wp2
    exact hK
  case body =>
    rintro _ k b' off x W ⟨qs, r, h1, h2, h3, h4, h5, h6, h7, h8, h9, h10⟩ hk hoa hx
    obtain ⟨x, hwx, rfl⟩ := Hr.out.word h10 hk hoa hx
    have hx9 : x < 1000000000 := Hd.out x (List.mem_of_getElem? hwx)
    have Hst := Lib.hid (OverWI.step hk hb0 hwx hx9 h1 h2 h3 h4 h5 h6 h7 h8 h9 h10)
    have c6 := h6.cell
    have c7 := h7.cell
    have c8 := h8.cell
    have f8 := h8.free
    have c5 := h5.cell (l.length - 1 - k) (by simp <;> omega)
    have f5 := h5.free (l.length - 1 - k)
    generalize (List.replicate (l.length - k) 0 ++ qs)[l.length - 1 - k]'_ = old at c5
    clear h1 h2 h4 h5 h6 h7 h8 h9 h10 b1 b2 b3 b4 b5 b6 hx hwx hoa hmk
    have hq : (r * 1000000000 + x) / b < 1000000000 := by
      rw [Nat.div_lt_iff_lt_mul hb0]
      have : (r + 1) * 1000000000 ≤ b * 1000000000 := Nat.mul_le_mul_right _ h3
      rw [Nat.mul_comm 1000000000]; omega
    have hq1 : ((r : Int) * 1000000000 + (x : Int)) / (b : Int) < 1000000000 := by
      have : (((r * 1000000000 + x) / b : Nat) : Int) < 1000000000 := by omega
      rw [Int.natCast_ediv, Int.natCast_add, Int.natCast_mul] at this; exact this
    have hq0 : 0 ≤ ((r : Int) * 1000000000 + (x : Int)) / (b : Int) := Int.ediv_nonneg (by omega) (by omega)
    have hm1 : ((r : Int) * 1000000000 + (x : Int)) % (b : Int) < 1000000000 := by have := Int.emod_lt_of_pos ((r : Int) * 1000000000 + (x : Int)) (by omega : (0 : Int) < b); omega
    have hm0 : 0 ≤ ((r : Int) * 1000000000 + (x : Int)) % (b : Int) := Int.emod_nonneg _ (by omega)
    have hr9 : (r : Int) < 1000000000 := by omega
    have hmx : Try.prog.follows .mixedOrders = true := by kernel_rfl
    have hbp : (0 : Int) < b := by omega
    have hb9' : (b : Int) < 1000000000 := by omega
    have e1 : ((l.length - 1 - k : Nat) : Int) = (l.length : Int) - 1 - k := by omega
    rw [e1]
    clear e1
    gi_wp2
    have hP0 : 0 ≤ (r : Int) * 1000000000 + (x : Int) := by omega
    have hP9 : (r : Int) * 1000000000 + (x : Int) ≤ 9000000000000000000 := by omega
    generalize hP : (r : Int) * 1000000000 + (x : Int) = P at *
    have HP := Lib.hid hP; clear hP
    have hquo : IntKind.u64.wrap (P.tdiv (b : Int)) = P / (b : Int) := IntWalk.u64_quo _ _ ⟨hP0, by omega, by omega⟩
    have hwb : IntKind.u64.wrap (b : Int) = b := IntWalk.u64_in _ ⟨by omega, by omega⟩
    have hi1 : (k : Int) ≤ (l.length : Int) - 1 := by omega
    have hi2 : (l.length : Int) - 1 - k < l.length := by omega
    have hbz : ((b : Int) == 0) = false := by rw [beq_eq_false_iff_ne]; omega
    have hbn : ¬ b = 0 := by omega
    have hw32 : IntKind.u32.wrap (P / (b : Int)) = P / (b : Int) := IntWalk.u32_in _ ⟨hq0, by omega⟩
    have HF : Hid (∀ A, DownPost (OverWI w (.slice oa l.length cap) l b) (fun _ _ => False) k W .normal A ((W.setCell ⟨w.heap.size + 1, l.length - 1 - k, none⟩ (.int .u32 (P / (b : Int)))).setCell ⟨w.heap.size + 1 + 1 + 1, 0, none⟩ (.int .u64 (P.tmod (b : Int)))).drew) := by
      intro A
      have h := Hst.out
      rw [Int.tmod_eq_emod_of_nonneg hP0]
      rw [Int.natCast_ediv, Int.natCast_emod, Int.natCast_add, Int.natCast_mul, show ((1000000000 : Nat) : Int) = 1000000000 from rfl, HP.out] at h
      obtain ⟨qs, r, h1, h2, h3, h4, h5, h6, h7, h8, h9, h10⟩ := h
      exact ⟨((KeepsOthers.setCell _ _ _).trans (KeepsOthers.setCell _ _ _)).trans (KeepsOthers.drew _), qs, r, h1, h2, h3, h4, h5, h6, h7, h8, h9, h10.drew⟩
    clear Hst
    clear hm1 hm0 hq hP9 hq1 hq0 hbp hb9' hr9 hP0 h3 hx9 hb0 hb9 hlen hsz
    refine region_round _ rfl hmx (by kernel_rfl) ?_
    refine wpAnyIn_take (i := 1) (v := ?_) rfl rfl (by kernel_rfl) (by kernel_rfl) (by kernel_rfl) (fun _ _ _ h => h) ⟨Or.inl ⟨by rfl, ?_⟩, fun _ => rfl⟩ ?_
    rotate_left
    · intro w; go_simp; with_reducible rfl
    refine wpAnyIn_take (i := 2) (v := ?_) rfl rfl (by kernel_rfl) (by kernel_rfl) (by kernel_rfl) (fun _ _ _ h => h) ⟨Or.inl ⟨by rfl, ?_⟩, fun _ => rfl⟩ ?_
    rotate_left
    · intro w; go_simp; with_reducible rfl
    refine wpAnyIn_ready (rs := [0, 3]) (by kernel_rfl) (by simp) (AllReadyIn.cons rfl (fun K hK => ?_) (AllReadyIn.cons rfl (fun K hK => ?_) AllReadyIn.nil))
    · go_simp
      refine hK _ _ ?_
      clear hK K
      refine wpAnyIn_ready (rs := [3]) (by kernel_rfl) (by simp) (AllReadyIn.cons rfl (fun K hK => ?_) AllReadyIn.nil)
      go_simp
      refine hK _ _ ?_
      clear hK K
      refine wpAnyIn_take (i := 4) (v := ?_) rfl rfl (by kernel_rfl) (by kernel_rfl) (by kernel_rfl) (fun _ _ _ h => h) ⟨Or.inl ⟨by rfl, ?_⟩, fun _ => rfl⟩ ?_
      rotate_left
      · intro w; go_simp; with_reducible rfl
      refine wpAnyIn_ready (rs := [5]) (by kernel_rfl) (by simp) (AllReadyIn.cons rfl (fun K hK => ?_) AllReadyIn.nil)
      go_simp
      refine hK _ _ ?_
      clear hK K
      refine wpAnyIn_take (i := 6) (v := ?_) rfl rfl (by kernel_rfl) (by kernel_rfl) (by kernel_rfl) (fun _ _ _ h => h) ⟨Or.inl ⟨by rfl, ?_⟩, fun _ => rfl⟩ ?_
      rotate_left
      · intro w; go_simp; with_reducible rfl
      refine wpAnyIn_ready (rs := [7]) (by kernel_rfl) (by simp) (AllReadyIn.cons rfl (fun K hK => ?_) AllReadyIn.nil)
      go_simp
      refine hK _ _ ?_
      clear hK K
      refine wpAnyIn_ready (rs := [8]) (by kernel_rfl) (by simp) (AllReadyIn.cons rfl (fun K hK => ?_) AllReadyIn.nil)
      go_simp
      refine hK _ _ ?_
      clear hK K
      refine wpAnyIn_done (by kernel_rfl) ?_ _
      gi_wp2
      exact HF.out _
    · go_simp
      refine hK _ _ ?_
      clear hK K
      refine wpAnyIn_take (i := 4) (v := ?_) rfl rfl (by kernel_rfl) (by kernel_rfl) (by kernel_rfl) (fun _ _ _ h => h) ⟨Or.inl ⟨by rfl, ?_⟩, fun _ => rfl⟩ ?_
      rotate_left
      · intro w; go_simp; with_reducible rfl
      refine wpAnyIn_ready (rs := [0, 5]) (by kernel_rfl) (by simp) (AllReadyIn.cons rfl (fun K hK => ?_) (AllReadyIn.cons rfl (fun K hK => ?_) AllReadyIn.nil))
      · go_simp
        refine hK _ _ ?_
        clear hK K
        refine wpAnyIn_ready (rs := [5]) (by kernel_rfl) (by simp) (AllReadyIn.cons rfl (fun K hK => ?_) AllReadyIn.nil)
        go_simp
        refine hK _ _ ?_
        clear hK K
        refine wpAnyIn_take (i := 6) (v := ?_) rfl rfl (by kernel_rfl) (by kernel_rfl) (by kernel_rfl) (fun _ _ _ h => h) ⟨Or.inl ⟨by rfl, ?_⟩, fun _ => rfl⟩ ?_
        rotate_left
        · intro w; go_simp; with_reducible rfl
        refine wpAnyIn_ready (rs := [7]) (by kernel_rfl) (by simp) (AllReadyIn.cons rfl (fun K hK => ?_) AllReadyIn.nil)
        go_simp
        refine hK _ _ ?_
        clear hK K
        refine wpAnyIn_ready (rs := [8]) (by kernel_rfl) (by simp) (AllReadyIn.cons rfl (fun K hK => ?_) AllReadyIn.nil)
        go_simp
        refine hK _ _ ?_
        clear hK K
        refine wpAnyIn_done (by kernel_rfl) ?_ _
        gi_wp2
        exact HF.out _
      · go_simp
        refine hK _ _ ?_
        clear hK K
        refine wpAnyIn_take (i := 6) (v := ?_) rfl rfl (by kernel_rfl) (by kernel_rfl) (by kernel_rfl) (fun _ _ _ h => h) ⟨Or.inl ⟨by rfl, ?_⟩, fun _ => rfl⟩ ?_
        rotate_left
        · intro w; go_simp; with_reducible rfl
        refine wpAnyIn_ready (rs := [0]) (by kernel_rfl) (by simp) (AllReadyIn.cons rfl (fun K hK => ?_) AllReadyIn.nil)
        go_simp
        refine hK _ _ ?_
        clear hK K
        refine wpAnyIn_ready (rs := [7]) (by kernel_rfl) (by simp) (AllReadyIn.cons rfl (fun K hK => ?_) AllReadyIn.nil)
        go_simp
        refine hK _ _ ?_
        clear hK K
        refine wpAnyIn_ready (rs := [8]) (by kernel_rfl) (by simp) (AllReadyIn.cons rfl (fun K hK => ?_) AllReadyIn.nil)
        go_simp
        refine hK _ _ ?_
        clear hK K
        refine wpAnyIn_done (by kernel_rfl) ?_ _
        gi_wp2
        exact HF.out _
  case done =>
    rintro E W hE ⟨qs, r, h1, h2, h3, h4, h5, h6, h7, h8, h9, h10⟩ hd
    rw [Nat.sub_self, List.drop_zero] at h4
    rw [Nat.sub_self, List.replicate_zero, List.nil_append] at h5
    have hrep : Rep W .u32 (.slice (some ⟨w.heap.size + 1, 0, none⟩) l.length l.length) qs := by
      have := Rep.rowAll h5 l.length (by omega); rwa [h1] at this
    have hv : val 1000000000 qs = val 1000000000 l / b ∧ r = val 1000000000 l % b := by
      rw [h4, Nat.mul_add_div hb0, Nat.div_eq_of_lt h3, Nat.mul_add_mod, Nat.mod_eq_of_lt h3]; exact ⟨rfl, rfl⟩
    have Hv := Lib.hid hv; clear hv
    have c7 := h7.cell
    have c8 := h8.cell
    have Hc := Lib.hid (canon_trim h2)
    have hr9 : r < 1000000000 := by omega
    have hwr : IntKind.u32.wrap (r : Int) = r := IntWalk.u32_in _ ⟨by omega, by omega⟩
    clear h1 h2 h3 h4 b1 b2 b3 b4 b5 b6 hmk
    have hmx : Try.prog.follows .mixedOrders = true := by kernel_rfl
    gi_wp2
    refine wpIn_mono (Q := OnlyNormal fun a' w' => ∃ v, a' = { tmps := #[.slice oa l.length cap, .int .u32 (b : Nat), undef, .pointer (some ⟨w.heap.size, 0, none⟩), v, .int .u32 r, .pointer (some ⟨w.heap.size + 1 + 1, 0, none⟩), .pointer (some ⟨w.heap.size + 1 + 1 + 1, 0, none⟩),
      undef, undef, undef, .slice oa l.length cap, .int .i64 l.length, .slice (some ⟨w.heap.size + 1, 0, none⟩) l.length l.length, .slice oa l.length cap,
      .func (.func 136) #[] #[.pointer (some ⟨w.heap.size + 1 + 1 + 1 + 1, 0, none⟩)], undef, undef, undef, undef, undef, undef, undef, undef, undef, undef, undef, undef, undef, undef, undef,
      undef, undef, undef, undef, .slice (some ⟨w.heap.size + 1, 0, none⟩) l.length l.length, v, .int .u64 r, .int .u32 r], defers := [{ target := Target.collected E, args := #[] }] } ∧ Rep w' .u32 v (trim qs) ∧ Below W.heap.size W w') ?reg (OnlyNormal.elim ?after)
    case reg =>
      gi_region_with_o (refine ⟨trivial, ?_⟩; gi_at_call 130; refine (callsIn_wide.2 (trimmed_n _ qs _ _ (by omega) _ (by exact hrep))).mono ?_; rintro e w1 ⟨v, rfl, hv1, hb1⟩; have c9 := (hb1.cell (p := ⟨w.heap.size + 1 + 1 + 1, 0, none⟩) (by exact h8.lt)).trans c8)
      all_goals exact ⟨v, rfl, hv1, ((Below.refl W.heap.size W).drew).trans hb1⟩
    case after =>
      rintro a' w' ⟨v, rfl, hv1, hb1⟩
      have hd' := (hb1.block E (lt_of_block hd)).trans hd
      gi_wp2
      have t := Turn.put (B := w.heap.size) (.deferred none) (by omega) hd' rfl
      refine ⟨by simp, .inl ⟨_, _, rfl, run_takeDeferred hd', .tuple #[v, .int .u32 r], by simp [results, Try.f131, go_sem], ?_⟩⟩
      exact ⟨v, _, by rw [Hv.out.2], hv1.turn t, Hc.out, by rw [val_trim]; exact Hv.out.1, (h10.trans (hb1.mono h10.size)).trans t.below⟩
  case stop =>
    rintro E c W hE h hd
    exact h.elim
end Go.Proofs.Ytlkdahgfnfdakaa
