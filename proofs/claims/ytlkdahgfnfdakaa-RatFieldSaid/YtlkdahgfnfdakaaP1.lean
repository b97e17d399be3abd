import Derived.Test.YtlkdahgfnfdakaaMem
import Derived.Test.YtlkdahgfnfdakaaWNat
namespace Go.Proofs.Ytlkdahgfnfdakaa
open Go.RowKit WN


/-- the sum's loop, at the head of a round -/
def PlusInv (lx ly : List Nat) (w wr : World) (G k c : Nat) : Prop :=
  ∃ s, s.length = k ∧ Digs 1000000000 s ∧ val 1000000000 s + 1000000000 ^ k * c = val 1000000000 (lx.take k) + val 1000000000 (ly.take k) ∧
    Row wr G .u32 117 (s ++ List.replicate (lx.length + 1 - k) 0) ∧ Below w.heap.size w wr

theorem one_cell (w : World) (x t : Nat) : ∀ j u, (nl .u32 [x])[j]? = some u → (w.alloc (.cells #[.int .u32 (x : Int)] t)).cell? ((⟨w.heap.size, 0, none⟩ : Addr).add j) = some u := by
  intro j u h
  match j, h with
  | 0, h => simp [nl] at h; subst h; simp [Addr.add]
  | j + 1, h => simp [nl] at h

def PlusOut (w : World) (lx ly : List Nat) (e : Ending) (w' : World) : Prop :=
  ∃ v l, e = .returned v ∧ Rep w' .u32 v l ∧ Digs 1000000000 l ∧ (Top lx → Top l) ∧ val 1000000000 l = val 1000000000 lx + val 1000000000 ly ∧ Below w.heap.size w w'

theorem set_next {s : List Nat} {k n : Nat} (hs : s.length = k) (hk : k < n) (x : Nat) : (s ++ List.replicate (n - k) 0).set k x = (s ++ [x]) ++ List.replicate (n - (k + 1)) 0 := by
  subst hs
  obtain ⟨m, hm⟩ : ∃ m, n - s.length = m + 1 := ⟨n - s.length - 1, by omega⟩
  rw [hm, show n - (s.length + 1) = m from by omega, List.replicate_succ, List.set_append_right _ _ (Nat.le_refl _)]
  simp

theorem PlusInv.step {lx ly : List Nat} {w wr : World} {G k c : Nat} (h : PlusInv lx ly w wr G k c) (hG : w.heap.size ≤ G) (hk : k < lx.length) (x y : Nat) (hx : lx[k]? = some x) (hy : ly[k]?.getD 0 = y) :
    PlusInv lx ly w (wr.setCell ⟨G, k, none⟩ (.int .u32 ((x + c + y) % 1000000000 : Nat))) G (k + 1) ((x + c + y) / 1000000000) := by
  obtain ⟨s, hs, hd, hv, hr, hb⟩ := h
  refine ⟨s ++ [(x + c + y) % 1000000000], by simp [hs], hd.snoc (Nat.mod_lt _ (by omega)), ?_, ?_, hb.setCell hG _⟩
  · have e1 : val 1000000000 (lx.take (k + 1)) = val 1000000000 (lx.take k) + 1000000000 ^ k * x := by
      rw [val_take_succ _ _ _ hk]; rw [List.getElem?_eq_getElem hk] at hx; cases hx; rfl
    have e2 : val 1000000000 (ly.take (k + 1)) = val 1000000000 (ly.take k) + 1000000000 ^ k * y := by
      by_cases hky : k < ly.length
      · rw [val_take_succ _ _ _ hky]; rw [List.getElem?_eq_getElem hky] at hy; simp at hy; rw [hy]
      · rw [List.getElem?_eq_none (by omega)] at hy
        simp at hy; subst hy
        rw [List.take_of_length_le (by omega), List.take_of_length_le (by omega)]; simp
    rw [val_snoc, e1, e2, hs, Nat.pow_succ]
    have e3 := Nat.mod_add_div (x + c + y) 1000000000
    generalize hP : 1000000000 ^ k = P at *
    generalize (x + c + y) / 1000000000 = q at *
    generalize (x + c + y) % 1000000000 = r at *
    have e4 : P * (r + 1000000000 * q) = P * (x + c + y) := by rw [e3]
    rw [Nat.mul_add, Nat.mul_add, Nat.mul_add, ← Nat.mul_assoc] at e4
    omega
  · rw [← set_next hs (by omega)]; exact hr.set k _

theorem PlusInv.out {lx ly : List Nat} {w wr : World} {G k c : Nat} (h : PlusInv lx ly w wr G k c) (hk : k = lx.length) (hxy : ly.length ≤ lx.length) (hc : c = 0) (dx : Digs 1000000000 lx) (cap : Nat) (hcap : cap = lx.length + 1):
    PlusOut w lx ly (.returned (.slice (some ⟨G, 0, none⟩) lx.length cap)) wr := by
  subst hk; subst hcap
  obtain ⟨s, hs, hd, hv, hr, hb⟩ := h
  rw [List.take_of_length_le (Nat.le_refl _), List.take_of_length_le hxy, hc] at hv
  refine ⟨_, s, rfl, ?_, hd, ?_, by omega, hb⟩
  · have := Rep.row hr s.length (lx.length + 1) (by simp) (by omega)
    rw [List.take_left] at this
    rwa [hs] at this
  · intro ht
    by_cases h0 : lx = []
    · subst h0
      have : s = [] := List.eq_nil_of_length_eq_zero (by simpa using hs)
      subst this; exact Top.nil
    · have h1 := pow_le_val (B := 1000000000) ht h0
      intro hl
      obtain ⟨m, rfl⟩ : ∃ m, s = m ++ [0] := by
        have hne : s ≠ [] := by intro h; subst h; simp at hl
        refine ⟨s.dropLast, ?_⟩
        have := List.dropLast_concat_getLast hne
        rw [List.getLast?_eq_some_getLast hne] at hl
        rw [Option.some.inj hl] at this; exact this.symm
      rw [val_snoc] at hv
      have h2 := val_lt (B := 1000000000) (by omega) (l := m) (fun x hx => hd x (by simp [hx]))
      simp only [List.length_append, List.length_cons, List.length_nil, Nat.zero_add] at hs
      rw [← hs] at h1
      simp only [Nat.add_sub_cancel] at h1
      omega

theorem PlusInv.own {lx ly : List Nat} {w wr : World} {G k c : Nat} (h : PlusInv lx ly w wr G k c) (hG : w.heap.size ≤ G) (hk : k = lx.length) (hlim : lx.length ≤ 100000000000) :
    ∃ s, s.length = lx.length ∧ Digs 1000000000 s ∧ val 1000000000 s + 1000000000 ^ lx.length * c = val 1000000000 (lx.take lx.length) + val 1000000000 (ly.take lx.length) ∧
      wr.ownsRow w.heap.size 117 1 (.slice (some ⟨G, 0, none⟩) lx.length (lx.length + 1)) lx.length (nl .u32 s) ∧ Below w.heap.size w wr := by
  subst hk
  obtain ⟨s, hs, hd, hv, hr, hb⟩ := h
  have h := Row.own hr hG lx.length (by simp; omega) (by unfold maxLen; simp; omega)
  rw [show (s ++ List.replicate (lx.length + 1 - lx.length) (0 : Nat)).length = lx.length + 1 from by simp [hs], List.take_append_of_le_length (by omega), List.take_of_length_le (by omega)] at h
  exact ⟨s, hs, hd, hv, h, hb⟩

theorem plus_outMore {lx ly : List Nat} {w w' : World} {v : Value} {c n : Nat} {s : List Nat} (hs : s.length = lx.length) (hd : Digs 1000000000 s)
    (hv : val 1000000000 s + 1000000000 ^ lx.length * c = val 1000000000 (lx.take lx.length) + val 1000000000 (ly.take lx.length)) (hc : c ≠ 0) (hc1 : c ≤ 1) (hxy : ly.length ≤ lx.length)
    (ho : w'.ownsRow w.heap.size 117 1 v n (nl .u32 s ++ nl .u32 [c])) (hb : Below w.heap.size w w') : PlusOut w lx ly (.returned v) w' := by
  rw [← nl_append] at ho
  rw [List.take_of_length_le (Nat.le_refl _), List.take_of_length_le hxy] at hv
  refine ⟨v, s ++ [c], rfl, Rep.own ho, hd.snoc (by omega), fun _ => top_snoc hc, ?_, hb⟩
  rw [val_snoc, hs]; exact hv

set_option maxHeartbeats 400000 in
set_option maxRecDepth 100000 in
theorem plus_core (lx ly : List Nat) (hxy : ly.length ≤ lx.length) (hlim : lx.length ≤ 100000000000) (dx : Digs 1000000000 lx) (dy : Digs 1000000000 ly) (vx vy : Value) (w : World)
    (rx : Rep w .u32 vx lx) (ry : Rep w .u32 vy ly) (args : Array Value) (hargs : args = #[vx, vy] ∨ (args = #[vy, vx] ∧ ly.length < lx.length)) :
    Calls Try.prog 116 args w (PlusOut w lx ly) := by
  obtain ⟨ox, cx, rfl, hcx, gx⟩ := rx
  obtain ⟨oy, cy, rfl, hcy, gy⟩ := ry
  have Gx := Lib.hid gx; clear gx
  have Gy := Lib.hid gy; clear gy
  have Dx := Lib.hid dx; clear dx
  have Dy := Lib.hid dy; clear dy
  rcases hargs with rfl | ⟨rfl, hlt⟩
  all_goals
    have hmk := make_words w lx.length (lx.length + 1) (by omega) (by omega) (by omega)
    go_enter Try.func116, Try.ntmps116
    go_wp2
    clear hmk
    go_loopw [6, 24] (fun vc vk wr => ∃ k c : Nat, k ≤ lx.length ∧ vk = .int .i64 k ∧ vc = .int .u32 c ∧ c ≤ 1 ∧ PlusInv lx ly w wr w.heap.size k c) (fun _ vk _ => lx.length - (intOf vk).toNat)
    case atStart => exact ⟨0, 0, Nat.zero_le _, rfl, rfl, by omega, [], rfl, Digs.nil _, by simp, by simpa using Row.new w .u32 117 _, (Below.refl _ _).alloc (Nat.le_refl _) _⟩
    case round =>
      obtain ⟨k, c, hk, rfl, rfl, hc, hinv⟩ := hrel
      have Inv := Lib.hid hinv
      have hr : ∃ s, s.length = k ∧ Row wr w.heap.size .u32 117 (s ++ List.replicate (lx.length + 1 - k) 0) ∧ Below w.heap.size w wr := by
        obtain ⟨s, hs, _, _, hr, hb⟩ := hinv
        exact ⟨s, hs, hr, hb⟩
      clear hinv
      obtain ⟨s, hs, hr, hb⟩ := hr
      have Hs := Lib.hid hs; clear hs
      have Hr := Lib.hid hr; clear hr
      by_cases hlt : k < lx.length
      · obtain ⟨bx, px, rfl, hcell⟩ := Gx.out k hlt
        have hcx' := (hb.cell (p := ⟨bx, px + k, none⟩) (block_lt_of_cell hcell)).trans hcell
        clear hcell
        have hx9 := Dx.out.get k hlt
        have HX : lx[k]? = some (lx[k]) := List.getElem?_eq_getElem hlt
        generalize hX : lx[k] = x at *
        clear hX
        have HX' := Lib.hid HX; clear HX
        have hfr := Hr.out.free k
        have hcl := Hr.out.cell k (by simp [Hs.out]; omega)
        generalize (s ++ List.replicate (lx.length + 1 - k) 0)[k]'_ = old at hcl
        by_cases hly : k < ly.length
        · obtain ⟨by', py, rfl, hcell⟩ := Gy.out k hly
          have hcy' := (hb.cell (p := ⟨by', py + k, none⟩) (block_lt_of_cell hcell)).trans hcell
          clear hcell
          have hy9 := Dy.out.get k hly
          have HY : ly[k]?.getD 0 = ly[k] := by rw [List.getElem?_eq_getElem hly]; rfl
          generalize hY : ly[k] = y at *
          clear hY
          have HY' := Lib.hid HY; clear HY
          have hst := Inv.out.step (Nat.le_refl _) hlt x y HX'.out HY'.out
          have Hst := Lib.hid hst; clear hst
          go_wp2
          go_roundw
          case rel => exact ⟨k + 1, (x + c + y) / 1000000000, hlt, by go_num, u32_eq (by omega), by omega, by
            have := Hst.out
            rwa [show (((x + c + y) % 1000000000 : Nat) : Int) = (↑x + ↑c + ↑y) % 1000000000 from by omega] at this⟩
          case measure => simp [intOf]; omega
        · have HY' : Hid (ly[k]?.getD 0 = 0) := Lib.hid (by rw [List.getElem?_eq_none (by omega)]; rfl)
          have hst := Inv.out.step (Nat.le_refl _) hlt x 0 HX'.out HY'.out
          have Hst := Lib.hid hst; clear hst
          go_wp2
          go_roundw
          case rel => exact ⟨k + 1, (x + c + 0) / 1000000000, hlt, by go_num, u32_eq (by omega), by omega, by
            have := Hst.out
            rwa [show (((x + c + 0) % 1000000000 : Nat) : Int) = (↑x + ↑c) % 1000000000 from by omega] at this⟩
          case measure => simp [intOf]; omega
      · by_cases hc0 : c = 0
        · subst hc0
          go_wp2
          go_ret
          exact Inv.out.out (by omega) hxy rfl Dx.out _ rfl
        · obtain ⟨s', hs', hd', hv', hown, hb'⟩ := Inv.out.own (Nat.le_refl _) (by omega) hlim
          have Hv := Lib.hid hv'; clear hv'
          have Hs' := Lib.hid hs'; clear hs'
          have Hd := Lib.hid hd'; clear hd'
          clear hb' Inv Hr Hs
          obtain ⟨i0, hi, hz0, hz1, hz2⟩ := info_parts Try.info117
          go_wp2_with (at_builtin; refine wpList_append_fits _ rfl (.tmp 52) (.tmp 54) 53 rfl w.heap.size 117 i0 1 Try.underlying53 hi hz1 w.heap.size lx.length (lx.length + 1) _ rfl (hown.alloc _) ⟨wr.heap.size, 0, none⟩ 1 1 (nl .u32 [c]) rfl rfl (one_cell _ _ _) (by intro u hu; simp [nl] at hu; subst hu; rfl) (Nat.le_refl _) ?_; intro w1 hown1 hgrow1)
          go_ret
          exact plus_outMore Hs'.out Hd.out Hv.out hc0 hc hxy hown1 ((hb.alloc hb.size _).grown hgrow1 (by simp; have := hb.size; omega) (fun k hk => by cases hk; exact Nat.le_refl _))
end Go.Proofs.Ytlkdahgfnfdakaa
