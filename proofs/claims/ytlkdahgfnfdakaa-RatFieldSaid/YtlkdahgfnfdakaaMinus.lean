import Derived.Test.YtlkdahgfnfdakaaTrim
import Derived.Test.YtlkdahgfnfdakaaP1
namespace Go.Proofs.Ytlkdahgfnfdakaa
open Go.RowKit WN

theorem trimmed_n (oa : Option Addr) (l : List Nat) (n cap : Nat) (hlen : n ≤ 1000000000000) (w : World) (hr : Rep w .u32 (.slice oa n cap) l) :
    Calls Try.prog 130 #[.slice oa n cap] w (TrimOut w l) := by
  obtain ⟨rfl, _⟩ := hr.len
  exact trimmed_any oa l cap hlen w hr

def MinusInv (lx ly : List Nat) (w wr : World) (G k c : Nat) : Prop :=
  ∃ s, s.length = k ∧ Digs 1000000000 s ∧ val 1000000000 s + val 1000000000 (ly.take k) = val 1000000000 (lx.take k) + 1000000000 ^ k * c ∧
    Row wr G .u32 117 (s ++ List.replicate (lx.length - k) 0) ∧ Below w.heap.size w wr

theorem MinusInv.step {lx ly : List Nat} {w wr : World} {G k c : Nat} (h : MinusInv lx ly w wr G k c) (hG : w.heap.size ≤ G) (hk : k < lx.length) (x y d c' : Nat) (hx : lx[k]? = some x) (hy : ly[k]?.getD 0 = y)
    (he : x + 1000000000 * c' = d + (c + y)) (hd9 : d < 1000000000) :
    MinusInv lx ly w (wr.setCell ⟨G, k, none⟩ (.int .u32 (d : Nat))) G (k + 1) c' := by
  obtain ⟨s, hs, hd, hv, hr, hb⟩ := h
  refine ⟨s ++ [d], by simp [hs], hd.snoc hd9, ?_, ?_, hb.setCell hG _⟩
  · have e1 : val 1000000000 (lx.take (k + 1)) = val 1000000000 (lx.take k) + 1000000000 ^ k * x := by
      rw [val_take_succ _ _ _ hk]; rw [List.getElem?_eq_getElem hk] at hx; cases hx; rfl
    have e2 : val 1000000000 (ly.take (k + 1)) = val 1000000000 (ly.take k) + 1000000000 ^ k * y := by
      by_cases hky : k < ly.length
      · rw [val_take_succ _ _ _ hky]; rw [List.getElem?_eq_getElem hky] at hy; simp at hy; rw [hy]
      · rw [List.getElem?_eq_none (by omega)] at hy
        simp at hy; subst hy
        rw [List.take_of_length_le (by omega), List.take_of_length_le (by omega)]; simp
    rw [val_snoc, e1, e2, hs, Nat.pow_succ]
    generalize hP : 1000000000 ^ k = P at *
    have e4 : P * (x + 1000000000 * c') = P * (d + (c + y)) := by rw [he]
    rw [Nat.mul_add, Nat.mul_add, Nat.mul_add, ← Nat.mul_assoc] at e4
    omega
  · rw [← set_next hs (by omega)]; exact hr.set k _

def MinusOut (w : World) (lx ly : List Nat) (e : Ending) (w' : World) : Prop :=
  ∃ v l, e = .returned v ∧ Rep w' .u32 v l ∧ Canon 1000000000 l ∧ val 1000000000 l + val 1000000000 ly = val 1000000000 lx ∧ Below w.heap.size w w'

theorem MinusInv.rep {lx ly : List Nat} {w wr : World} {G k c : Nat} (h : MinusInv lx ly w wr G k c) (hk : k = lx.length) (hle : ly.length ≤ lx.length) (hv : val 1000000000 ly ≤ val 1000000000 lx) :
    ∃ s, Rep wr .u32 (.slice (some ⟨G, 0, none⟩) lx.length lx.length) s ∧ Digs 1000000000 s ∧ val 1000000000 s + val 1000000000 ly = val 1000000000 lx ∧ Below w.heap.size w wr := by
  subst hk
  obtain ⟨s, hs, hd, he, hr, hb⟩ := h
  rw [Nat.sub_self, List.replicate_zero, List.append_nil] at hr
  rw [List.take_of_length_le (Nat.le_refl _), List.take_of_length_le hle] at he
  have h1 := val_lt (B := 1000000000) (by omega) hd
  rw [hs] at h1
  have hc : c = 0 := by
    rcases Nat.eq_zero_or_pos c with h | h
    · exact h
    · have : 1000000000 ^ lx.length * 1 ≤ 1000000000 ^ lx.length * c := Nat.mul_le_mul_left _ h
      omega
  subst hc
  have := Rep.rowAll hr lx.length (by omega)
  rw [hs] at this
  exact ⟨s, this, hd, by omega, hb⟩

set_option maxHeartbeats 1000000 in
set_option maxRecDepth 100000 in
theorem minus_core (lx ly : List Nat) (hxy : ly.length ≤ lx.length) (hlim : lx.length ≤ 100000000000) (dx : Digs 1000000000 lx) (dy : Digs 1000000000 ly) (hle : val 1000000000 ly ≤ val 1000000000 lx) (vx vy : Value) (w : World)
    (rx : Rep w .u32 vx lx) (ry : Rep w .u32 vy ly) :
    Calls Try.prog 133 #[vx, vy] w (MinusOut w lx ly) := by
  have Rx := Lib.hid rx
  have Ry := Lib.hid ry
  obtain ⟨ox, cx, rfl, hcx, gx⟩ := rx
  obtain ⟨oy, cy, rfl, hcy, gy⟩ := ry
  clear gx gy
  have Dx := Lib.hid dx; clear dx
  have Dy := Lib.hid dy; clear dy
  have Hle := Lib.hid hle; clear hle
  have hmk := make_words w lx.length lx.length (by omega) (by omega) (by omega)
  go_enter Try.func133, Try.ntmps133
  go_wp2
  clear hmk
  go_loopw [6, 15] (fun vc vk wr => ∃ k c : Nat, k ≤ lx.length ∧ vk = .int .i64 k ∧ vc = .int .u32 c ∧ c ≤ 1 ∧ MinusInv lx ly w wr w.heap.size k c) (fun _ vk _ => lx.length - (intOf vk).toNat)
  case atStart => exact ⟨0, 0, Nat.zero_le _, rfl, rfl, by omega, [], rfl, Digs.nil _, by simp, by simpa using Row.new w .u32 117 _, (Below.refl _ _).alloc (Nat.le_refl _) _⟩
  case round =>
    obtain ⟨k, c, hk, rfl, rfl, hc, hinv⟩ := hrel
    have Inv := Lib.hid hinv
    have hr : ∃ s, s.length = k ∧ Row wr w.heap.size .u32 117 (s ++ List.replicate (lx.length - k) 0) ∧ Below w.heap.size w wr := by
      obtain ⟨s, hs, _, _, hr, hb⟩ := hinv
      exact ⟨s, hs, hr, hb⟩
    clear hinv
    obtain ⟨s, hs, hr, hb⟩ := hr
    have Hs := Lib.hid hs; clear hs
    have Hr := Lib.hid hr; clear hr
    by_cases hlt : k < lx.length
    · obtain ⟨bx, px, rfl, _, hcx'⟩ := Rx.out.at' hb k hlt
      have hx9 := Dx.out.get k hlt
      have HX : Hid (lx[k]? = some (lx[k])) := List.getElem?_eq_getElem hlt
      generalize lx[k] = x at *
      have hfr := Hr.out.free k
      have hcl := Hr.out.cell k (by simp [Hs.out]; omega)
      generalize (s ++ List.replicate (lx.length - k) 0)[k]'_ = old at hcl
      by_cases hly : k < ly.length
      · obtain ⟨by', py, rfl, _, hcy'⟩ := Ry.out.at' hb k hly
        have hy9 := Dy.out.get k hly
        have HY : Hid (ly[k]?.getD 0 = ly[k]) := by show _ = _; rw [List.getElem?_eq_getElem hly]; rfl
        generalize ly[k] = y at *
        by_cases ht : x < c + y
        · have Hst := Lib.hid (Inv.out.step (Nat.le_refl _) hlt x y (x + 1000000000 - (c + y)) 1 HX.out HY.out (by omega) (by omega))
          go_wp2
          go_roundw
          case rel => exact ⟨k + 1, 1, hlt, by go_num, rfl, by omega, by
            have := Hst.out
            rwa [show ((x + 1000000000 - (c + y) : Nat) : Int) = ↑x + 1000000000 - (↑c + ↑y) from by omega] at this⟩
          case measure => simp [intOf]; omega
        · have Hst := Lib.hid (Inv.out.step (Nat.le_refl _) hlt x y (x - (c + y)) 0 HX.out HY.out (by omega) (by omega))
          go_wp2
          go_roundw
          case rel => exact ⟨k + 1, 0, hlt, by go_num, rfl, by omega, by
            have := Hst.out
            rwa [show ((x - (c + y) : Nat) : Int) = ↑x - (↑c + ↑y) from by omega] at this⟩
          case measure => simp [intOf]; omega
      · have HY : Hid (ly[k]?.getD 0 = 0) := by show _ = _; rw [List.getElem?_eq_none (by omega)]; rfl
        by_cases ht : x < c
        · have Hst := Lib.hid (Inv.out.step (Nat.le_refl _) hlt x 0 (x + 1000000000 - c) 1 HX.out HY.out (by omega) (by omega))
          go_wp2
          go_roundw
          case rel => exact ⟨k + 1, 1, hlt, by go_num, rfl, by omega, by
            have := Hst.out
            rwa [show ((x + 1000000000 - c : Nat) : Int) = ↑x + 1000000000 - ↑c from by omega] at this⟩
          case measure => simp [intOf]; omega
        · have Hst := Lib.hid (Inv.out.step (Nat.le_refl _) hlt x 0 (x - c) 0 HX.out HY.out (by omega) (by omega))
          go_wp2
          go_roundw
          case rel => exact ⟨k + 1, 0, hlt, by go_num, rfl, by omega, by
            have := Hst.out
            rwa [show ((x - c : Nat) : Int) = ↑x - ↑c from by omega] at this⟩
          case measure => simp [intOf]; omega
    · obtain ⟨s', hs', hd', hv', hb'⟩ := Inv.out.rep (by omega) hxy Hle.out
      have Hv := Lib.hid hv'; clear hv'
      clear Inv Hr Hs
      go_wp2_with (go_at_call 130; refine (trimmed_n _ s' _ _ (by omega) _ hs').mono ?_; rintro e w1 ⟨v, rfl, hv1, hb1⟩)
      go_ret
      exact ⟨v, _, rfl, hv1, canon_trim hd', by rw [val_trim]; exact Hv.out, hb.trans (hb1.mono hb.size)⟩
end Go.Proofs.Ytlkdahgfnfdakaa
