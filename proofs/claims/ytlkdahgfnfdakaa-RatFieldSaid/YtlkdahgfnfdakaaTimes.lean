import Derived.Test.YtlkdahgfnfdakaaSmall
namespace Go.Proofs.Ytlkdahgfnfdakaa
open Go.RowKit WN

def TimesInv (lx ly : List Nat) (w wr : World) (G i : Nat) : Prop :=
  ∃ p, p.length = lx.length + ly.length ∧ Digs 1000000000 p ∧ val 1000000000 (p.take (i + ly.length)) = val 1000000000 (lx.take i) * val 1000000000 ly ∧ Row wr G .u32 117 p ∧ Below w.heap.size w wr

def TimesIn (lx ly : List Nat) (w wr : World) (G i x j c : Nat) : Prop :=
  ∃ p p0 : List Nat, p.length = lx.length + ly.length ∧ Digs 1000000000 p ∧ val 1000000000 (p0.take (i + ly.length)) = val 1000000000 (lx.take i) * val 1000000000 ly ∧
    (∀ t, i + j ≤ t → p[t]? = p0[t]?) ∧ val 1000000000 (p.take (i + j)) + 1000000000 ^ (i + j) * c = val 1000000000 (p0.take (i + j)) + 1000000000 ^ i * (x * val 1000000000 (ly.take j)) ∧
    Row wr G .u32 117 p ∧ Below w.heap.size w wr

theorem TimesInv.begin {lx ly : List Nat} {w wr : World} {G i : Nat} (h : TimesInv lx ly w wr G i) (x : Nat) : TimesIn lx ly w wr G i x 0 0 := by
  obtain ⟨p, hp, hd, hv, hr, hb⟩ := h
  exact ⟨p, p, hp, hd, hv, fun _ _ => rfl, by simp, hr, hb⟩

theorem TimesIn.step {lx ly : List Nat} {w wr : World} {G i x j c : Nat} (h : TimesIn lx ly w wr G i x j c) (hG : w.heap.size ≤ G) (hij : i + j < lx.length + ly.length) (y q d c' : Nat)
    (hq : ∀ p, Row wr G .u32 117 p → p[i + j]?.getD 0 = q) (hy : ly[j]?.getD 0 = y) (he : x * y + q + c = d + 1000000000 * c') (hd9 : d < 1000000000) :
    TimesIn lx ly w (wr.setCell ⟨G, i + j, none⟩ (.int .u32 (d : Nat))) G i x (j + 1) c' := by
  obtain ⟨p, p0, hp, hd, hv, hs, hI, hr, hb⟩ := h
  have hpq := hq p hr
  refine ⟨p.set (i + j) d, p0, by simpa using hp, hd.set _ _ hd9, hv, fun t ht => ?_, ?_, hr.set _ _, hb.setCell hG _⟩
  · rw [List.getElem?_set_ne (by omega)]; exact hs t (by omega)
  · have e1 : val 1000000000 ((p.set (i + j) d).take (i + (j + 1))) = val 1000000000 (p.take (i + j)) + 1000000000 ^ (i + j) * d := by
      rw [← Nat.add_assoc, val_take_next, take_set]
      simp [hp, hij]
    have e2 : val 1000000000 (p0.take (i + (j + 1))) = val 1000000000 (p0.take (i + j)) + 1000000000 ^ (i + j) * q := by
      rw [← Nat.add_assoc, val_take_next, ← hs (i + j) (Nat.le_refl _), hpq]
    have e3 := val_take_next 1000000000 ly j
    rw [hy] at e3
    rw [e1, e2, e3, ← Nat.add_assoc, Nat.pow_succ]
    have e4 : 1000000000 ^ i * (x * (val 1000000000 (ly.take j) + 1000000000 ^ j * y)) = 1000000000 ^ i * (x * val 1000000000 (ly.take j)) + 1000000000 ^ (i + j) * (x * y) := by
      rw [Nat.mul_add, Nat.mul_add, Nat.pow_add, Nat.mul_assoc, Nat.mul_left_comm x]
    rw [e4]
    have e5 : 1000000000 ^ (i + j) * (x * y + q + c) = 1000000000 ^ (i + j) * (d + 1000000000 * c') := by rw [he]
    rw [Nat.mul_add, Nat.mul_add, Nat.mul_add, ← Nat.mul_assoc (1000000000 ^ (i + j)) 1000000000] at e5
    generalize 1000000000 ^ (i + j) * (x * y) = z1 at *
    generalize 1000000000 ^ i * (x * val 1000000000 (ly.take j)) = z2 at *
    generalize 1000000000 ^ (i + j) * 1000000000 * c' = z3 at *
    omega

theorem TimesIn.close {lx ly : List Nat} {w wr : World} {G i x c : Nat} (h : TimesIn lx ly w wr G i x ly.length c) (hG : w.heap.size ≤ G) (hi : i < lx.length) (hx : lx[i]? = some x) (hc : c < 1000000000) :
    TimesInv lx ly w (wr.setCell ⟨G, i + ly.length, none⟩ (.int .u32 (c : Nat))) G (i + 1) := by
  obtain ⟨p, p0, hp, hd, hv, hs, hI, hr, hb⟩ := h
  refine ⟨p.set (i + ly.length) c, by simpa using hp, hd.set _ _ hc, ?_, hr.set _ _, hb.setCell hG _⟩
  rw [Nat.add_right_comm, val_take_next, take_set]
  rw [List.take_length] at hI
  have e1 : (p.set (i + ly.length) c)[i + ly.length]?.getD 0 = c := by simp [hp, hi]
  rw [e1, hI, hv, val_take_next, hx, Option.getD_some, Nat.add_mul, Nat.mul_assoc]

theorem TimesIn.cell {lx ly : List Nat} {w wr : World} {G i x j c : Nat} (h : TimesIn lx ly w wr G i x j c) (hij : i + j < lx.length + ly.length) :
    ∃ q, q < 1000000000 ∧ wr.cell? ⟨G, i + j, none⟩ = some (.int .u32 (q : Nat)) ∧ wr.frozen? ⟨G, i + j, none⟩ = false ∧ (∀ p, Row wr G .u32 117 p → p[i + j]?.getD 0 = q) := by
  obtain ⟨p, p0, hp, hd, hv, hs, hI, hr, hb⟩ := h
  refine ⟨p[i + j], hd.get _ (by omega), hr.cell _ (by omega), hr.free _, fun p' hr' => ?_⟩
  unfold Row at hr hr'
  rw [hr] at hr'
  have e := congrArg (fun o => match o with | some (Obj.cells cs _ _) => cs[i + j]? | _ => none) hr'
  simp only [ns_get] at e
  rw [List.getElem?_eq_getElem (by omega)] at e
  cases h : p'[i + j]? with
  | none => rw [h] at e; simp at e
  | some z => rw [h] at e; simp at e; simp; omega

def TimesOut (w : World) (lx ly : List Nat) (e : Ending) (w' : World) : Prop :=
  ∃ v l, e = .returned v ∧ Rep w' .u32 v l ∧ Canon 1000000000 l ∧ val 1000000000 l = val 1000000000 lx * val 1000000000 ly ∧ Below w.heap.size w w'

theorem TimesInv.rep {lx ly : List Nat} {w wr : World} {G i : Nat} (h : TimesInv lx ly w wr G i) (hi : i = lx.length) :
    ∃ s, Rep wr .u32 (.slice (some ⟨G, 0, none⟩) (lx.length + ly.length) (lx.length + ly.length)) s ∧ Digs 1000000000 s ∧ val 1000000000 s = val 1000000000 lx * val 1000000000 ly ∧ Below w.heap.size w wr := by
  subst hi
  obtain ⟨p, hp, hd, hv, hr, hb⟩ := h
  rw [List.take_of_length_le (by omega), List.take_length] at hv
  have := Rep.rowAll hr (lx.length + ly.length) (by omega)
  rw [hp] at this
  exact ⟨p, this, hd, hv, hb⟩

theorem mul_bound (x y : Nat) (hx : x < 1000000000) (hy : y < 1000000000) : x * y ≤ 999999998000000001 := Nat.le_trans (Nat.mul_le_mul (Nat.le_sub_one_of_lt hx) (Nat.le_sub_one_of_lt hy)) (by decide)

set_option maxHeartbeats 2000000 in
set_option maxRecDepth 100000 in
theorem times_core (lx ly : List Nat) (hlx : lx.length ≤ 100000000000) (hly : ly.length ≤ 100000000000) (cx : Canon 1000000000 lx) (cy : Canon 1000000000 ly) (vx vy : Value) (w : World)
    (rx : Rep w .u32 vx lx) (ry : Rep w .u32 vy ly) :
    Calls Try.prog 108 #[vx, vy] w (TimesOut w lx ly) := by
  have Rx := Lib.hid rx
  have Ry := Lib.hid ry
  obtain ⟨ox, cax, rfl, hcx, gx⟩ := rx
  obtain ⟨oy, cay, rfl, hcy, gy⟩ := ry
  clear gx gy
  have Cx := Lib.hid cx; clear cx
  have Cy := Lib.hid cy; clear cy
  by_cases h1 : lx = [1]
  · have H1 := Lib.hid h1
    have hd1 : decide (lx = [1]) = true := by simp [h1]
    clear h1
    go_enter Try.func108, Try.ntmps108
    go_wp2_with (go_at_call 96; refine (isOne_any lx _ _ _ _ (by omega) Rx.out).mono ?_; rintro e w1 ⟨rfl, rfl⟩; rw [hd1])
    go_ret
    exact ⟨_, ly, rfl, Ry.out, Cy.out, by rw [H1.out]; simp [val], Below.refl _ _⟩
  by_cases h2 : ly = [1]
  · have H2 := Lib.hid h2
    have hd1 : decide (lx = [1]) = false := by simp [h1]
    have hd2 : decide (ly = [1]) = true := by simp [h2]
    clear h1 h2
    go_enter Try.func108, Try.ntmps108
    go_wp2_with fail
    refine (isOne_any lx _ _ _ _ (by omega) Rx.out).mono ?_; rintro e w1 ⟨rfl, rfl⟩; rw [hd1]
    go_wp2_with fail
    refine (isOne_any ly _ _ _ _ (by omega) Ry.out).mono ?_; rintro e w1 ⟨rfl, rfl⟩; rw [hd2]
    go_wp2_with fail
    go_ret
    exact ⟨_, lx, rfl, Rx.out, Cx.out, by rw [H2.out]; simp [val], Below.refl _ _⟩
  have hd1 : decide (lx = [1]) = false := by simp [h1]
  have hd2 : decide (ly = [1]) = false := by simp [h2]
  clear h1 h2
  have hmk := make_words w ((lx.length : Int) + ly.length) ((lx.length : Int) + ly.length) (by omega) (by omega) (by omega)
  go_enter Try.func108, Try.ntmps108
  go_wp2_with fail
  refine (isOne_any lx _ _ _ _ (by omega) Rx.out).mono ?_; rintro e w1 ⟨rfl, rfl⟩; rw [hd1]
  go_wp2_with fail
  refine (isOne_any ly _ _ _ _ (by omega) Ry.out).mono ?_; rintro e w1 ⟨rfl, rfl⟩; rw [hd2]
  go_wp2_with fail
  clear hmk hd1 hd2
  go_loopw [26] (fun vi wr => ∃ i : Nat, i ≤ lx.length ∧ vi = .int .i64 i ∧ TimesInv lx ly w wr w.heap.size i) (fun vi _ => lx.length - (intOf vi).toNat)
  case atStart => exact ⟨0, Nat.zero_le _, rfl, List.replicate (lx.length + ly.length) 0, by simp, fun d hd => by rw [List.eq_of_mem_replicate hd]; omega, by rw [List.take_replicate, val_replicate_zero]; simp, Row.new w .u32 117 _, (Below.refl _ _).alloc (Nat.le_refl _) _⟩
  case round =>
    obtain ⟨i, hi, rfl, hinv⟩ := hrel
    have Inv := Lib.hid hinv; clear hinv
    obtain ⟨wo, rfl⟩ : ∃ wo : World, wo = wr := ⟨_, rfl⟩
    have hbo : Below w.heap.size w wo := by obtain ⟨_, _, _, _, _, hb⟩ := Inv.out; exact hb
    by_cases hlt : i < lx.length
    · obtain ⟨bx, px, rfl, _, hcx'⟩ := Rx.out.at' hbo i hlt
      have hx9 := Cx.out.1.get i hlt
      have HX : Hid (lx[i]? = some (lx[i])) := List.getElem?_eq_getElem hlt
      generalize lx[i] = x at *
      go_wp2
      go_loopw [8, 33] (fun vc vj wr => ∃ j c : Nat, j ≤ ly.length ∧ vj = .int .i64 j ∧ vc = .int .u64 c ∧ c < 1000000000 ∧ TimesIn lx ly w wr w.heap.size i x j c) (fun _ vj _ => ly.length - (intOf vj).toNat)
      case atStart => exact ⟨0, 0, Nat.zero_le _, rfl, rfl, by omega, Inv.out.begin x⟩
      case round =>
        obtain ⟨j, c, hj, rfl, rfl, hc, hinv⟩ := hrel
        have In := Lib.hid hinv; clear hinv
        have hb : Below w.heap.size w wr := by obtain ⟨_, _, _, _, _, _, _, _, hb⟩ := In.out; exact hb
        obtain ⟨q, hq9, hcq, hfq, hq⟩ := In.out.cell (j := j) (by omega)
        have Hq := Lib.hid hq; clear hq
        by_cases hlj : j < ly.length
        · obtain ⟨by', py, rfl, _, hcy'⟩ := Ry.out.at' hb j hlj
          have hy9 := Cy.out.1.get j hlj
          have HY : Hid (ly[j]?.getD 0 = ly[j]) := by show _ = _; rw [List.getElem?_eq_getElem hlj]; rfl
          generalize ly[j] = y at *
          have hm := mul_bound x y hx9 hy9
          have hm1 : (x : Int) * (y : Int) ≤ 999999998000000001 := by rw [← Int.natCast_mul]; omega
          have hm0 : 0 ≤ (x : Int) * (y : Int) := by rw [← Int.natCast_mul]; omega
          have Hst := Lib.hid (In.out.step (Nat.le_refl _) (by omega) y q ((x * y + q + c) % 1000000000) ((x * y + q + c) / 1000000000) Hq.out HY.out (by omega) (by omega))
          clear hcx'
          go_wp2
          go_roundw
          case rel => exact ⟨j + 1, (x * y + q + c) / 1000000000, hlj, by go_num, u64_eq (by have := Int.natCast_mul x y; omega), by omega, by
            have := Hst.out
            rwa [show (((x * y + q + c) % 1000000000 : Nat) : Int) = (↑x * ↑y + ↑q + ↑c) % 1000000000 from by have := Int.natCast_mul x y; omega] at this⟩
          case measure => simp [intOf]; omega
        · obtain rfl : j = ly.length := by omega
          have Hst := Lib.hid (In.out.close (Nat.le_refl _) hlt HX.out hc)
          clear hcx'
          go_wp2
          go_roundw
          case rel => exact ⟨i + 1, hlt, by go_num, Hst.out⟩
          case measure => simp [intOf]; omega
    · obtain ⟨s', hs', hd', hv', hb'⟩ := Inv.out.rep (by omega)
      have Hv := Lib.hid hv'; clear hv'
      clear Inv
      go_wp2_with (go_at_call 130; refine (trimmed_n _ s' _ _ (by omega) _ hs').mono ?_; rintro e w1 ⟨v, rfl, hv1, hb1⟩)
      go_ret
      exact ⟨v, _, rfl, hv1, canon_trim hd', by rw [val_trim]; exact Hv.out, hb'.trans (hb1.mono hb'.size)⟩
end Go.Proofs.Ytlkdahgfnfdakaa
