/- subtractTimes, addBack, guess: what long division does with a part of the rest. -/
import Derived.Test.YtlkdahgfnfdakaaTimes
namespace Go.Proofs.Ytlkdahgfnfdakaa
open Go.RowKit WN

/-- block g holds l; of what lay, nothing but block g has turned -/
def Only (w w' : World) (g : Nat) (l : List Nat) : Prop := Row w' g .u32 117 l ∧ w.grownBy w' (some g) ∧ w'.heap.size = w.heap.size

theorem Only.set {w w' : World} {g : Nat} {l : List Nat} (h : Only w w' g l) (i x : Nat) : Only w (w'.setCell ⟨g, i, none⟩ (.int .u32 (x : Nat))) g (l.set i x) :=
  ⟨h.1.set i x, ⟨h.2.1.os, h.2.1.tape, h.2.1.output, by simpa using h.2.1.size, fun k hk hne => (Below.heap_setCell _ _ _ _ (fun e => hne (by rw [e]))).trans (h.2.1.block k hk hne)⟩, by simpa using h.2.2⟩
theorem Only.refl {w : World} {g : Nat} {l : List Nat} (h : Row w g .u32 117 l) : Only w w g l := ⟨h, ⟨rfl, rfl, rfl, Nat.le_refl _, fun _ _ _ => rfl⟩, rfl⟩
theorem Rep.only {w w' : World} {g : Nat} {l m : List Nat} {k : IntKind} {oa : Option Addr} {n cap : Nat} (h : Rep w k (.slice oa n cap) l) (ho : Only w w' g m) (hne : ∀ b off, oa = some ⟨b, off, none⟩ → b ≠ g) (i : Nat) (hi : i < l.length) :
    ∃ b off, oa = some ⟨b, off, none⟩ ∧ b < w.heap.size ∧ w'.cell? ⟨b, off + i, none⟩ = some (.int k (l[i]'hi : Nat)) := by
  obtain ⟨oa', cap', he, hc, hcell⟩ := h
  cases he
  obtain ⟨b, off, rfl, hcl⟩ := hcell i hi
  have hb := block_lt_of_cell hcl
  exact ⟨b, off, rfl, hb, (World.cell?_of_block (ho.2.1.block b hb (by intro e; exact hne b off rfl (Option.some.inj e)))).trans hcl⟩

/-- the digits of l from o on, n of them, as a number -/
def part (l : List Nat) (o n : Nat) : Nat := val 1000000000 ((l.drop o).take n)

theorem part_set {l : List Nat} {o k x : Nat} (h : o + k < l.length) : part (l.set (o + k) x) o k = part l o k ∧ part (l.set (o + k) x) o (k + 1) = part l o k + 1000000000 ^ k * x := by
  have e : ((l.set (o + k) x).drop o).take k = (l.drop o).take k := by
    rw [List.drop_set, if_neg (by omega), Nat.add_sub_cancel_left, take_set]
  refine ⟨by unfold part; rw [e], ?_⟩
  unfold part
  rw [val_take_next, e]
  congr 2
  rw [List.getElem?_drop]; simp [h]

theorem part_succ (l : List Nat) (o k : Nat) : part l o (k + 1) = part l o k + 1000000000 ^ k * (l[o + k]?.getD 0) := by
  unfold part
  rw [val_take_next, List.getElem?_drop]

/-- subtractTimes, at the head of a round -/
def SubInv (l lb : List Nat) (o f : Nat) (w wr : World) (g k c : Nat) : Prop :=
  ∃ m, m.length = l.length ∧ Digs 1000000000 m ∧ (∀ t, t < o ∨ o + k ≤ t → m[t]? = l[t]?) ∧ part m o k + f * val 1000000000 (lb.take k) = part l o k + 1000000000 ^ k * c ∧ Only w wr g m

theorem SubInv.step {l lb : List Nat} {o f : Nat} {w wr : World} {g k c : Nat} (h : SubInv l lb o f w wr g k c) (hk : o + k < l.length) (x y d c' : Nat) (hx : l[o + k]? = some x) (hy : lb[k]?.getD 0 = y)
    (he : x + 1000000000 * c' = d + (c + f * y)) (hd : d < 1000000000) {wn : World} (hset : ∀ m, Only w wr g m → Only w wn g (m.set (o + k) d)) :
    SubInv l lb o f w wn g (k + 1) c' := by
  obtain ⟨m, hm, hdm, hs, hv, ho⟩ := h
  obtain ⟨p1, p2⟩ := part_set (l := m) (x := d) (by omega : o + k < m.length)
  refine ⟨m.set (o + k) d, by simpa using hm, hdm.set _ _ hd, fun t ht => ?_, ?_, hset m ho⟩
  · rw [List.getElem?_set_ne (by omega)]; exact hs t (by omega)
  · rw [p2, part_succ l, hx, Option.getD_some, val_take_next, hy, Nat.pow_succ]
    generalize 1000000000 ^ k = P at *
    have e4 : P * (x + 1000000000 * c') = P * (d + (c + f * y)) := by rw [he]
    rw [Nat.mul_add, Nat.mul_add, Nat.mul_add, ← Nat.mul_assoc] at e4
    rw [Nat.mul_add, ← Nat.mul_assoc f P y, Nat.mul_comm f P, Nat.mul_assoc P f y]
    omega

theorem SubInv.cell {l lb : List Nat} {o f : Nat} {w wr : World} {g k c : Nat} (h : SubInv l lb o f w wr g k c) (hk : o + k < l.length) :
    ∃ x, x < 1000000000 ∧ l[o + k]? = some x ∧ wr.cell? ⟨g, o + k, none⟩ = some (.int .u32 (x : Nat)) ∧ wr.frozen? ⟨g, o + k, none⟩ = false := by
  obtain ⟨m, hm, hdm, hs, hv, ho⟩ := h
  have e := hs (o + k) (.inr (Nat.le_refl _))
  rw [List.getElem?_eq_getElem (by omega)] at e
  exact ⟨m[o + k], hdm.get _ (by omega), e.symm, ho.1.cell _ (by omega), ho.1.free _⟩

def SubOut (l lb : List Nat) (o n f : Nat) (w : World) (g : Nat) (e : Ending) (w' : World) : Prop :=
  ∃ m c, e = .returned (.bool (decide (0 < c))) ∧ m.length = l.length ∧ Digs 1000000000 m ∧ (∀ t, t < o ∨ o + n ≤ t → m[t]? = l[t]?) ∧ part m o n + f * val 1000000000 lb = part l o n + 1000000000 ^ n * c ∧ Only w w' g m

set_option maxHeartbeats 2000000 in
set_option maxRecDepth 100000 in
theorem subtractTimes_core (l lb : List Nat) (g o n cap f : Nat) (hn : n ≤ 100000000000) (hnl : o + n ≤ l.length) (hlb : lb.length ≤ n) (hf : f < 1000000000) (dl : Digs 1000000000 l) (db : Digs 1000000000 lb) (ob : Option Addr) (nb cb : Nat) (w : World)
    (hr : Row w g .u32 117 l) (hb : Rep w .u32 (.slice ob nb cb) lb) (hne : ∀ b off, ob = some ⟨b, off, none⟩ → b ≠ g) :
    Calls Try.prog 138 #[.slice (some ⟨g, o, none⟩) n cap, .slice ob nb cb, .int .u32 (f : Nat)] w (SubOut l lb o n f w g) := by
  obtain ⟨rfl, _⟩ := hb.len
  have Hb := Lib.hid hb; clear hb
  have Hne := Lib.hid hne; clear hne
  have Db := Lib.hid db; clear db
  have hinit : SubInv l lb o f w w g 0 0 := ⟨l, rfl, dl, fun _ _ => rfl, by simp [part], Only.refl hr⟩
  have Hinit := Lib.hid hinit; clear hinit
  clear hr dl
  go_enter Try.func138, Try.ntmps138
  go_wp2
  go_loopw [7, 13] (fun vc vk wr => ∃ k c : Nat, k ≤ n ∧ vk = .int .i64 k ∧ vc = .int .u64 c ∧ c ≤ 1000000000 ∧ SubInv l lb o f w wr g k c) (fun _ vk _ => n - (intOf vk).toNat)
  case atStart => exact ⟨0, 0, Nat.zero_le _, rfl, rfl, by omega, Hinit.out⟩
  case round =>
    obtain ⟨k, c, hk, rfl, rfl, hc, hinv⟩ := hrel
    have Inv := Lib.hid hinv; clear hinv
    by_cases hlt : k < n
    · obtain ⟨x, hx9, hx, hcx, hfx⟩ := Inv.out.cell (by omega)
      have HX := Lib.hid hx; clear hx
      have hset : ∀ (u d : Nat) (m : List Nat), Only w wr g m → Only w ((wr.setCell ⟨g, o + k, none⟩ (.int .u32 (u : Nat))).setCell ⟨g, o + k, none⟩ (.int .u32 (d : Nat))) g (m.set (o + k) d) := fun u d m ho => by
        have := (ho.set (o + k) u).set (o + k) d
        rwa [List.set_set] at this
      have Hset := Lib.hid hset; clear hset
      by_cases hlb' : k < lb.length
      · obtain ⟨m, hm⟩ : ∃ m, Only w wr g m := by obtain ⟨m, _, _, _, _, ho⟩ := Inv.out; exact ⟨m, ho⟩
        obtain ⟨by', py, rfl, _, hcy⟩ := Hb.out.only hm Hne.out k hlb'
        clear hm
        have hy9 := Db.out.get k hlb'
        have HY : Hid (lb[k]?.getD 0 = lb[k]) := by show _ = _; rw [List.getElem?_eq_getElem hlb']; rfl
        generalize lb[k] = y at *
        have hm := mul_bound f y hf hy9
        have hm1 : (f : Int) * (y : Int) ≤ 999999998000000001 := by rw [← Int.natCast_mul]; omega
        have hm0 : 0 ≤ (f : Int) * (y : Int) := by rw [← Int.natCast_mul]; omega
        have hcast := Lib.hid (Int.natCast_mul f y)
        by_cases ht : x < (c + f * y) % 1000000000
        · have ht' : (x : Int) < ((c : Int) + (f : Int) * (y : Int)) % 1000000000 := by have := hcast.out; omega
          go_wp2
          go_roundw
          case rel => exact ⟨k + 1, (c + f * y) / 1000000000 + 1, hlt, by go_num, u64_eq (by have := hcast.out; omega), by omega, by
            have e1 : (x : Int) + 1000000000 = ((x + 1000000000 : Nat) : Int) := by omega
            have e2 : ((x + 1000000000 : Nat) : Int) - (↑c + ↑f * ↑y) % 1000000000 = ((x + 1000000000 - (c + f * y) % 1000000000 : Nat) : Int) := by have := hcast.out; omega
            rw [e1, e2]
            exact Inv.out.step (by omega) x y _ _ HX.out HY.out (by omega) (by omega) (Hset.out _ _)⟩
          case measure => simp [intOf]; omega
        · have ht' : ((c : Int) + (f : Int) * (y : Int)) % 1000000000 ≤ (x : Int) := by have := hcast.out; omega
          go_wp2
          go_roundw
          case rel => exact ⟨k + 1, (c + f * y) / 1000000000, hlt, by go_num, u64_eq (by have := hcast.out; omega), by omega, by
            have e2 : (x : Int) - (↑c + ↑f * ↑y) % 1000000000 = ((x - (c + f * y) % 1000000000 : Nat) : Int) := by have := hcast.out; omega
            rw [e2]
            exact Inv.out.step (by omega) x y _ _ HX.out HY.out (by omega) (by omega) (fun m ho => ho.set _ _)⟩
          case measure => simp [intOf]; omega
      · have HY : Hid (lb[k]?.getD 0 = 0) := by show _ = _; rw [List.getElem?_eq_none (by omega)]; rfl
        by_cases ht : x < c % 1000000000
        · have ht' : (x : Int) < (c : Int) % 1000000000 := by omega
          go_wp2
          go_roundw
          case rel => exact ⟨k + 1, c / 1000000000 + 1, hlt, by go_num, u64_eq (by omega), by omega, by
            have e1 : (x : Int) + 1000000000 = ((x + 1000000000 : Nat) : Int) := by omega
            have e2 : ((x + 1000000000 : Nat) : Int) - ↑c % 1000000000 = ((x + 1000000000 - c % 1000000000 : Nat) : Int) := by omega
            rw [e1, e2]
            exact Inv.out.step (by omega) x 0 _ _ HX.out HY.out (by omega) (by omega) (Hset.out _ _)⟩
          case measure => simp [intOf]; omega
        · have ht' : (c : Int) % 1000000000 ≤ (x : Int) := by omega
          go_wp2
          go_roundw
          case rel => exact ⟨k + 1, c / 1000000000, hlt, by go_num, u64_eq (by omega), by omega, by
            have e2 : (x : Int) - ↑c % 1000000000 = ((x - c % 1000000000 : Nat) : Int) := by omega
            rw [e2]
            exact Inv.out.step (by omega) x 0 _ _ HX.out HY.out (by omega) (by omega) (fun m ho => ho.set _ _)⟩
          case measure => simp [intOf]; omega
    · have hcd : Hid (decide (0 < c) = decide ((0 : Int) < c)) := by show _ = _; by_cases h : 0 < c <;> simp [h]
      obtain rfl : k = n := by omega
      go_wp2
      go_ret
      obtain ⟨m, hm, hdm, hs, hv, ho⟩ := Inv.out
      exact ⟨m, c, by rw [hcd.out]; simp, hm, hdm, hs, by rwa [List.take_of_length_le hlb] at hv, ho⟩

/-- addBack -/
def AddOut (l lb : List Nat) (o n : Nat) (w : World) (g : Nat) (e : Ending) (w' : World) : Prop :=
  ∃ m c, e = .returned (.tuple #[]) ∧ m.length = l.length ∧ Digs 1000000000 m ∧ (∀ t, t < o ∨ o + n ≤ t → m[t]? = l[t]?) ∧ part m o n + 1000000000 ^ n * c = part l o n + val 1000000000 lb ∧ Only w w' g m

def AddInv (l lb : List Nat) (o : Nat) (w wr : World) (g k c : Nat) : Prop :=
  ∃ m, m.length = l.length ∧ Digs 1000000000 m ∧ (∀ t, t < o ∨ o + k ≤ t → m[t]? = l[t]?) ∧ part m o k + 1000000000 ^ k * c = part l o k + val 1000000000 (lb.take k) ∧ Only w wr g m

theorem AddInv.step {l lb : List Nat} {o : Nat} {w wr : World} {g k c : Nat} (h : AddInv l lb o w wr g k c) (hk : o + k < l.length) (x y : Nat) (hx : l[o + k]? = some x) (hy : lb[k]?.getD 0 = y) :
    AddInv l lb o w (wr.setCell ⟨g, o + k, none⟩ (.int .u32 ((x + c + y) % 1000000000 : Nat))) g (k + 1) ((x + c + y) / 1000000000) := by
  obtain ⟨m, hm, hdm, hs, hv, ho⟩ := h
  obtain ⟨p1, p2⟩ := part_set (l := m) (x := (x + c + y) % 1000000000) (by omega : o + k < m.length)
  refine ⟨m.set (o + k) ((x + c + y) % 1000000000), by simpa using hm, hdm.set _ _ (Nat.mod_lt _ (by omega)), fun t ht => ?_, ?_, ho.set _ _⟩
  · rw [List.getElem?_set_ne (by omega)]; exact hs t (by omega)
  · rw [p2, part_succ l, hx, Option.getD_some, val_take_next, hy, Nat.pow_succ]
    have e3 := Nat.mod_add_div (x + c + y) 1000000000
    generalize 1000000000 ^ k = P at *
    generalize (x + c + y) / 1000000000 = q at *
    generalize (x + c + y) % 1000000000 = r at *
    have e4 : P * (r + 1000000000 * q) = P * (x + c + y) := by rw [e3]
    rw [Nat.mul_add, Nat.mul_add, Nat.mul_add, ← Nat.mul_assoc] at e4
    omega

theorem AddInv.cell {l lb : List Nat} {o : Nat} {w wr : World} {g k c : Nat} (h : AddInv l lb o w wr g k c) (hk : o + k < l.length) :
    ∃ x, x < 1000000000 ∧ l[o + k]? = some x ∧ wr.cell? ⟨g, o + k, none⟩ = some (.int .u32 (x : Nat)) ∧ wr.frozen? ⟨g, o + k, none⟩ = false := by
  obtain ⟨m, hm, hdm, hs, hv, ho⟩ := h
  have e := hs (o + k) (.inr (Nat.le_refl _))
  rw [List.getElem?_eq_getElem (by omega)] at e
  exact ⟨m[o + k], hdm.get _ (by omega), e.symm, ho.1.cell _ (by omega), ho.1.free _⟩

set_option maxHeartbeats 2000000 in
set_option maxRecDepth 100000 in
theorem addBack_core (l lb : List Nat) (g o n cap : Nat) (hn : n ≤ 100000000000) (hnl : o + n ≤ l.length) (hlb : lb.length ≤ n) (dl : Digs 1000000000 l) (db : Digs 1000000000 lb) (ob : Option Addr) (nb cb : Nat) (w : World)
    (hr : Row w g .u32 117 l) (hb : Rep w .u32 (.slice ob nb cb) lb) (hne : ∀ b off, ob = some ⟨b, off, none⟩ → b ≠ g) :
    Calls Try.prog 139 #[.slice (some ⟨g, o, none⟩) n cap, .slice ob nb cb] w (AddOut l lb o n w g) := by
  obtain ⟨rfl, _⟩ := hb.len
  have Hb := Lib.hid hb; clear hb
  have Hne := Lib.hid hne; clear hne
  have Db := Lib.hid db; clear db
  have hinit : AddInv l lb o w w g 0 0 := ⟨l, rfl, dl, fun _ _ => rfl, by simp [part], Only.refl hr⟩
  have Hinit := Lib.hid hinit; clear hinit
  clear hr dl
  go_enter Try.func139, Try.ntmps139
  go_wp2
  go_loopw [4, 9] (fun vc vk wr => ∃ k c : Nat, k ≤ n ∧ vk = .int .i64 k ∧ vc = .int .u32 c ∧ c ≤ 1 ∧ AddInv l lb o w wr g k c) (fun _ vk _ => n - (intOf vk).toNat)
  case atStart => exact ⟨0, 0, Nat.zero_le _, rfl, rfl, by omega, Hinit.out⟩
  case round =>
    obtain ⟨k, c, hk, rfl, rfl, hc, hinv⟩ := hrel
    have Inv := Lib.hid hinv; clear hinv
    by_cases hlt : k < n
    · obtain ⟨x, hx9, hx, hcx, hfx⟩ := Inv.out.cell (by omega)
      have HX := Lib.hid hx; clear hx
      by_cases hlb' : k < lb.length
      · obtain ⟨m, hm⟩ : ∃ m, Only w wr g m := by obtain ⟨m, _, _, _, _, ho⟩ := Inv.out; exact ⟨m, ho⟩
        obtain ⟨by', py, rfl, _, hcy⟩ := Hb.out.only hm Hne.out k hlb'
        clear hm
        have hy9 := Db.out.get k hlb'
        have HY : Hid (lb[k]?.getD 0 = lb[k]) := by show _ = _; rw [List.getElem?_eq_getElem hlb']; rfl
        generalize lb[k] = y at *
        go_wp2
        go_roundw
        case rel => exact ⟨k + 1, (x + c + y) / 1000000000, hlt, by go_num, u32_eq (by omega), by omega, by
          have := Inv.out.step (by omega) x y HX.out HY.out
          rwa [show (((x + c + y) % 1000000000 : Nat) : Int) = (↑x + ↑c + ↑y) % 1000000000 from by omega] at this⟩
        case measure => simp [intOf]; omega
      · have HY : Hid (lb[k]?.getD 0 = 0) := by show _ = _; rw [List.getElem?_eq_none (by omega)]; rfl
        go_wp2
        go_roundw
        case rel => exact ⟨k + 1, (x + c + 0) / 1000000000, hlt, by go_num, u32_eq (by omega), by omega, by
          have := Inv.out.step (by omega) x 0 HX.out HY.out
          rwa [show (((x + c + 0) % 1000000000 : Nat) : Int) = (↑x + ↑c) % 1000000000 from by omega] at this⟩
        case measure => simp [intOf]; omega
    · obtain rfl : k = n := by omega
      go_wp2
      go_end0
      obtain ⟨m, hm, hdm, hs, hv, ho⟩ := Inv.out
      exact ⟨m, c, rfl, hm, hdm, hs, by rwa [List.take_of_length_le hlb] at hv, ho⟩
end Go.Proofs.Ytlkdahgfnfdakaa
