/- The reference's numbers: natOf. -/
import Derived.Test.YtlkdahgfnfdakaaRefA
namespace Go.Proofs.Ytlkdahgfnfdakaa
open Go Go.RowKit Go.Shelf WN LM

def RRet (w : World) (n : Nat) (e : Ending) (w' : World) : Prop := ∃ v, e = .returned v ∧ RNum w' v n ∧ Below w.heap.size w w'
theorem Try.underlying58 : Try.prog.underlying 58 = some (.slice 3) := by kernel_rfl
theorem one_celli (w : World) (x t : Nat) : ∀ j u, (nl .i64 [x])[j]? = some u → (w.alloc (.cells #[.int .i64 (x : Int)] t)).cell? ((⟨w.heap.size, 0, none⟩ : Addr).add j) = some u := by
  intro j u h
  match j, h with
  | 0, h => simp [nl] at h; subst h; simp [Addr.add]
  | j + 1, h => simp [nl] at h

/-- natOf, at the head of a round: what has been collected, and what is left -/
def NatOfInv (n : Nat) (w wr : World) (v : Value) (m : Nat) : Prop :=
  ∃ l, wr.ownsRow w.heap.size 3 1 v l.length (nl .i64 l) ∧ Digs 10000 l ∧ n = val 10000 l + 10000 ^ l.length * m ∧ (m = 0 → Top l) ∧ l.length ≤ 20 ∧ Below w.heap.size w wr

set_option maxHeartbeats 1000000 in
set_option maxRecDepth 100000 in
theorem natOf_any (n : Nat) (hn : n < 18446744073709551616) (w : World) : Calls Try.prog 58 #[.int .u64 (n : Nat)] w (RRet w n) := by
  have hn0 : (n : Int) ≤ 18446744073709551615 := by omega
  have Hn := Lib.hid hn0; clear hn0
  clear hn
  go_enter Try.func58, Try.ntmps58
  go_wp2
  obtain ⟨i0, hi, hz0, hz1, hz2⟩ := info_parts Try.info3
  go_loopw [3, 0] (fun v vm wr => ∃ m : Nat, vm = .int .u64 m ∧ (m : Int) ≤ 18446744073709551615 ∧ NatOfInv n w wr v m) (fun _ vm _ => (intOf vm).toNat)
  case atStart => exact ⟨n, rfl, Hn.out, [], World.ownsRow_nil _ _ _ _, Digs.nil _, by simp, fun _ => Top.nil, by simp, Below.refl _ _⟩
  case round =>
    obtain ⟨m, rfl, hm, hinv⟩ := hrel
    have Inv := Lib.hid hinv
    by_cases h0 : 0 < m
    · obtain ⟨l, hown, hd, he, ht, hl, hb⟩ := hinv
      have HE := Lib.hid he; clear he
      have HT := Lib.hid ht; clear ht
      have hl2 : l.length ≤ 4 := by
        have h1 : 10000 ^ l.length * 1 ≤ 10000 ^ l.length * m := Nat.mul_le_mul_left _ h0
        have h2 := HE.out
        have h3 : n < 10000 ^ 5 := by
          have := Hn.out
          have h9 : (10000 : Nat) ^ 5 = 100000000000000000000 := by decide
          rw [h9]; omega
        have h4 : 10000 ^ l.length < 10000 ^ 5 := by omega
        have := (Nat.pow_lt_pow_iff_right (by omega : 1 < 10000)).1 h4
        omega
      have Hm := Lib.hid hm; clear hm
      have hrem : wrap64 ((m : Int) % 10000) = (m : Int) % 10000 := by unfold wrap64; omega
      have hquo : IntKind.u64.wrap ((m : Int).tdiv 10000) = (m : Int) / 10000 := IntWalk.u64_quo _ _ ⟨by omega, Hm.out, by omega⟩
      go_wp2_with (at_builtin; refine wpList_append_own _ rfl (.tmp 6) (.tmp 10) 58 rfl w.heap.size 3 i0 (.int .i64 0) 1 8 Try.underlying58 hi hz0 hz1 hz2 rfl (by decide) _ l.length _ rfl (hown.alloc _) ⟨wr.heap.size, 0, none⟩ 1 1 (nl .i64 [m % 10000]) rfl rfl (by have := one_celli wr (m % 10000) 3; rwa [Int.natCast_emod] at this) (by intro u hu; simp [nl] at hu; subst hu; rfl) (by unfold maxLen; omega) (by omega) (by have := hb.size; simp; omega) ?_; intro v' w1 hown1 hgrow1 _)
      have hmw : IntKind.u64.wrap ((m : Int) / 10000) = ((m / 10000 : Nat) : Int) := by
        rw [Int.natCast_ediv]; exact IntWalk.u64_in _ ⟨by omega, by have := Hm.out; omega⟩
      rw [hmw]
      go_roundw
      case rel =>
        refine ⟨m / 10000, rfl, by have := Hm.out; omega, l ++ [m % 10000], ?_, hd.snoc (Nat.mod_lt _ (by omega)), ?_, ?_, by simp; omega, (hb.alloc hb.size _).grown hgrow1 (by simp; have := hb.size; omega) (fun k hk => (hown.lt k hk).1)⟩
        · rw [List.length_append, nl_append]; exact hown1
        · rw [val_snoc, List.length_append, List.length_singleton, Nat.pow_succ, HE.out]
          have := Nat.mod_add_div m 10000
          rw [Nat.add_assoc, Nat.mul_assoc, ← Nat.mul_add, this]
        · intro h
          refine top_snoc ?_
          omega
      case measure => simp [intOf]; omega
    · obtain rfl : m = 0 := by omega
      clear hinv
      go_wp2
      go_ret
      obtain ⟨l, hown, hd, he, ht, hl, hb⟩ := Inv.out
      exact ⟨_, rfl, ⟨l, Rep.own hown, ⟨hd, ht rfl⟩, by omega⟩, hb⟩
end Go.Proofs.Ytlkdahgfnfdakaa
