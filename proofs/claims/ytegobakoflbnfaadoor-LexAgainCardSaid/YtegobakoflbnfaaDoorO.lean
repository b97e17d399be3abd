/- padded, long. -/
import Derived.Test.YtegobakoflbnfaaDoorN
import Derived.Laws.Externs
namespace Go.Proofs.YtegobakoflbnfaaDoor
open Go Go.RowKit

theorem ba_app (a b : List UInt8) : (⟨a.toArray⟩ : ByteArray) ++ ⟨b.toArray⟩ = ⟨(a ++ b).toArray⟩ := by
  apply ByteArray.ext
  simp
theorem Pow10.go {w w' : World} (h : Pow10 w) (hb : Below w.heap.size w w') : Pow10 w' := by
  unfold Pow10 Lib.TabIs World.var? at *
  cases hg : Tryd.prog.globalNamed "internal/strconv.uint64pow10" with
  | none => simp [hg] at h
  | some g =>
    simp only [hg, Option.bind_some] at h ⊢
    have hlt : g < w.heap.size := by
      rcases Nat.lt_or_ge g w.heap.size with h' | h'
      · exact h'
      · rw [Array.getElem?_eq_none h'] at h; simp at h
    rw [hb.block g hlt]
    exact h
theorem add64_run (x y : Nat) (w : World) : (callFunc 57 #[.int .u64 (x : Int), .int .u64 (y : Int), .int .u64 0]).run Tryd.prog w = .ok (.value (.tuple #[.int .u64 (((x + y) % 18446744073709551616 : Nat) : Int), .int .u64 (((x + y) / 18446744073709551616 : Nat) : Int)])) w := by
  rw [run_callFunc_extern Tryd.func57 (by kernel_rfl) (by kernel_rfl) (by kernel_rfl) (e := add64Entry) (by kernel_rfl), run_add64 (x : Int) (y : Int) 0 (by omega) (by omega) (by omega) (by omega)]
  simp only [Result.andThen]
  congr 5 <;> omega
theorem dec_le20 {n : Nat} (hn : n < 18446744073709551616) : (Lib.decDigits n).length ≤ 20 := by
  rcases Nat.eq_zero_or_pos n with h0 | h0
  · subst h0; rw [Lib.decDigits_one (by omega)]; decide
  · rw [Lib.decDigits_length]
    have := Lib.numDigits_eq n h0 hn; split at this <;> omega
theorem wsub {a b : Nat} (ha : a ≤ 15) (hb : b ≤ 20) : wrap64 ((a : Int) - (b : Int)) = (a : Int) - (b : Int) := by unfold wrap64; omega
def padL (n d : Nat) : List UInt8 := Lib.repeatL [48] (d - (Lib.decDigits n).length) ++ Lib.decDigits n

set_option maxHeartbeats 4000000 in
set_option maxRecDepth 100000 in
theorem padded_any (w : World) (n d : Nat) (hn : n < 18446744073709551616) (hd : d ≤ 15) (ht : Pow10 w) : Calls Tryd.prog 47 #[.int .u64 (n : Int), .int .i64 (d : Int)] w fun e w' => e = .returned (.string ⟨(padL n d).toArray⟩) ∧ Below w.heap.size w w' := by
  have F := Lib.hid (fmt_any w n hn ht)
  have hlen := dec_le20 hn
  obtain ⟨s, hs⟩ : ∃ s, s = (⟨(Lib.decDigits n).toArray⟩ : ByteArray) := ⟨_, rfl⟩
  have hss : s.size = (Lib.decDigits n).length := by rw [hs]; simp [ByteArray.size]
  rw [← hs] at F
  have HS := Lib.hid hs; have HSS := Lib.hid hss
  have hs20 : s.size ≤ 20 := by omega
  obtain ⟨r, hr⟩ : ∃ r, r = d - s.size := ⟨_, rfl⟩
  have RP := Lib.hid (fun W => Tryd.strings_Repeat ⟨#[48]⟩ r W (by omega) (by simp [ByteArray.size]; omega))
  have HR := Lib.hid hr
  have w1 : wrap64 ((d : Int) - (s.size : Int)) = (d : Int) - (s.size : Int) := wsub hd hs20
  have HM : Hid (max 0 ((d : Int) - (s.size : Int)) = (r : Int)) := by show _ = _; omega
  clear hs hss hlen ht hn
  obtain ⟨p, hp⟩ : ∃ p, p = (⟨(Lib.repeatL [48] r).toArray⟩ : ByteArray) := ⟨_, rfl⟩
  rw [← hp] at RP
  have hps : p.size ≤ 15 := by
    rw [hp]
    have := Lib.repeatL_length [48] r
    simp only [ByteArray.size, List.size_toArray]
    simp at this; omega
  have HPP := Lib.hid hp
  clear hr hp hd
  go_enter Tryd.func47, Tryd.ntmps47
  go_wp2_with fail
  refine (F.out).mono ?_; rintro e w2 ⟨rfl, hb⟩
  have HB := Lib.hid hb; clear hb
  go_wp2_with fail
  rw [HM.out]
  refine (RP.out _).mono ?_; rintro e w3 ⟨rfl, hb⟩
  have HB2 := Lib.hid (bstep HB.out hb); clear hb HB
  go_wp2_with fail
  go_ret
  exact ⟨by unfold padL; rw [← ba_app, ← HS.out, ← HSS.out, ← HR.out, ← HPP.out]; rfl, HB2.out⟩

def longL (N : Nat) : List UInt8 := if N / 1000000000000000 = 0 then Lib.decDigits (N % 1000000000000000) else Lib.decDigits (N / 1000000000000000) ++ padL (N % 1000000000000000) 15
theorem padL_len {n d : Nat} (hn : n < 18446744073709551616) (hd : d ≤ 15) : (padL n d).length ≤ 35 := by
  unfold padL
  rw [List.length_append, Lib.repeatL_length]
  have := dec_le20 hn
  simp; omega

set_option maxHeartbeats 4000000 in
set_option maxRecDepth 100000 in
theorem long_any (w : World) (a b c : Nat) (ha : a < 18446744073709551616) (hb : b < 18446744073709551616) (hc : c < 18446744073709551616) (hN : a * b + c < 18446744073709551616000000000000000) (ht : Pow10 w) : Calls Tryd.prog 69 #[.int .u64 (a : Int), .int .u64 (b : Int), .int .u64 (c : Int)] w fun e w' => e = .returned (.string ⟨(longL (a * b + c)).toArray⟩) ∧ Below w.heap.size w w' := by
  have MU := Lib.hid (fun W => Tryd.bits_Mul64 a b ha hb W)
  obtain ⟨H, hH⟩ : ∃ H, H = a * b / 18446744073709551616 := ⟨_, rfl⟩
  obtain ⟨L, hL⟩ : ∃ L, L = a * b % 18446744073709551616 := ⟨_, rfl⟩
  rw [← hH, ← hL] at MU
  obtain ⟨N, hNe⟩ : ∃ N, N = a * b + c := ⟨_, rfl⟩
  have hab : a * b = H * 18446744073709551616 + L := by omega
  rw [← hNe] at hN ⊢
  have hL2 : L < 18446744073709551616 := by omega
  have hNN : N = H * 18446744073709551616 + L + c := by rw [hNe, hab]
  clear hH hL hNe hab ha hb
  obtain ⟨L2, hL2e⟩ : ∃ x, x = (L + c) % 18446744073709551616 := ⟨_, rfl⟩
  obtain ⟨C2, hC2e⟩ : ∃ x, x = (L + c) / 18446744073709551616 := ⟨_, rfl⟩
  have hAD : ∀ W, (callFunc 57 #[.int .u64 (L : Int), .int .u64 (c : Int), .int .u64 0]).run Tryd.prog W = .ok (.value (.tuple #[.int .u64 (L2 : Int), .int .u64 (C2 : Int)])) W := fun W => by rw [add64_run, hL2e, hC2e]
  have hN2 : N = (H + C2) * 18446744073709551616 + L2 := by rw [Nat.add_mul]; omega
  have hHC : H + C2 < 1000000000000000 := by omega
  have hL2b : L2 < 18446744073709551616 := by omega
  have hw : IntKind.u64.wrap ((H : Int) + (C2 : Int)) = ((H + C2 : Nat) : Int) := by rw [← Int.natCast_add]; exact wu64 (by omega)
  have DV := Lib.hid (fun W => div_any W (H + C2) L2 1000000000000000 hL2b hHC (by omega))
  rw [← hN2] at DV
  obtain ⟨l, hl⟩ : ∃ l, l = N / 1000000000000000 := ⟨_, rfl⟩
  obtain ⟨r, hr⟩ : ∃ r, r = N % 1000000000000000 := ⟨_, rfl⟩
  have hlb : l < 18446744073709551616 := by omega
  have hrb : r < 18446744073709551616 := by omega
  rw [← hl, ← hr] at DV
  have FL : Hid (∀ W, Below w.heap.size w W → Calls Tryd.prog 46 #[.int .u64 (l : Int), .int .i64 10] W fun e w' => e = .returned (.string ⟨(Lib.decDigits l).toArray⟩) ∧ Below W.heap.size W w') := fun W hb => fmt_any W l hlb (ht.go hb)
  have FR : Hid (∀ W, Below w.heap.size w W → Calls Tryd.prog 46 #[.int .u64 (r : Int), .int .i64 10] W fun e w' => e = .returned (.string ⟨(Lib.decDigits r).toArray⟩) ∧ Below W.heap.size W w') := fun W hb => fmt_any W r hrb (ht.go hb)
  have PR : Hid (∀ W, Below w.heap.size w W → Calls Tryd.prog 47 #[.int .u64 (r : Int), .int .i64 15] W fun e w' => e = .returned (.string ⟨(padL r 15).toArray⟩) ∧ Below W.heap.size W w') := fun W hb => padded_any W r 15 hrb (Nat.le_refl _) (ht.go hb)
  have HW := Lib.hid hw
  have HLL : Hid (longL N = if l = 0 then Lib.decDigits r else Lib.decDigits l ++ padL r 15) := by show _ = _; unfold longL; rw [hl, hr]
  have hs1 := dec_le20 hlb
  have hs2 := padL_len hrb (Nat.le_refl 15)
  obtain ⟨sl, hsl⟩ : ∃ s, s = (⟨(Lib.decDigits l).toArray⟩ : ByteArray) := ⟨_, rfl⟩
  obtain ⟨sp, hsp⟩ : ∃ s, s = (⟨(padL r 15).toArray⟩ : ByteArray) := ⟨_, rfl⟩
  have hsls : sl.size ≤ 20 := by rw [hsl]; exact hs1
  have hsps : sp.size ≤ 35 := by rw [hsp]; exact hs2
  rw [← hsl] at FL
  rw [← hsp] at PR
  have HSL := Lib.hid hsl; have HSP := Lib.hid hsp
  clear hs1 hs2 hsl hsp hw hL2b hHC hN2 hL2e hC2e hl hr hlb hrb hN hNN hL2 hc ht
  by_cases h0 : l = 0
  · subst h0
    have HR : Hid (longL N = Lib.decDigits r) := by show _ = _; rw [HLL.out]; rfl
    go_enter Tryd.func69, Tryd.ntmps69
    go_wp2_with fail
    refine (MU.out _).mono ?_; rintro e w2 ⟨rfl, rfl⟩
    go_wp2_with fail
    rw [HW.out]
    refine (DV.out _).mono ?_; rintro e w3 ⟨rfl, hb⟩
    have HB := Lib.hid hb; clear hb
    go_wp2_with fail
    refine (FR.out _ HB.out).mono ?_; rintro e w4 ⟨rfl, hb⟩
    have HB2 := Lib.hid (bstep HB.out hb); clear hb HB
    go_wp2_with fail
    go_ret
    exact ⟨by rw [HR.out]; rfl, HB2.out⟩
  · have HR : Hid (longL N = Lib.decDigits l ++ padL r 15) := by show _ = _; rw [HLL.out, if_neg h0]
    have h0' : ((l : Int) == 0) = false := by rw [beq_eq_false_iff_ne]; omega
    go_enter Tryd.func69, Tryd.ntmps69
    go_wp2_with fail
    refine (MU.out _).mono ?_; rintro e w2 ⟨rfl, rfl⟩
    go_wp2_with fail
    rw [HW.out]
    refine (DV.out _).mono ?_; rintro e w3 ⟨rfl, hb⟩
    have HB := Lib.hid hb; clear hb
    go_wp2_with fail
    refine (FL.out _ HB.out).mono ?_; rintro e w4 ⟨rfl, hb⟩
    have HB2 := Lib.hid (bstep HB.out hb); clear hb HB
    go_wp2_with fail
    refine (PR.out _ HB2.out).mono ?_; rintro e w5 ⟨rfl, hb⟩
    have HB3 := Lib.hid (bstep HB2.out hb); clear hb HB2
    go_wp2_with fail
    go_ret
    exact ⟨by rw [HR.out, ← ba_app, ← HSL.out, ← HSP.out]; rfl, HB3.out⟩
end Go.Proofs.YtegobakoflbnfaaDoor
