/- strings.Cut at one byte, of any text; what strconv.ParseUint answers to any text. words, decimalOf. decimalOf. written, isToken: any token. Text. SameTokens, the lists lying anywhere. -/
import Derived.Test.YtegobakoflbnfaaGreatDoorGd
import Derived.Deep.QuietTactic
import Derived.BigQuiet
import Derived.Lib.ParseIntBCases
import Derived.LaidSub
import Derived.MakeChecks
import Derived.Test.YtegobakoflbnfaaGreatDoorZ
namespace Go.Proofs.YtegobakoflbnfaaGreatDoor
open Go Go.RowKit

set_option maxHeartbeats 4000000 in
set_option maxRecDepth 100000 in
theorem cut_lite (w : World) (s : ByteArray) (c : UInt8) (hs : s.size ≤ 140737488355328) : Calls Tryz.prog 44 #[.string s, .string ⟨#[c]⟩] w fun e w' => e = .returned (.tuple #[.string ⟨(Lib.cut s.data.toList [c]).1.toArray⟩, .string ⟨(Lib.cut s.data.toList [c]).2.1.toArray⟩, .bool (Lib.cut s.data.toList [c]).2.2]) ∧ Below w.heap.size w w' := by
  have IX := Lib.hid (Tryz.stringslite_Index_one s c w)
  have hcut : Lib.cut s.data.toList [c] = if 0 ≤ Lib.indexByte s.data.toList c then (s.data.toList.take (Lib.indexByte s.data.toList c).toNat, s.data.toList.drop ((Lib.indexByte s.data.toList c).toNat + 1), true) else (s.data.toList, [], false) := by
    unfold Lib.cut
    rw [Lib.index_one]; rfl
  have hsz : s.data.toList.length = s.size := Array.length_toList
  have hge := Lib.indexByte_ge s.data.toList c
  obtain ⟨k, hk⟩ : ∃ k, k = Lib.indexByte s.data.toList c := ⟨_, rfl⟩
  rw [← hk] at IX hcut hge
  have HC := Lib.hid hcut
  have hlt : 0 ≤ k → k.toNat < s.size := fun h => by
    obtain ⟨h1, -⟩ := Lib.indexByte_some (l := s.data.toList) (c := c) (o := k.toNat) (by rw [← hk]; omega)
    rw [← hsz]
    exact (List.getElem?_eq_some_iff.1 h1).1
  clear hk
  by_cases h0 : 0 ≤ k
  · obtain ⟨n, rfl⟩ : ∃ n : Nat, k = (n : Int) := ⟨k.toNat, by omega⟩
    have hn : n < s.size := by simpa using hlt h0
    have hW : Hid (wrap64 ((n : Int) + 1) = ((n + 1 : Nat) : Int)) := wnat (by omega)
    obtain ⟨n1, hn1⟩ : ∃ q, q = n + 1 := ⟨_, rfl⟩
    have hw : wrap64 ((n : Int) + 1) = (n1 : Int) := by rw [hn1]; exact hW.out
    have hn1s : (n1 : Int) ≤ (s.size : Int) := by omega
    have hns : (n : Int) ≤ (s.size : Int) := by omega
    have E1 : Hid ((⟨(s.data.toList.take n).toArray⟩ : ByteArray) = s.extract 0 n) := by
      show _ = _
      apply ByteArray.ext
      rw [← Array.toList_inj, toList_extract]; simp
    have E2 : Hid ((⟨(s.data.toList.drop (n + 1)).toArray⟩ : ByteArray) = s.extract n1 s.size) := by
      show _ = _
      rw [← hn1]
      apply ByteArray.ext
      rw [← Array.toList_inj, toList_from]
    have HR : Hid (Lib.cut s.data.toList [c] = (s.data.toList.take n, s.data.toList.drop (n + 1), true)) := by
      show _ = _
      rw [HC.out, if_pos (by omega)]; rfl
    clear hW hn hn1 hlt HC hsz hcut h0 hge hs
    go_enter Tryz.func44, Tryz.ntmps44
    go_wp2_with fail
    refine IX.out.mono ?_; rintro e w2 ⟨rfl, rfl⟩
    go_wp2_with fail
    go_quiet (fail)
    go_wp2_with fail
    refine bodyPost_ret (v := .tuple #[.string (s.extract 0 n), .string (s.extract n1 s.size), .bool true]) (by simp [results, Tryz.f44, go_sem]) rfl ⟨by rw [HR.out, E1.out, E2.out], below_drewN _ _ _⟩
  · have HR : Hid (Lib.cut s.data.toList [c] = (s.data.toList, [], false)) := by
      show _ = _
      rw [HC.out, if_neg h0]
    have hkn : ¬ (k ≥ 0) := h0
    clear hlt HC hsz hcut h0 hge hs
    go_enter Tryz.func44, Tryz.ntmps44
    go_wp2_with fail
    refine IX.out.mono ?_; rintro e w2 ⟨rfl, rfl⟩
    go_wp2_with fail
    refine bodyPost_ret (v := .tuple #[.string s, .string ⟨#[]⟩, .bool false]) (by simp [results, Tryz.f44, go_sem]) rfl ⟨by rw [HR.out], Below.refl _ _⟩
set_option maxHeartbeats 4000000 in
set_option maxRecDepth 100000 in
theorem cut_any (w : World) (s : ByteArray) (c : UInt8) (hs : s.size ≤ 140737488355328) : Calls Tryz.prog 22 #[.string s, .string ⟨#[c]⟩] w fun e w' => e = .returned (.tuple #[.string ⟨(Lib.cut s.data.toList [c]).1.toArray⟩, .string ⟨(Lib.cut s.data.toList [c]).2.1.toArray⟩, .bool (Lib.cut s.data.toList [c]).2.2]) ∧ Below w.heap.size w w' := by
  have IX := Lib.hid (cut_lite w s c hs)
  obtain ⟨r, hr⟩ : ∃ r, r = Lib.cut s.data.toList [c] := ⟨_, rfl⟩
  rw [← hr] at IX ⊢
  obtain ⟨a, b, d⟩ := r
  clear hr hs
  go_enter Tryz.func22, Tryz.ntmps22
  go_wp2_with fail
  refine IX.out.mono ?_; rintro e w2 ⟨rfl, hb⟩
  have HB := Lib.hid hb; clear hb
  go_wp2_with fail
  refine bodyPost_ret (v := .tuple #[.string ⟨a.toArray⟩, .string ⟨b.toArray⟩, .bool d]) (by simp [results, Tryz.f22, go_sem]) rfl ⟨rfl, HB.out⟩

/-- the two variables that the errors of ParseUint hold -/
def ErrV (w : World) : Prop := (∃ ev, w.cell? ⟨3, 0, none⟩ = some ev ∧ (ev = .nilIface ∨ ∃ te pe, ev = .iface te pe)) ∧ (∃ ev, w.cell? ⟨4, 0, none⟩ = some ev ∧ (ev = .nilIface ∨ ∃ te pe, ev = .iface te pe))
theorem ErrV.go {w w' : World} (h : ErrV w) (hb : Below w.heap.size w w') : ErrV w' := by
  obtain ⟨⟨a, ha, ha2⟩, b, hb1, hb2⟩ := h
  exact ⟨⟨a, (hb.cell (World.block_lt_of_cell? w _ ha)).trans ha, ha2⟩, b, (hb.cell (World.block_lt_of_cell? w _ hb1)).trans hb1, hb2⟩
set_option maxRecDepth 100000 in
theorem iface_cells {W : World} {t : TypeId} {ms : Array (String × TypeId)} {sp : Nat → Bool} {hd : Bool} (ht : Tryz.prog.underlying t = some (.interface ms)) {n : Nat} {cs : List Value} {D : DataW Unit} {p : List MemPlace}
    (h : DataW.trod (fun _ => ()) Tryz.prog W 0 sp hd n t cs = some (D, p)) : ∃ E, cs = [E] ∧ (E = .nilIface ∨ ∃ te pe, E = .iface te pe) := by
  cases n with
  | zero => simp [DataW.trod] at h
  | succ n =>
    match cs with
    | [] => simp [DataW.trod, ht] at h
    | a :: b :: l => simp [DataW.trod, ht] at h
    | [E] =>
      refine ⟨E, rfl, ?_⟩
      cases E with
      | nilIface => exact Or.inl rfl
      | iface u v => exact Or.inr ⟨u, v, rfl⟩
      | _ => simp [DataW.trod, ht] at h
theorem err_laid {W : World} {laid : List (String × DataW Unit)} (h : laidMetH Tryz.prog laid W) (name : String) (g : Nat) (D : DataW Unit)
    (he : (laid.filter fun x => x.1 == name) = [(name, D)]) (hp : ([(name, D)].all fun x : String × DataW Unit => x.2.handleName?.isNone) = true) (hgn : Tryz.prog.globalNamed name = some g) (hgt : (Tryz.prog.globals[g]?).map (·.type) = some 65) :
    ∃ ev, W.cell? ⟨g, 0, none⟩ = some ev ∧ (ev = .nilIface ∨ ∃ te pe, ev = .iface te pe) := by
  have h1 := laidMetH.filter (fun x => x.1 == name) h
  rw [he, MakeChecks.laidMetH_plain _ _ _ hp] at h1
  obtain ⟨ps, ⟨g', t, cs, fuel, p, q, hg, ht, hv, hd, _, _⟩, _, _⟩ := h1
  obtain rfl := Option.some.inj (hgn.symm.trans hg)
  obtain rfl := Option.some.inj (hgt.symm.trans ht)
  obtain ⟨E, hE, hE2⟩ := iface_cells Tryz.underlying65 hd
  refine ⟨E, ?_, hE2⟩
  rw [World.var?_cell hg hv 0]
  have h9 : cs.toList[0]? = some E := by rw [hE]; rfl
  simpa using h9
theorem err_of {W : World} (h : laidMetH Tryz.prog Rows.lexScansRow.laid W) : ErrV W :=
  ⟨err_laid h "strconv.ErrSyntax" 3 Rows.laid_strconv_ErrSyntax (by kernel_rfl) (by kernel_rfl) (by kernel_rfl) (by kernel_rfl), err_laid h "strconv.ErrRange" 4 Rows.laid_strconv_ErrRange (by kernel_rfl) (by kernel_rfl) (by kernel_rfl) (by kernel_rfl)⟩
/-- what ParseUint reads, if it reads a number -/
def puO (l : List UInt8) : Option Nat := match Lib.parseUintB 64 l with
  | .ok u => some u
  | _ => none
theorem pu_opt (W : World) (s : ByteArray) (hs : s.size ≤ 140737488355330) (he : ErrV W) : Calls Tryz.prog 55 #[.string s, .int .i64 10, .int .i64 64] W fun e w' =>
    ((∃ u, puO s.data.toList = some u ∧ u < 18446744073709551616 ∧ e = .returned (.tuple #[.int .u64 (u : Int), .nilIface])) ∨ (puO s.data.toList = none ∧ ∃ x te pe, e = .returned (.tuple #[.int .u64 x, .iface te pe]))) ∧ Below W.heap.size W w' := by
  obtain ⟨⟨a, ha, ha2⟩, b, hb1, hb2⟩ := he
  unfold puO
  cases hq : Lib.parseUintB 64 s.data.toList
  case ok u =>
    refine (Tryz.strconv_ParseUint_10_at64_ok s (by omega) u hq W).mono ?_
    rintro e w' ⟨rfl, hw⟩
    refine ⟨Or.inl ⟨u, rfl, ?_, rfl⟩, ?_⟩
    · have := Lib.parseUintB_le hq
      omega
    · rcases hw with rfl | rfl
      · exact Below.refl _ _
      · exact Joins.below_bytesWorld _ _ _ _ (Nat.le_refl _)
  case range =>
    refine (Tryz.strconv_ParseUint_10_at64_range s (by omega) hq b W hb1 hb2).mono ?_
    rintro e w' ⟨N, rfl, -, -, hbel⟩
    exact ⟨Or.inr ⟨rfl, _, _, _, rfl⟩, hbel⟩
  all_goals
    refine (Any.strconv_ParseUint_10_at64_syntax Tryz.laysPu14 s (by omega) hq a W ha ha2).mono ?_
    rintro e w' ⟨N, rfl, -, -, hbel⟩
    exact ⟨Or.inr ⟨rfl, _, _, _, rfl⟩, hbel⟩
end Go.Proofs.YtegobakoflbnfaaGreatDoor

namespace Go.Proofs.YtegobakoflbnfaaGreatDoor
open Go Go.RowKit

def wordsO (l : List UInt8) : Option Nat :=
  if 30 < l.length then none else (puO (48 :: l.take (l.length - 15))).bind fun a => (puO (l.drop (l.length - 15))).map fun b => a * 1000000000000000 + b
set_option maxHeartbeats 4000000 in
set_option maxRecDepth 100000 in
theorem words_of (w : World) (s : ByteArray) (hs : s.size ≤ 140737488355328) (he : ErrV w) : Calls Tryz.prog 54 #[.string s] w fun e w' =>
    ((∃ n, wordsO s.data.toList = some n ∧ n / 18446744073709551616 < 18446744073709551616 ∧ e = .returned (.tuple #[.int .u64 ((n / 18446744073709551616 : Nat) : Int), .int .u64 ((n % 18446744073709551616 : Nat) : Int), .bool true])) ∨
      (wordsO s.data.toList = none ∧ e = .returned (.tuple #[.int .u64 0, .int .u64 0, .bool false]))) ∧ Below w.heap.size w w' := by
  have hsz : s.data.toList.length = s.size := Array.length_toList
  by_cases h30 : 30 < s.size
  · have t1 : decide (30 < (s.size : Int)) = true := decide_eq_true (by omega)
    have HR : Hid (wordsO s.data.toList = none) := by show _ = _; unfold wordsO; rw [if_pos (by omega)]
    clear h30 hsz hs he
    go_enter Tryz.func54, Tryz.ntmps54
    go_wp2_with fail
    refine bodyPost_ret (v := .tuple #[.int .u64 0, .int .u64 0, .bool false]) (by simp [results, Tryz.f54, go_sem]) rfl ⟨Or.inr ⟨HR.out, rfl⟩, Below.refl _ _⟩
  · have t1 : decide (30 < (s.size : Int)) = false := decide_eq_false (by omega)
    obtain ⟨m, hm⟩ : ∃ m, m = s.size - 15 := ⟨_, rfl⟩
    have hms : m ≤ s.size := by omega
    have hWO : wordsO s.data.toList = (puO (48 :: s.data.toList.take m)).bind fun a => (puO (s.data.toList.drop m)).map fun b => a * 1000000000000000 + b := by
      unfold wordsO
      rw [if_neg (by omega), hsz, ← hm]
    have HWO := Lib.hid hWO
    have hsub : wrap64 ((s.size : Int) - 15) = (s.size : Int) - 15 := by unfold wrap64; omega
    have hmax : max (0 : Int) ((s.size : Int) - 15) = (m : Int) := by omega
    have hsl1 : ∀ w, (Instr.slice 9 (.string s) none (some (.int .i64 (m : Int))) none).run Tryz.prog w = .ok (.string (s.extract 0 m)) w := fun w => by
      rw [run_slice_string_to_if w 9 s .i64 (m : Int) Tryz.underlying9, if_pos (by omega)]; rfl
    have hsl2 : ∀ w, (Instr.slice 9 (.string s) (some (.int .i64 (m : Int))) none none).run Tryz.prog w = .ok (.string (s.extract m s.size)) w := fun w => by
      rw [run_slice_string_from_if w 9 s .i64 (m : Int) Tryz.underlying9, if_pos (by omega)]; rfl
    have c1 : ¬ ((⟨#[48]⟩ : ByteArray).size + (s.extract 0 m).size > 9223372036854775807) := by
      have : (⟨#[48]⟩ : ByteArray).size = 1 := rfl
      rw [ByteArray.size_extract]; omega
    have P1 : Hid (∀ W, Below w.heap.size w W → Calls Tryz.prog 55 #[.string ((⟨#[48]⟩ : ByteArray) ++ s.extract 0 m), .int .i64 10, .int .i64 64] W fun e w' =>
      ((∃ u, puO (48 :: s.data.toList.take m) = some u ∧ u < 18446744073709551616 ∧ e = .returned (.tuple #[.int .u64 (u : Int), .nilIface])) ∨ (puO (48 :: s.data.toList.take m) = none ∧ ∃ x te pe, e = .returned (.tuple #[.int .u64 x, .iface te pe]))) ∧ Below W.heap.size W w') := fun W hb => by
      have h9 : (⟨#[48]⟩ : ByteArray).size = 1 := rfl
      have := pu_opt W ((⟨#[48]⟩ : ByteArray) ++ s.extract 0 m) (by rw [ByteArray.size_append, ByteArray.size_extract]; omega) (he.go hb)
      have e : ((⟨#[48]⟩ : ByteArray) ++ s.extract 0 m).data.toList = 48 :: s.data.toList.take m := by
        rw [ByteArray.data_append, Array.toList_append, toList_extract, List.drop_zero]; rfl
      rw [e] at this
      exact this
    have P2 : Hid (∀ W, Below w.heap.size w W → Calls Tryz.prog 55 #[.string (s.extract m s.size), .int .i64 10, .int .i64 64] W fun e w' =>
      ((∃ u, puO (s.data.toList.drop m) = some u ∧ u < 18446744073709551616 ∧ e = .returned (.tuple #[.int .u64 (u : Int), .nilIface])) ∨ (puO (s.data.toList.drop m) = none ∧ ∃ x te pe, e = .returned (.tuple #[.int .u64 x, .iface te pe]))) ∧ Below W.heap.size W w') := fun W hb => by
      have := pu_opt W (s.extract m s.size) (by rw [ByteArray.size_extract]; omega) (he.go hb)
      rw [toList_from] at this
      exact this
    have HSM := Lib.hid (And.intro hsub hmax)
    clear hm hWO hsz hs he h30
    go_enter Tryz.func54, Tryz.ntmps54
    go_wp2_with fail
    refine (P1.out _ (Below.refl _ _)).mono ?_; rintro e w2 ⟨hc, hb⟩
    have HB := Lib.hid hb; clear hb
    rcases hc with ⟨u, hu, hub, rfl⟩ | ⟨hu, x, te, pe, rfl⟩
    · have HU := Lib.hid hu
      clear hu
      go_wp2_with fail
      refine (P2.out _ HB.out).mono ?_; rintro e w3 ⟨hc, hb⟩
      have HB2 := Lib.hid (bstep HB.out hb); clear hb HB
      rcases hc with ⟨v, hv, hvb, rfl⟩ | ⟨hv, x, te, pe, rfl⟩
      · have MU := Lib.hid (fun W => Tryz.bits_Mul64 u 1000000000000000 hub (by omega) W)
        obtain ⟨q, hqe⟩ : ∃ q, q = u * 1000000000000000 := ⟨_, rfl⟩
        rw [← hqe] at MU
        obtain ⟨H, hH⟩ : ∃ H, H = q / 18446744073709551616 := ⟨_, rfl⟩
        obtain ⟨L, hL⟩ : ∃ L, L = q % 18446744073709551616 := ⟨_, rfl⟩
        rw [← hH, ← hL] at MU
        have hHb : H < 1000000000000000 := by
          rw [hH]
          refine Nat.div_lt_of_lt_mul ?_
          rw [hqe]
          exact Nat.mul_lt_mul_of_pos_right hub (by omega)
        obtain ⟨N, hNe⟩ : ∃ N, N = q + v := ⟨_, rfl⟩
        have HR : Hid (wordsO s.data.toList = some N) := by
          show _ = _
          rw [HWO.out, HU.out, hv, hNe, hqe]; rfl
        clear hqe
        have hNN : N = H * 18446744073709551616 + L + v := by omega
        have hL2 : L < 18446744073709551616 := by omega
        obtain ⟨L2, hL2e⟩ : ∃ x, x = (L + v) % 18446744073709551616 := ⟨_, rfl⟩
        obtain ⟨C2, hC2e⟩ : ∃ x, x = (L + v) / 18446744073709551616 := ⟨_, rfl⟩
        have hAD : ∀ W, (callFunc 81 #[.int .u64 (L : Int), .int .u64 (v : Int), .int .u64 0]).run Tryz.prog W = .ok (.value (.tuple #[.int .u64 (L2 : Int), .int .u64 (C2 : Int)])) W := fun W => by rw [add64_run, hL2e, hC2e]
        have hq : N / 18446744073709551616 = H + C2 := by omega
        have hr : N % 18446744073709551616 = L2 := by omega
        have hw : Hid (IntKind.u64.wrap ((H : Int) + (C2 : Int)) = ((H + C2 : Nat) : Int)) := by show _ = _; rw [← Int.natCast_add]; exact wu64 (by omega)
        have hNb : N / 18446744073709551616 < 18446744073709551616 := by rw [hq]; omega
        have HQ := Lib.hid hq; have HRR := Lib.hid hr; have HNB := Lib.hid hNb
        clear hH hL hNe hNb hNN hL2 hHb hL2e hC2e hq hr hub hvb hv
        go_wp2_with fail
        refine (MU.out _).mono ?_; rintro e w4 ⟨rfl, rfl⟩
        go_wp2_with fail
        refine bodyPost_ret (v := .tuple #[.int .u64 (IntKind.u64.wrap ((H : Int) + (C2 : Int))), .int .u64 (L2 : Int), .bool true]) (by simp [results, Tryz.f54, go_sem]) rfl ⟨Or.inl ⟨N, HR.out, HNB.out, by rw [HQ.out, HRR.out, hw.out]⟩, HB2.out⟩
      · have HR : Hid (wordsO s.data.toList = none) := by
          show _ = _
          rw [HWO.out, HU.out, hv]; rfl
        clear hv
        go_wp2_with fail
        refine bodyPost_ret (v := .tuple #[.int .u64 0, .int .u64 0, .bool false]) (by simp [results, Tryz.f54, go_sem]) rfl ⟨Or.inr ⟨HR.out, rfl⟩, HB2.out⟩
    · have HR : Hid (wordsO s.data.toList = none) := by
        show _ = _
        rw [HWO.out, hu]; rfl
      clear hu
      go_wp2_with fail
      refine (P2.out _ HB.out).mono ?_; rintro e w3 ⟨hc, hb⟩
      have HB2 := Lib.hid (bstep HB.out hb); clear hb HB
      rcases hc with ⟨v, hv, hvb, rfl⟩ | ⟨hv, x2, te2, pe2, rfl⟩
      · clear hv hvb
        go_wp2_with fail
        refine bodyPost_ret (v := .tuple #[.int .u64 0, .int .u64 0, .bool false]) (by simp [results, Tryz.f54, go_sem]) rfl ⟨Or.inr ⟨HR.out, rfl⟩, HB2.out⟩
      · clear hv
        go_wp2_with fail
        refine bodyPost_ret (v := .tuple #[.int .u64 0, .int .u64 0, .bool false]) (by simp [results, Tryz.f54, go_sem]) rfl ⟨Or.inr ⟨HR.out, rfl⟩, HB2.out⟩
end Go.Proofs.YtegobakoflbnfaaGreatDoor

namespace Go.Proofs.YtegobakoflbnfaaGreatDoor
open Go Go.RowKit

def decPl (d : Nat) : Option Nat := (List.range 16).find? fun p => 10 ^ p % d == 0
/-- the decimal of a text -/
def decO (l : List UInt8) : List UInt8 :=
  if (Lib.cut l [47]).2.2 = false then l
  else match wordsO (Lib.cut l [47]).1, puO (Lib.cut l [47]).2.1 with
    | some n, some d => if d ≤ n / 18446744073709551616 then [] else match decPl d with
      | some p => Lib.decDigits (n / d) ++ [46] ++ padL (n % d * (10 ^ p / d)) p
      | none => []
    | _, _ => []
theorem find_none (d : Nat) : ∀ n, (∀ q, q < n → 10 ^ q % d ≠ 0) → (List.range n).find? (fun p => 10 ^ p % d == 0) = none := fun n h => by
  rw [List.find?_eq_none]
  intro x hx
  have := h x (List.mem_range.1 hx)
  simpa using this
theorem pl_none {d : Nat} (h : ∀ q, q < 16 → 10 ^ q % d ≠ 0) : decPl d = none := find_none d 16 h
theorem pl_some {d p : Nat} (hp : p < 16) (h : ∀ q, q < p → 10 ^ q % d ≠ 0) (h0 : 10 ^ p % d = 0) : decPl d = some p := by
  unfold decPl
  rw [List.find?_eq_some_iff_getElem]
  refine ⟨by simpa using h0, p, by simpa using hp, by simp, fun j hj => ?_⟩
  have := h j hj
  simpa using this
theorem cut_len (l : List UInt8) (c : UInt8) : (Lib.cut l [c]).1.length ≤ l.length ∧ (Lib.cut l [c]).2.1.length ≤ l.length := by
  unfold Lib.cut
  split
  · exact ⟨by rw [List.length_take]; omega, by rw [List.length_drop]; omega⟩
  · exact ⟨Nat.le_refl _, Nat.zero_le _⟩
theorem mod_lt_pow {r d p : Nat} (hd : 0 < d) (hr : r < d) (h0 : 10 ^ p % d = 0) : r * (10 ^ p / d) < 10 ^ p := by
  obtain ⟨k, hk⟩ : ∃ k, 10 ^ p = d * k := ⟨10 ^ p / d, by have := Nat.div_add_mod (10 ^ p) d; rw [h0] at this; omega⟩
  rw [hk, Nat.mul_div_cancel_left _ hd]
  refine Nat.mul_lt_mul_of_pos_right hr ?_
  rcases Nat.eq_zero_or_pos k with h | h
  · rw [h] at hk
    have : 0 < 10 ^ p := Nat.pow_pos (by decide)
    omega
  · exact h

set_option maxHeartbeats 6400000 in
set_option maxRecDepth 100000 in
theorem decimal_any (w : World) (s : ByteArray) (hs : s.size ≤ 140737488355328) (he : ErrV w) (ht : Pow10 w) : Calls Tryz.prog 36 #[.string s] w fun e w' => e = .returned (.string ⟨(decO s.data.toList).toArray⟩) ∧ Below w.heap.size w w' := by
  have CT := Lib.hid (cut_any w s 47 hs)
  have hsz : s.data.toList.length = s.size := Array.length_toList
  have hcl := cut_len s.data.toList 47
  rw [hsz] at hcl
  have hdef : decO s.data.toList = decO s.data.toList := rfl
  rw [show decO s.data.toList = if (Lib.cut s.data.toList [47]).2.2 = false then s.data.toList
  else match wordsO (Lib.cut s.data.toList [47]).1, puO (Lib.cut s.data.toList [47]).2.1 with
    | some n, some d => if d ≤ n / 18446744073709551616 then [] else match decPl d with
      | some p => Lib.decDigits (n / d) ++ [46] ++ padL (n % d * (10 ^ p / d)) p
      | none => []
    | _, _ => [] from rfl]
  obtain ⟨⟨ca, cb, cf⟩, hcut⟩ : ∃ r, r = Lib.cut s.data.toList [47] := ⟨_, rfl⟩
  rw [← hcut] at CT hcl ⊢
  simp only [] at hcl ⊢
  clear hdef hcut
  cases cf
  · rw [if_pos rfl]
    have E0 : Hid ((⟨s.data.toList.toArray⟩ : ByteArray) = s) := by show _ = _; exact ByteArray.ext (by simp)
    rw [E0.out]
    clear hcl hsz hs he ht
    go_enter Tryz.func36, Tryz.ntmps36
    go_wp2_with fail
    refine CT.out.mono ?_; rintro e w2 ⟨rfl, hb⟩
    have HB := Lib.hid hb; clear hb
    go_wp2_with fail
    go_ret
    exact ⟨rfl, HB.out⟩
  · rw [if_neg (by decide)]
    have WO : Hid (∀ W, Below w.heap.size w W → Calls Tryz.prog 54 #[.string ⟨ca.toArray⟩] W fun e w' =>
      ((∃ n, wordsO ca = some n ∧ n / 18446744073709551616 < 18446744073709551616 ∧ e = .returned (.tuple #[.int .u64 ((n / 18446744073709551616 : Nat) : Int), .int .u64 ((n % 18446744073709551616 : Nat) : Int), .bool true])) ∨
      (wordsO ca = none ∧ e = .returned (.tuple #[.int .u64 0, .int .u64 0, .bool false]))) ∧ Below W.heap.size W w') := fun W hb => words_of W ⟨ca.toArray⟩ (by simp [ByteArray.size]; omega) (he.go hb)
    have PU : Hid (∀ W, Below w.heap.size w W → Calls Tryz.prog 55 #[.string ⟨cb.toArray⟩, .int .i64 10, .int .i64 64] W fun e w' =>
      ((∃ u, puO cb = some u ∧ u < 18446744073709551616 ∧ e = .returned (.tuple #[.int .u64 (u : Int), .nilIface])) ∨ (puO cb = none ∧ ∃ x te pe, e = .returned (.tuple #[.int .u64 x, .iface te pe]))) ∧ Below W.heap.size W w') := fun W hb => pu_opt W ⟨cb.toArray⟩ (by simp [ByteArray.size]; omega) (he.go hb)
    have HT : Hid (∀ W, Below w.heap.size w W → Pow10 W) := fun W hb => ht.go hb
    obtain ⟨F, hF⟩ : ∃ F, F = (match wordsO ca, puO cb with
      | some n, some d => if d ≤ n / 18446744073709551616 then [] else match decPl d with
        | some p => Lib.decDigits (n / d) ++ [46] ++ padL (n % d * (10 ^ p / d)) p
        | none => []
      | _, _ => []) := ⟨_, rfl⟩
    rw [← hF]
    have HF := Lib.hid hF
    clear hcl hsz hs he ht hF
    go_enter Tryz.func36, Tryz.ntmps36
    go_wp2_with fail
    refine CT.out.mono ?_; rintro e w2 ⟨rfl, hb⟩
    have HB := Lib.hid hb; clear hb CT
    go_wp2_with fail
    refine (WO.out _ HB.out).mono ?_; rintro e w3 ⟨hc, hb⟩
    have HB2 := Lib.hid (bstep HB.out hb); clear hb HB
    rcases hc with ⟨n, hn, hnb, rfl⟩ | ⟨hn, rfl⟩
    · have HN := Lib.hid hn
      clear hn
      obtain ⟨hi, hhi⟩ : ∃ x, x = n / 18446744073709551616 := ⟨_, rfl⟩
      obtain ⟨lo, hlo⟩ : ∃ x, x = n % 18446744073709551616 := ⟨_, rfl⟩
      rw [← hhi, ← hlo]
      rw [← hhi] at hnb
      have hlob : lo < 18446744073709551616 := by omega
      have HNN : Hid (hi * 18446744073709551616 + lo = n) := by show _ = _; omega
      have HHI := Lib.hid hhi
      clear hhi hlo
      go_wp2_with fail
      refine (PU.out _ HB2.out).mono ?_; rintro e w4 ⟨hc, hb⟩
      have HB3 := Lib.hid (bstep HB2.out hb); clear hb HB2
      rcases hc with ⟨d, hd, hdb, rfl⟩ | ⟨hd, x, te, pe, rfl⟩
      · have HD := Lib.hid hd
        clear hd
        by_cases hge : d ≤ hi
        · have HR : Hid (F = []) := by show _ = _; rw [HF.out, HN.out, HD.out]; show (if d ≤ n / 18446744073709551616 then _ else _) = _; rw [← HHI.out, if_pos hge]
          have hgi : (hi : Int) ≥ (d : Int) := by omega
          clear hge hlob hnb hdb
          go_wp2_with fail
          go_ret
          exact ⟨by rw [HR.out]; rfl, HB3.out⟩
        · have hgi : ¬ ((hi : Int) ≥ (d : Int)) := by omega
          have hHF : F = match decPl d with
            | some p => Lib.decDigits (n / d) ++ [46] ++ padL (n % d * (10 ^ p / d)) p
            | none => [] := by
            rw [HF.out, HN.out, HD.out]; show (if d ≤ n / 18446744073709551616 then _ else _) = _; rw [← HHI.out, if_neg hge]
          have HF2 := Lib.hid hHF
          have DV := Lib.hid (fun W => div_any W hi lo d hlob (by omega) hdb)
          rw [HNN.out] at DV
          have hd0 : 0 < d := by omega
          have HD0 := Lib.hid hd0
          have hwb : n / d < 18446744073709551616 := by
            rw [← HNN.out]
            refine Nat.div_lt_of_lt_mul ?_
            have h1 : (hi + 1) * 18446744073709551616 ≤ d * 18446744073709551616 := Nat.mul_le_mul_right _ (by omega)
            omega
          obtain ⟨A, hA⟩ : ∃ x, x = n / d := ⟨_, rfl⟩
          obtain ⟨R, hR⟩ : ∃ x, x = n % d := ⟨_, rfl⟩
          rw [← hA, ← hR] at DV HF2
          rw [← hA] at hwb
          have hRd : R < d := by rw [hR]; exact Nat.mod_lt _ hd0
          have HRD := Lib.hid hRd; have HWB := Lib.hid hwb; have HDB := Lib.hid hdb
          clear hge hlob hnb hdb hHF hd0 hA hR hRd hwb
          go_wp2_with fail
          refine (DV.out _).mono ?_; rintro e w5 ⟨rfl, hb⟩
          have HB4 := Lib.hid (bstep HB3.out hb); clear hb HB3
          go_wp2_with fail
          go_loopw [52] (fun v52 wr => ∃ p : Nat, v52 = .int .i64 (p : Int) ∧ p ≤ 16 ∧ Hid (∀ q, q < p → 10 ^ q % d ≠ 0) ∧ Hid (Below w.heap.size w wr)) (fun v52 _ => 16 - (intOf v52).toNat)
          case atStart => exact ⟨0, rfl, by omega, fun q hq => absurd hq (Nat.not_lt_zero _), HB4⟩
          case round =>
            obtain ⟨p, rfl, hp, HNO, HBn⟩ := hrel
            clear HB4
            rename World => wk
            by_cases hp16 : p < 16
            · have PW := Lib.hid (fun W => power_any W p (by omega))
              have hpi : (p : Int) < 16 := by omega
              have hP : 10 ^ p < 18446744073709551616 := by
                have h1 : 10 ^ p ≤ 10 ^ 15 := Nat.pow_le_pow_right (by decide) (by omega)
                have h2 : (10 : Nat) ^ 15 = 1000000000000000 := by decide
                omega
              obtain ⟨T, hT⟩ : ∃ T, T = 10 ^ p := ⟨_, rfl⟩
              rw [← hT] at PW hP
              have HTT := Lib.hid hT
              have d0 : ¬ (d : Int) = 0 := by have := HD0.out; omega
              have HPB := Lib.hid hP
              have HP16 := Lib.hid hp16
              have W3 := Lib.hid (wnat (n := p) (by omega))
              have hrem : Hid (IntKind.u64.wrap ((T : Int).tmod (d : Int)) = ((T % d : Nat) : Int)) := by
                show _ = _
                rw [show (T : Int).tmod (d : Int) = ((T % d : Nat) : Int) from rfl]
                exact wu64 (by have := Nat.mod_le T d; omega)
              by_cases hz : T % d = 0
              · have hzi : ((T : Int) % (d : Int) == 0) = true := by
                  rw [show (T : Int) % (d : Int) = ((T % d : Nat) : Int) from rfl, hz]; rfl
                have hpl : decPl d = some p := pl_some hp16 HNO.out (by rw [← hT]; exact hz)
                obtain ⟨Q, hQ⟩ : ∃ Q, Q = T / d := ⟨_, rfl⟩
                have Q1 : Hid (IntKind.u64.wrap ((T : Int) / (d : Int)) = (Q : Int)) := by show _ = _; rw [hQ]; exact quo_u64 hP
                have hRQ : R * Q < T := by rw [hQ, hT]; exact mod_lt_pow HD0.out HRD.out (by rw [← hT]; exact hz)
                obtain ⟨M, hM⟩ : ∃ M, M = R * Q := ⟨_, rfl⟩
                rw [← hM] at hRQ
                have Q2 : Hid (IntKind.u64.wrap ((R : Int) * (Q : Int)) = (M : Int)) := by
                  show _ = _
                  rw [← Int.natCast_mul, ← hM]; exact wu64 (by omega)
                have HR : Hid (F = Lib.decDigits A ++ [46] ++ padL M p) := by
                  show _ = _
                  rw [HF2.out, hpl, hM, hQ, hT]
                have FA : Hid (∀ W, Below w.heap.size w W → Calls Tryz.prog 58 #[.int .u64 (A : Int), .int .i64 10] W fun e w' => e = .returned (.string ⟨(Lib.decDigits A).toArray⟩) ∧ Below W.heap.size W w') := fun W hb => fmt_any W A HWB.out (HT.out W hb)
                have PA : Hid (∀ W, Below w.heap.size w W → Calls Tryz.prog 59 #[.int .u64 (M : Int), .int .i64 (p : Int)] W fun e w' => e = .returned (.string ⟨(padL M p).toArray⟩) ∧ Below W.heap.size W w') := fun W hb => padded_any W M p (by omega) (by omega) (HT.out W hb)
                have hs1 := dec_le20 HWB.out
                have hs2 := padL_len (n := M) (d := p) (by omega) (by omega)
                obtain ⟨sa, hsa⟩ : ∃ s, s = (⟨(Lib.decDigits A).toArray⟩ : ByteArray) := ⟨_, rfl⟩
                obtain ⟨sp, hsp⟩ : ∃ s, s = (⟨(padL M p).toArray⟩ : ByteArray) := ⟨_, rfl⟩
                have hsas : sa.size ≤ 20 := by rw [hsa]; exact hs1
                have hsps : sp.size ≤ 35 := by rw [hsp]; exact hs2
                rw [← hsa] at FA
                rw [← hsp] at PA
                have h46 : (⟨#[46]⟩ : ByteArray).size = 1 := rfl
                have c1 : ¬ (sa.size + (⟨#[46]⟩ : ByteArray).size > 9223372036854775807) := by omega
                have c2 : ¬ ((sa ++ ⟨#[46]⟩).size + sp.size > 9223372036854775807) := by rw [ByteArray.size_append]; omega
                have HFIN : Hid ((⟨F.toArray⟩ : ByteArray) = sa ++ ⟨#[46]⟩ ++ sp) := by
                  show _ = _
                  rw [HR.out, hsa, hsp]
                  apply ByteArray.ext
                  rw [← Array.toList_inj]
                  simp [ByteArray.data_append]
                have hpi2 : Hid ((p : Int) < 16) := hpi
                clear hs1 hs2 hsa hsp hsas hsps h46 hpl hQ hRQ hM hz hT hP hp16 hp
                go_wp2_with fail
                refine (PW.out _).mono ?_; rintro e w6 ⟨rfl, rfl⟩
                go_wp2_with fail
                refine (FA.out _ HBn.out).mono ?_; rintro e w7 ⟨rfl, hb⟩
                have HB5 := Lib.hid (bstep HBn.out hb); clear hb HBn
                go_wp2_with fail
                refine (PW.out _).mono ?_; rintro e w8 ⟨rfl, rfl⟩
                go_wp2_with fail
                try rw [Q1.out]
                try rw [Q2.out]
                refine (PA.out _ HB5.out).mono ?_; rintro e w9 ⟨rfl, hb⟩
                have HB6 := Lib.hid (bstep HB5.out hb); clear hb HB5
                go_wp2_with fail
                go_ret
                exact ⟨by rw [HFIN.out]; rfl, HB6.out⟩
              · have hzi : ((T : Int) % (d : Int) == 0) = false := by
                  rw [show (T : Int) % (d : Int) = ((T % d : Nat) : Int) from rfl, beq_eq_false_iff_ne]; omega
                have HNO2 : Hid (∀ q, q < p + 1 → 10 ^ q % d ≠ 0) := fun q hq => by
                  rcases Nat.lt_or_ge q p with h | h
                  · exact HNO.out q h
                  · obtain rfl : q = p := by omega
                    rw [← hT]; exact hz
                clear hz hT hP hp16 hp
                go_wp2_with fail
                refine (PW.out _).mono ?_; rintro e w6 ⟨rfl, rfl⟩
                go_wp2_with fail
                refine ⟨⟨p + 1, by first | rfl | exact congrArg (Value.int .i64) W3.out | go_num, HP16.out, HNO2, HBn⟩, ?_⟩
                have := HP16.out
                simp [intOf]; omega
            · have hp16' : p = 16 := by omega
              subst hp16'
              have HR : Hid (F = []) := by show _ = _; rw [HF2.out, pl_none HNO.out]
              have hpi : ¬ ((16 : Nat) : Int) < 16 := by omega
              clear hp16 hp
              go_wp2_with fail
              go_ret
              exact ⟨by rw [HR.out]; rfl, HBn.out⟩
      · have HR : Hid (F = []) := by show _ = _; rw [HF.out, HN.out, hd]
        clear hd hlob hnb
        go_wp2_with fail
        go_ret
        exact ⟨by rw [HR.out]; rfl, HB3.out⟩
    · have HR : Hid (F = []) := by show _ = _; rw [HF.out, hn]
      clear hn
      go_wp2_with fail
      refine (PU.out _ HB2.out).mono ?_; rintro e w4 ⟨hc, hb⟩
      have HB3 := Lib.hid (bstep HB2.out hb); clear hb HB2
      rcases hc with ⟨d, hd, hdb, rfl⟩ | ⟨hd, x, te, pe, rfl⟩
      · clear hd hdb
        go_wp2_with fail
        go_ret
        exact ⟨by rw [HR.out]; rfl, HB3.out⟩
      · clear hd
        go_wp2_with fail
        go_ret
        exact ⟨by rw [HR.out]; rfl, HB3.out⟩
end Go.Proofs.YtegobakoflbnfaaGreatDoor

namespace Go.Proofs.YtegobakoflbnfaaGreatDoor
open Go Go.RowKit

def writT (k : Int) (s : ByteArray) : ByteArray := if k = 3 then ⟨(decO s.data.toList).toArray⟩ else if k = 4 then (⟨#[34]⟩ : ByteArray) ++ s ++ ⟨#[34]⟩ else s
set_option maxHeartbeats 4000000 in
set_option maxRecDepth 100000 in
theorem written_any (w : World) (k : Int) (s : ByteArray) (p : Int) (hs : s.size ≤ 140737488351232) (he : ErrV w) (ht : Pow10 w) : Calls Tryz.prog 17 #[.agg #[.int .i64 k, .string s, .int .i64 p]] w fun e w' => e = .returned (.string (writT k s)) ∧ Below w.heap.size w w' := by
  have BX0 := BoxT.new w (.int .i64 k) (.string s) (.int .i64 p)
  have B0 := below_alloc w (.cells #[.int .i64 k, .string s, .int .i64 p] 37)
  have DA : Hid (∀ W, Below w.heap.size w W → Calls Tryz.prog 36 #[.string s] W fun e w' => e = .returned (.string ⟨(decO s.data.toList).toArray⟩) ∧ Below W.heap.size W w') := fun W hb => decimal_any W s (by omega) (he.go hb) (ht.go hb)
  have HB := Lib.hid B0; have BX := Lib.hid BX0
  have h34 : (⟨#[34]⟩ : ByteArray).size = 1 := rfl
  have c1 : ¬ ((⟨#[34]⟩ : ByteArray).size + s.size > 9223372036854775807) := by omega
  have c2 : ¬ (((⟨#[34]⟩ : ByteArray) ++ s).size + (⟨#[34]⟩ : ByteArray).size > 9223372036854775807) := by rw [ByteArray.size_append]; omega
  have C1 := Lib.hid c1; have C2 := Lib.hid c2
  obtain ⟨x0, x1, x2, f0, f1, f2⟩ := BX.out.facts
  clear BX0 B0 h34 c1 c2 hs he ht
  by_cases h3 : k = 3
  · subst h3
    have HR : Hid (writT 3 s = ⟨(decO s.data.toList).toArray⟩) := rfl
    go_enter Tryz.func17, Tryz.ntmps17
    go_wp2_with fail
    refine (DA.out _ HB.out).mono ?_; rintro e w2 ⟨rfl, hb⟩
    have HB2 := Lib.hid (bstep HB.out hb); clear hb
    go_wp2_with fail
    go_ret
    exact ⟨by rw [HR.out]; rfl, HB2.out⟩
  · have k3 : (k == 3) = false := by rw [beq_eq_false_iff_ne]; exact h3
    by_cases h4 : k = 4
    · subst h4
      have HR : Hid (writT 4 s = (⟨#[34]⟩ : ByteArray) ++ s ++ ⟨#[34]⟩) := rfl
      have c1 := C1.out; have c2 := C2.out
      go_enter Tryz.func17, Tryz.ntmps17
      go_wp2_with fail
      go_ret
      exact ⟨by rw [HR.out]; rfl, HB.out⟩
    · have k4 : (k == 4) = false := by rw [beq_eq_false_iff_ne]; exact h4
      have HR : Hid (writT k s = s) := by show _ = _; unfold writT; rw [if_neg h3, if_neg h4]
      clear h3 h4
      go_enter Tryz.func17, Tryz.ntmps17
      go_wp2_with fail
      go_ret
      exact ⟨by rw [HR.out]; rfl, HB.out⟩
theorem decO_len (l : List UInt8) : (decO l).length ≤ l.length + 60 := by
  unfold decO
  split
  · omega
  · split
    · rename_i n d hn hd
      split
      · simp
      · rename_i hge
        split
        · rename_i p hp
          rw [List.length_append, List.length_append]
          have hd0 : 0 < d := by omega
          have hdb : d < 18446744073709551616 := by
            unfold puO at hd
            cases hq : Lib.parseUintB 64 (Lib.cut l [47]).2.1
            case ok u =>
              rw [hq] at hd
              have := Lib.parseUintB_le hq
              simp at hd
              omega
            all_goals (rw [hq] at hd; cases hd)
          have hp1 : p < 16 := by
            unfold decPl at hp
            have := List.mem_of_find?_eq_some hp
            simpa using this
          have hp2 : 10 ^ p % d = 0 := by
            unfold decPl at hp
            have := List.find?_some hp
            simpa using this
          have h1 := mod_lt_pow hd0 (Nat.mod_lt n hd0) hp2
          have hP : 10 ^ p ≤ 10 ^ 15 := Nat.pow_le_pow_right (by decide) (by omega)
          have h15 : (10 : Nat) ^ 15 = 1000000000000000 := by decide
          have h2 := padL_len (n := n % d * (10 ^ p / d)) (d := p) (by omega) (by omega)
          have hw : n / d < 18446744073709551616 := by
            refine Nat.div_lt_of_lt_mul ?_
            have h3 : (n / 18446744073709551616 + 1) * 18446744073709551616 ≤ d * 18446744073709551616 := Nat.mul_le_mul_right _ (by omega)
            omega
          have h4 := dec_le20 hw
          simp only [List.length_singleton]
          omega
        · simp
    · simp
def isTokB (k : Int) (s : ByteArray) : Bool :=
  decide (0 < (firstT (writT k s)).2.2) && decide ((firstT (writT k s)).2.2 = (writT k s).size) && ((firstT (writT k s)).1 == k) && ((firstT (writT k s)).2.1.toList == s.toList)
set_option maxHeartbeats 4000000 in
set_option maxRecDepth 100000 in
theorem token_any (w : World) (k : Int) (s : ByteArray) (p : Int) (hs : s.size ≤ 140737488351232) (he : ErrV w) (hm : MaxL w) (ht : Pow10 w) : Calls Tryz.prog 16 #[.agg #[.int .i64 k, .string s, .int .i64 p]] w fun e w' => e = .returned (.bool (isTokB k s)) ∧ Below w.heap.size w w' := by
  have BX0 := BoxT.new w (.int .i64 k) (.string s) (.int .i64 p)
  have B0 := below_alloc w (.cells #[.int .i64 k, .string s, .int .i64 p] 37)
  have WR : Hid (∀ W, Below w.heap.size w W → Calls Tryz.prog 17 #[.agg #[.int .i64 k, .string s, .int .i64 p]] W fun e w' => e = .returned (.string (writT k s)) ∧ Below W.heap.size W w') := fun W hb => written_any W k s p hs (he.go hb) (ht.go hb)
  have hy : (writT k s).size ≤ 140737488355328 := by
    unfold writT
    split
    · have := decO_len s.data.toList
      have hsz : s.data.toList.length = s.size := Array.length_toList
      show (decO s.data.toList).toArray.size ≤ _
      rw [List.size_toArray]; omega
    · have h34 : (⟨#[34]⟩ : ByteArray).size = 1 := rfl
      split
      · rw [ByteArray.size_append, ByteArray.size_append]; omega
      · omega
  obtain ⟨y, hye⟩ : ∃ y, y = writT k s := ⟨_, rfl⟩
  have FI : Hid (∀ W, Below w.heap.size w W → Calls Tryz.prog 13 #[.string y] W (RetTok W (firstT y))) := fun W hb => first_any W y (by rw [hye]; exact hy) (hm.go hb) (ht.go hb)
  obtain ⟨b, hb⟩ : ∃ b, b = isTokB k s := ⟨_, rfl⟩
  rw [← hb]
  unfold isTokB at hb
  rw [← hye] at hb WR
  obtain ⟨x, hx⟩ : ∃ x, x = firstT y := ⟨_, rfl⟩
  rw [← hx] at hb FI
  obtain ⟨k2, t, n⟩ := x
  simp only [] at hb
  have HB := Lib.hid B0; have BX := Lib.hid BX0; have HBB := Lib.hid hb
  clear hx hb BX0 B0 hm ht hs he hy hye
  obtain ⟨x0, x1, x2, f0, f1, f2⟩ := BX.out.facts
  go_enter Tryz.func16, Tryz.ntmps16
  go_wp2_with fail
  refine (WR.out _ HB.out).mono ?_; rintro e w2 ⟨rfl, hb2⟩
  have BX2 := Lib.hid (BX.out.go hb2); have HB2 := Lib.hid (bstep HB.out hb2); clear hb2 HB BX
  go_wp2_with fail
  refine (FI.out _ HB2.out).mono ?_; rintro e w3 ⟨rfl, hb3⟩
  have BX3 := Lib.hid (BX2.out.go hb3); have HB3 := Lib.hid (bstep HB2.out hb3); clear hb3 HB2 BX2
  have BX4 := Lib.hid (BX3.out.go (below_alloc w3 (.cells #[.int .i64 k2, .string t, .int .i64 0] 37)))
  have HB4 := Lib.hid (bstep HB3.out (below_alloc w3 (.cells #[.int .i64 k2, .string t, .int .i64 0] 37)))
  clear x0 x1 x2 f0 f1 f2
  obtain ⟨x0, x1, x2, f0, f1, f2⟩ := BX4.out.facts
  by_cases h0 : 0 < n
  · by_cases h1 : n = y.size
    · subst h1
      by_cases h2 : k2 = k
      · subst h2
        have HR : Hid (b = (t.toList == s.toList)) := by show _ = _; rw [HBB.out]; simp [h0]
        have kk : (k2 == k2) = true := beq_self_eq_true k2
        go_wp2_with fail
        go_ret
        exact ⟨by rw [HR.out]; rfl, HB4.out⟩
      · have HR : Hid (b = false) := by show _ = _; rw [HBB.out, show (k2 == k) = false from by rw [beq_eq_false_iff_ne]; exact h2]; simp
        have k0 : (k2 == k) = false := by rw [beq_eq_false_iff_ne]; exact h2
        go_wp2_with fail
        go_ret
        exact ⟨by rw [HR.out]; rfl, HB4.out⟩
    · have HR : Hid (b = false) := by show _ = _; rw [HBB.out, decide_eq_false h1]; simp
      have k0 : ((n : Int) == (y.size : Int)) = false := by rw [beq_eq_false_iff_ne]; omega
      go_wp2_with fail
      go_ret
      exact ⟨by rw [HR.out]; rfl, HB4.out⟩
  · have HR : Hid (b = false) := by show _ = _; rw [HBB.out, decide_eq_false h0]; simp
    obtain rfl : n = 0 := by omega
    go_wp2_with fail
    go_ret
    exact ⟨by rw [HR.out]; rfl, HB4.out⟩
end Go.Proofs.YtegobakoflbnfaaGreatDoor

namespace Go.Proofs.YtegobakoflbnfaaGreatDoor
open Go Go.RowKit

/-- a list of tokens that lies in memory, anywhere -/
def TokO (w : World) (v : Value) (L : List Tk) : Prop :=
  ∃ o cap, v = .slice o L.length cap ∧ (0 < L.length → ∃ g off, o = some ⟨g, off, none⟩ ∧ ∀ i (hi : i < L.length), w.cell? ⟨g, off + i * 3, none⟩ = some (.int .i64 L[i].1) ∧ w.cell? ⟨g, off + i * 3 + 1, none⟩ = some (.string L[i].2.1) ∧ ∃ z : Int, w.cell? ⟨g, off + i * 3 + 2, none⟩ = some (.int .i64 z))
theorem TokO.go {w w' : World} {v : Value} {L : List Tk} (h : TokO w v L) (hb : Below w.heap.size w w') : TokO w' v L := by
  obtain ⟨o, cap, rfl, h⟩ := h
  refine ⟨o, cap, rfl, fun h0 => ?_⟩
  obtain ⟨g, off, rfl, hc⟩ := h h0
  refine ⟨g, off, rfl, fun i hi => ?_⟩
  obtain ⟨a, b, z, c⟩ := hc i hi
  have hg : g < w.heap.size := World.block_lt_of_cell? w _ a
  exact ⟨(hb.cell hg).trans a, (hb.cell hg).trans b, z, (hb.cell hg).trans c⟩
theorem TokAt.tokO {w : World} {v : Value} {L : List Tk} (h : TokAt w v L) : TokO w v L := by
  obtain ⟨o, cap, rfl, h⟩ := h
  refine ⟨o, cap, rfl, fun h0 => ?_⟩
  obtain ⟨g, rfl, hc⟩ := h h0
  refine ⟨g, 0, rfl, fun i hi => ?_⟩
  rw [Nat.zero_add]
  exact ⟨(hc i hi).1, (hc i hi).2.1, _, (hc i hi).2.2⟩
theorem TokO.cells {w : World} {g off : Nat} {cap n : Nat} {T : List Tk} (h : TokO w (.slice (some ⟨g, off, none⟩) n cap) T) {i : Nat} (hi : i < T.length) :
    w.cell? ⟨g, off + i * 3, none⟩ = some (.int .i64 T[i].1) ∧ w.cell? ⟨g, off + i * 3 + 1, none⟩ = some (.string T[i].2.1) ∧ ∃ z : Int, w.cell? ⟨g, off + i * 3 + 2, none⟩ = some (.int .i64 z) := by
  obtain ⟨o, c, e, h⟩ := h
  injection e with e1 e2 e3
  subst e1
  obtain ⟨g', off', e4, h⟩ := h (by omega)
  injection e4 with e5
  injection e5 with e6 e7
  subst e6; subst e7
  exact h i hi
def isT (t : Tk) : Bool := isTokB t.1 t.2.1
def wrT (t : Tk) : ByteArray := writT t.1 t.2.1
def joinedT (L : List Tk) : ByteArray := ⟨(Lib.join (L.map fun t => (wrT t).data.toList) [32]).toArray⟩
def textT (L : List Tk) : ByteArray × Int := if L.all isT = true then (if 8000 < (joinedT L).size then (⟨#[]⟩, 2) else (joinedT L, 0)) else (⟨#[]⟩, 1)
theorem pre_take_le (p : UInt8 → Bool) (l : List UInt8) (n : Nat) (h : pre p l ≤ n) : pre p l ≤ n := h
theorem first_short (y : ByteArray) : (firstT y).2.2 ≤ 42 := by
  unfold firstT
  split
  · unfold wordT
    split
    · exact Nat.zero_le _
    · rename_i h
      split <;> (show pre (inC [3, 4, 5]) y.data.toList ≤ 42; omega)
  · split
    · unfold numberT
      split
      · exact Nat.zero_le _
      · rename_i h
        show numLen _ _ ≤ 42
        unfold numLen
        split <;> omega
    · split
      · unfold quotedT
        split
        · exact Nat.zero_le _
        · rename_i h
          show pre (inC strC) (y.data.toList.drop 1) + 2 ≤ 42
          omega
      · split
        · unfold symT
          show symN _ ≤ 42
          unfold symN
          split <;> omega
        · exact Nat.zero_le _
theorem isT_short {t : Tk} (h : isT t = true) : (wrT t).size ≤ 42 := by
  unfold isT isTokB at h
  simp only [Bool.and_eq_true, decide_eq_true_eq] at h
  have := first_short (writT t.1 t.2.1)
  show (writT t.1 t.2.1).size ≤ 42
  omega
theorem joined_len : ∀ {L : List Tk}, L.all isT = true → (Lib.join (L.map fun t => (wrT t).data.toList) [32]).length ≤ 43 * L.length := by
  intro L h
  cases L with
  | nil => exact Nat.zero_le _
  | cons a l =>
    rw [List.map_cons, Lib.join_length]
    have hl : ∀ m : List Tk, m.all isT = true → Lib.lens (m.map fun t => (wrT t).data.toList) ≤ 42 * m.length := by
      intro m
      induction m with
      | nil => intro _; exact Nat.le_refl _
      | cons b m ih =>
        intro hm
        rw [List.all_cons, Bool.and_eq_true] at hm
        have h1 := ih hm.2
        have h2 := isT_short hm.1
        have h3 : (wrT b).data.toList.length = (wrT b).size := Array.length_toList
        rw [List.map_cons, List.length_cons]
        show Lib.lens ((wrT b).data.toList :: _) ≤ _
        unfold Lib.lens at h1 ⊢
        simp only [List.map_cons, List.sum_cons] at h1 ⊢
        omega
    have := hl (a :: l) h
    rw [List.map_cons] at this
    rw [List.length_map]
    have e : ([32] : List UInt8).length = 1 := rfl
    rw [e, Nat.one_mul]
    simp only [List.length_cons] at this ⊢
    omega
/-- a row of texts, the first ones written -/
def Row9 (w : World) (g n : Nat) (xs : List ByteArray) : Prop := ∃ cur, w.heap[g]? = some (.cells cur 9 (0, 0)) ∧ cur.size = n ∧ ∀ j (hj : j < xs.length), cur[j]? = some (.string xs[j])
theorem Row9.go {w w' : World} {g n : Nat} {xs : List ByteArray} (h : Row9 w g n xs) (hb : Below w.heap.size w w') : Row9 w' g n xs := by
  obtain ⟨cur, h1, h2, h3⟩ := h
  exact ⟨cur, (hb.block g (lt_of_block h1)).trans h1, h2, h3⟩
theorem Row9.cell {w : World} {g n : Nat} {xs : List ByteArray} (h : Row9 w g n xs) {i : Nat} (hi : i < n) : ∃ u, w.cell? ⟨g, i, none⟩ = some u := by
  obtain ⟨cur, h1, h2, h3⟩ := h
  refine ⟨cur[i]'(by omega), ?_⟩
  rw [cell_of_row _ _ _ _ _ _ h1]
  simp [h2, hi]
theorem Row9.free {w : World} {g n : Nat} {xs : List ByteArray} (h : Row9 w g n xs) (i : Nat) : w.frozen? ⟨g, i, none⟩ = false := by
  obtain ⟨cur, h1, h2, h3⟩ := h
  exact frozen_of_row _ _ _ _ _ h1
theorem Row9.set {w : World} {g n : Nat} {xs : List ByteArray} (h : Row9 w g n xs) (hn : xs.length < n) (x : ByteArray) : Row9 (w.setCell ⟨g, xs.length, none⟩ (.string x)) g n (xs ++ [x]) := by
  obtain ⟨cur, h1, h2, h3⟩ := h
  refine ⟨_, heap_setCell_same _ _ _ _ _ _ h1, by rw [Array.size_setIfInBounds]; exact h2, fun j hj => ?_⟩
  rw [List.length_append, List.length_singleton] at hj
  by_cases e : j = xs.length
  · subst e
    rw [Array.getElem?_setIfInBounds_self_of_lt (by omega)]
    simp
  · rw [Array.getElem?_setIfInBounds_ne (by omega), h3 j (by omega)]
    congr 2
    rw [List.getElem_append_left]
theorem Row9.lt {w : World} {g n : Nat} {xs : List ByteArray} (h : Row9 w g n xs) : g < w.heap.size := by
  obtain ⟨cur, h1, h2, h3⟩ := h
  exact lt_of_block h1
theorem str_info : (Tryz.prog.info? 9).map (fun i => (i.zero, i.size, i.bytes)) = some (some (.string ⟨#[]⟩), 1, 16) := by kernel_rfl
theorem make_strs (w : World) (n : Nat) (hn : n ≤ 1000000) :
    (Instr.makeSlice 43 (.int .i64 (n : Int)) (.int .i64 (n : Int))).run Tryz.prog w = .ok (.slice (some ⟨w.heap.size, 0, none⟩) n n) (w.alloc (.cells (madeCells #[.string ⟨#[]⟩] n) 9)) := by
  obtain ⟨i0, hi, hz0, hz1, hz2⟩ := info_parts str_info
  rw [run_make w 43 9 i0 _ Tryz.underlying43 hi hz0 .i64 .i64 n n (by omega) (by omega) (by rw [hz2]; omega) (by omega), hz1, Nat.mul_one]
  rfl
theorem Row9.new (w : World) (n : Nat) : Row9 (w.alloc (.cells (madeCells #[.string ⟨#[]⟩] n) 9)) w.heap.size n [] :=
  ⟨_, heap_alloc_new w _, size_madeCells _ _, fun j hj => by simp at hj⟩

set_option maxHeartbeats 6400000 in
set_option maxRecDepth 100000 in
theorem text_any (w : World) (v : Value) (L : List Tk) (hL : TokO w v L) (hlen : L.length ≤ 2000) (hsz : ∀ t ∈ L, t.2.1.size ≤ 140737488351232) (he : ErrV w) (hm : MaxL w) (ht : Pow10 w) :
    Calls Tryz.prog 10 #[v] w fun e w' => e = .returned (.tuple #[.string (textT L).1, .int .i64 (textT L).2]) ∧ Below w.heap.size w w' := by
  have TA : Hid (∀ W (t : Tk) (z : Int), Below w.heap.size w W → t ∈ L → Calls Tryz.prog 16 #[.agg #[.int .i64 t.1, .string t.2.1, .int .i64 z]] W fun e w' => e = .returned (.bool (isT t)) ∧ Below W.heap.size W w') := fun W t z hb h => token_any W t.1 t.2.1 z (hsz t h) (he.go hb) (hm.go hb) (ht.go hb)
  have WA : Hid (∀ W (t : Tk) (z : Int), Below w.heap.size w W → t ∈ L → Calls Tryz.prog 17 #[.agg #[.int .i64 t.1, .string t.2.1, .int .i64 z]] W fun e w' => e = .returned (.string (wrT t)) ∧ Below W.heap.size W w') := fun W t z hb h => written_any W t.1 t.2.1 z (hsz t h) (he.go hb) (ht.go hb)
  have HT0 := Lib.hid hL
  have HLEN := Lib.hid hlen
  obtain ⟨oT, cT, rfl, -⟩ := hL
  obtain ⟨x, hx⟩ : ∃ x, x = textT L := ⟨_, rfl⟩
  rw [← hx]
  have HX := Lib.hid hx
  clear hx hlen hsz he hm ht
  go_enter Tryz.func10, Tryz.ntmps10
  go_wp2_with fail
  go_loopw [12] (fun v12 wr => ∃ i : Nat, v12 = .int .i64 (i : Int) ∧ i ≤ L.length ∧ Hid ((L.take i).all isT = true) ∧ Hid (TokO wr (.slice oT L.length cT) L) ∧ Hid (Below w.heap.size w wr)) (fun v12 _ => L.length - (intOf v12).toNat)
  case atStart => exact ⟨0, rfl, Nat.zero_le _, rfl, HT0, Below.refl _ _⟩
  case round =>
    obtain ⟨i, rfl, hi, HAL, HTn, HBn⟩ := hrel
    rename World => wk
    by_cases hlt : i < L.length
    · obtain ⟨gT, off, rfl⟩ : ∃ g off, oT = some ⟨g, off, none⟩ := by
        obtain ⟨o', c', e', h'⟩ := HTn.out
        injection e' with e1 e2 e3
        subst e1
        obtain ⟨g, off, rfl, h2⟩ := h' (by omega)
        exact ⟨g, off, rfl⟩
      obtain ⟨x0, x1, z, x2⟩ := HTn.out.cells hlt
      have hmem : L[i] ∈ L := List.getElem_mem hlt
      obtain ⟨t, hte⟩ : ∃ t, t = L[i] := ⟨_, rfl⟩
      rw [← hte] at x0 x1 hmem
      obtain ⟨kk, tt, p⟩ := t
      simp only [] at x0 x1
      have A1 := below_alloc wk (.cells #[.int .i64 kk, .string tt, .int .i64 z] 37)
      have HB1 := Lib.hid (bstep HBn.out A1)
      have HT1 := Lib.hid (HTn.out.go A1)
      have TK := Lib.hid (TA.out _ (kk, tt, p) z HB1.out hmem)
      have BX := BoxT.new wk (.int .i64 kk) (.string tt) (.int .i64 z)
      have BXH := Lib.hid BX
      have W3 := Lib.hid (wnat (n := i) (by have := HLEN.out; omega))
      have HLT := Lib.hid hlt
      have hii : (i : Int) < (L.length : Int) := by omega
      cases hb : isT (kk, tt, p)
      · rw [hb] at TK
        have HR : Hid (x = (⟨#[]⟩, 1)) := by
          show _ = _
          rw [HX.out]
          unfold textT
          rw [if_neg]
          rw [Bool.not_eq_true, List.all_eq_false]
          exact ⟨_, hmem, by rw [hb]; decide⟩
        clear A1 hte hmem hb hi hlt BX
        go_wp2_with fail
        refine TK.out.mono ?_; rintro e w3 ⟨rfl, hb3⟩
        have HB3 := Lib.hid (bstep HB1.out hb3); clear hb3
        go_wp2_with fail
        refine bodyPost_ret (v := .tuple #[.string ⟨#[]⟩, .int .i64 1]) (by simp [results, Tryz.f10, go_sem]) rfl ⟨by rw [HR.out], HB3.out⟩
      · rw [hb] at TK
        have HAL2 : Hid ((L.take (i + 1)).all isT = true) := by
          show _ = _
          rw [List.take_add_one, List.getElem?_eq_getElem hlt, List.all_append, HAL.out, ← hte]
          show (true && ((kk, tt, p) :: []).all isT) = true
          rw [List.all_cons, hb]; rfl
        clear A1 hte hmem hb hi hlt BX
        go_wp2_with fail
        refine TK.out.mono ?_; rintro e w3 ⟨rfl, hb3⟩
        have HB3 := Lib.hid (bstep HB1.out hb3)
        have HT3 := Lib.hid (HT1.out.go hb3); clear hb3
        go_wp2_with fail
        go_roundw
        case rel => exact ⟨i + 1, by first | exact congrArg (Value.int .i64) W3.out | go_num, HLT.out, HAL2, HT3, HB3⟩
        case measure => have := HLT.out; first | (rw [W3.out]; simp [intOf]; omega) | (simp [intOf]; omega)
    · have hin : i = L.length := by omega
      subst hin
      have hall : L.all isT = true := by have h9 := HAL.out; rw [List.take_length] at h9; exact h9
      have HALL := Lib.hid hall
      have hii : ¬ (L.length : Int) < (L.length : Int) := by omega
      have hl2 := HLEN.out
      have h2000 : decide (2000 < (L.length : Int)) = false := decide_eq_false (by omega)
      have hmk := fun w => make_strs w L.length (by omega)
      have hjl := joined_len hall
      have HJL := Lib.hid hjl
      have HR9 := Lib.hid (Row9.new wk L.length)
      have HA9 := Lib.hid (below_alloc wk (.cells (madeCells #[.string ⟨#[]⟩] L.length) 9))
      clear hlt hi hall hjl HAL
      have HB0 := Lib.hid (bstep HBn.out HA9.out)
      have HT0' := Lib.hid (HTn.out.go HA9.out)
      have HGW : Hid (w.heap.size ≤ wk.heap.size) := HBn.out.size
      go_wp2_with fail
      clear hmk h2000 hii hl2
      go_loopw [28] (fun v28 wr => ∃ i : Nat, v28 = .int .i64 (i : Int) ∧ i ≤ L.length ∧ Hid (TokO wr (.slice oT L.length cT) L) ∧ Hid (Row9 wr wk.heap.size L.length ((L.take i).map wrT)) ∧ Hid (Below w.heap.size w wr)) (fun v28 _ => L.length - (intOf v28).toNat)
      case atStart => exact ⟨0, rfl, Nat.zero_le _, HT0', HR9, HB0⟩
      case round =>
        obtain ⟨i, rfl, hi, HTm, HRm, HBm⟩ := hrel
        clear HT0' HR9 HB0 HTn HBn HA9
        rename World => wz
        by_cases hlt : i < L.length
        · obtain ⟨gT, off, rfl⟩ : ∃ g off, oT = some ⟨g, off, none⟩ := by
            obtain ⟨o', c', e', h'⟩ := HTm.out
            injection e' with e1 e2 e3
            subst e1
            obtain ⟨g, off, rfl, h2⟩ := h' (by omega)
            exact ⟨g, off, rfl⟩
          obtain ⟨x0, x1, z, x2⟩ := HTm.out.cells hlt
          have hmem : L[i] ∈ L := List.getElem_mem hlt
          have hmap : (L.take (i + 1)).map wrT = (L.take i).map wrT ++ [wrT L[i]] := by
            rw [List.take_add_one, List.getElem?_eq_getElem hlt, List.map_append]; rfl
          obtain ⟨t, hte⟩ : ∃ t, t = L[i] := ⟨_, rfl⟩
          rw [← hte] at x0 x1 hmem hmap
          obtain ⟨kk, tt, p⟩ := t
          simp only [] at x0 x1
          have A1 := below_alloc wz (.cells #[.int .i64 kk, .string tt, .int .i64 z] 37)
          have HB1 := Lib.hid (bstep HBm.out A1)
          have HT1 := Lib.hid (HTm.out.go A1)
          have HR1 := Lib.hid (HRm.out.go A1)
          have WK := Lib.hid (WA.out _ (kk, tt, p) z HB1.out hmem)
          have HMAP := Lib.hid hmap
          have hln : ((L.take i).map wrT).length = i := by rw [List.length_map, List.length_take]; omega
          have HLN := Lib.hid hln
          have W3 := Lib.hid (wnat (n := i) (by have := HLEN.out; omega))
          have HLT := Lib.hid hlt
          have hii : (i : Int) < (L.length : Int) := by omega
          clear A1 hte hmem hi hlt hmap hln
          go_wp2_with fail
          refine WK.out.mono ?_; rintro e w3 ⟨rfl, hb3⟩
          have HB3 := Lib.hid (bstep HB1.out hb3)
          have HT3 := Lib.hid (HT1.out.go hb3)
          have HR3 := Lib.hid (HR1.out.go hb3); clear hb3 HB1 HT1 HR1
          obtain ⟨u, hu⟩ := HR3.out.cell HLT.out
          have hfz := HR3.out.free i
          have HR4 : Hid (Row9 (w3.setCell ⟨wk.heap.size, i, none⟩ (.string (wrT (kk, tt, p)))) wk.heap.size L.length ((L.take (i + 1)).map wrT)) := by
            have h9 := HR3.out.set (by rw [HLN.out]; exact HLT.out) (wrT (kk, tt, p))
            rw [HLN.out] at h9
            show Row9 _ _ _ _
            rw [HMAP.out]; exact h9
          have HB4 : Hid (Below w.heap.size w (w3.setCell ⟨wk.heap.size, i, none⟩ (.string (wrT (kk, tt, p))))) := HB3.out.setCell (p := ⟨wk.heap.size, i, none⟩) HGW.out _
          have HT4 := Lib.hid (HT0.out.go HB4.out)
          go_wp2_with fail
          go_roundw
          case rel => exact ⟨i + 1, by first | exact congrArg (Value.int .i64) W3.out | go_num, HLT.out, HT4, HR4, HB4⟩
          case measure => have := HLT.out; first | (rw [W3.out]; simp [intOf]; omega) | (simp [intOf]; omega)
        · have hin : i = L.length := by omega
          subst hin
          have hrow : Row9 wz wk.heap.size L.length (L.map wrT) := by have h9 := HRm.out; rw [List.take_length] at h9; exact h9
          have hii : ¬ (L.length : Int) < (L.length : Int) := by omega
          have hjm : (L.map wrT).map (fun x : ByteArray => x.data.toList) = L.map fun t => (wrT t).data.toList := by rw [List.map_map]; rfl
          have JN : Hid (Calls Tryz.prog 18 #[.slice (some ⟨wk.heap.size, 0, none⟩) L.length L.length, .string ⟨#[32]⟩] wz fun e w' => e = .returned (.string (joinedT L)) ∧ Below wz.heap.size wz w') := by
            have h1 := HJL.out
            have h2 := HLEN.out
            have := Tryz.strings_Join wk.heap.size 0 L.length (L.map wrT) ⟨#[32]⟩ wz (fun j x hj => by
              obtain ⟨cur, c1, c2, c3⟩ := hrow
              rw [cell_of_row _ _ _ _ _ _ c1, Nat.zero_add]
              obtain ⟨hj1, hj2⟩ := List.getElem?_eq_some_iff.1 hj
              have h9 := c3 j hj1
              rw [hj2] at h9
              simpa using h9) hrow.lt (by rw [List.length_map]; omega) (by rw [List.length_map]; exact Nat.le_refl _) (by rw [hjm]; show (Lib.join (L.map fun t => (wrT t).data.toList) [32]).length ≤ _; omega)
            rw [List.length_map, hjm] at this
            exact this
          obtain ⟨J, hJ⟩ : ∃ J, J = joinedT L := ⟨_, rfl⟩
          rw [← hJ] at JN
          have HXX : Hid (x = if 8000 < J.size then (⟨#[]⟩, 2) else (J, 0)) := by
            show _ = _
            rw [HX.out, hJ]
            unfold textT
            rw [if_pos HALL.out]
          clear hrow hjm hJ hlt hi HRm
          go_wp2_with fail
          refine JN.out.mono ?_; rintro e w3 ⟨rfl, hb3⟩
          have HB3 := Lib.hid (bstep HBm.out hb3); clear hb3
          by_cases h8 : 8000 < J.size
          · have t1 : decide (8000 < (J.size : Int)) = true := decide_eq_true (by omega)
            have HR : Hid (x = (⟨#[]⟩, 2)) := by show _ = _; rw [HXX.out, if_pos h8]
            clear h8
            go_wp2_with fail
            refine bodyPost_ret (v := .tuple #[.string ⟨#[]⟩, .int .i64 2]) (by simp [results, Tryz.f10, go_sem]) rfl ⟨by rw [HR.out], HB3.out⟩
          · have t1 : decide (8000 < (J.size : Int)) = false := decide_eq_false (by omega)
            have HR : Hid (x = (J, 0)) := by show _ = _; rw [HXX.out, if_neg h8]
            clear h8
            go_wp2_with fail
            refine bodyPost_ret (v := .tuple #[.string J, .int .i64 0]) (by simp [results, Tryz.f10, go_sem]) rfl ⟨by rw [HR.out], HB3.out⟩
end Go.Proofs.YtegobakoflbnfaaGreatDoor

namespace Go.Proofs.YtegobakoflbnfaaGreatDoor
open Go Go.RowKit

set_option maxHeartbeats 6400000 in
set_option maxRecDepth 100000 in
theorem same_anyO (w : World) (v1 v2 : Value) (L M : List Tk) (h1 : TokO w v1 L) (h2 : TokO w v2 M) (hL : L.length ≤ 2000) (hM : M.length ≤ 2000) : Calls Tryz.prog 8 #[v1, v2, .bool false] w fun e w' => e = .returned (.bool (sameB false L M)) ∧ Below w.heap.size w w' := by
  have H1 := Lib.hid h1; have H2 := Lib.hid h2
  obtain ⟨o1, c1, rfl, hc1⟩ := h1
  obtain ⟨o2, c2, rfl, hc2⟩ := h2
  have HC1 := Lib.hid hc1; have HC2 := Lib.hid hc2
  clear hc1 hc2
  by_cases hlen : L.length = M.length
  · have n0 : ((L.length : Int) != (M.length : Int)) = false := by rw [hlen]; simp
    obtain ⟨n, hn⟩ : ∃ n, n = L.length := ⟨_, rfl⟩
    have HN := Lib.hid hn; have HNM : Hid (n = M.length) := hn.trans hlen
    rw [← hlen] at n0 ⊢
    rw [← hn] at n0 hL ⊢
    clear hlen hn hM
    go_enter Tryz.func8, Tryz.ntmps8
    go_wp2_with fail
    go_loopw [7] (fun v7 wr => ∃ i : Nat, v7 = .int .i64 (i : Int) ∧ i ≤ n ∧ Hid (sameB false L M = sameB false (L.drop i) (M.drop i)) ∧ Hid (Below w.heap.size w wr)) (fun v7 _ => n - (intOf v7).toNat)
    case atStart => exact ⟨0, rfl, Nat.zero_le _, rfl, Below.refl _ _⟩
    case round =>
      obtain ⟨i, rfl, hi, HS, HB⟩ := hrel
      by_cases hlt : i < n
      · have HLT := Lib.hid hlt
        obtain ⟨g1, f1, rfl, hd1⟩ := HC1.out (by have := HN.out; omega)
        obtain ⟨g2, f2, rfl, hd2⟩ := HC2.out (by have := HNM.out; omega)
        obtain ⟨x0, x1, z1, x2⟩ := hd1 i (by have := HN.out; omega)
        obtain ⟨y0, y1, z2, y2⟩ := hd2 i (by have := HNM.out; omega)
        have gl1 := World.block_lt_of_cell? w _ x0
        have gl2 := World.block_lt_of_cell? w _ y0
        replace x0 := (HB.out.cell (p := ⟨g1, f1 + i * 3, none⟩) gl1).trans x0
        replace x1 := (HB.out.cell (p := ⟨g1, f1 + i * 3 + 1, none⟩) gl1).trans x1
        replace x2 := (HB.out.cell (p := ⟨g1, f1 + i * 3 + 2, none⟩) gl1).trans x2
        replace y0 := (HB.out.cell (p := ⟨g2, f2 + i * 3, none⟩) gl2).trans y0
        replace y1 := (HB.out.cell (p := ⟨g2, f2 + i * 3 + 1, none⟩) gl2).trans y1
        replace y2 := (HB.out.cell (p := ⟨g2, f2 + i * 3 + 2, none⟩) gl2).trans y2
        generalize hta : L[i]'(by have := HN.out; omega) = ta at x0 x1
        generalize htb : M[i]'(by have := HNM.out; omega) = tb at y0 y1
        obtain ⟨ka, sa, pa⟩ := ta
        obtain ⟨kb, sb, pb⟩ := tb
        simp only [] at x0 x1 y0 y1
        have HST : Hid (sameB false (L.drop i) (M.drop i) = ((ka == kb) && (sa.toList == sb.toList) && (!false || pa == pb) && sameB false (L.drop (i + 1)) (M.drop (i + 1)))) := by
          show _ = _
          rw [List.drop_eq_getElem_cons (by have := HN.out; omega), List.drop_eq_getElem_cons (l := M) (by have := HNM.out; omega), hta, htb]
          rfl
        clear hd1 hd2 hta htb
        have hii : (i : Int) < (n : Int) := by omega
        by_cases hk : ka = kb
        · subst hk
          have k1 : (ka == ka) = true := beq_self_eq_true ka
          cases s0 : (sa.toList == sb.toList)
          · have HF : Hid (sameB false L M = false) := by show _ = _; rw [HS.out, HST.out, k1, s0]; rfl
            clear k1
            clear HST HS
            go_wp2_with fail
            go_quiet (fail)
            go_wp2_with fail
            go_ret
            exact ⟨by rw [HF.out]; rfl, HB.out.trans (below_drewN _ _ _)⟩
          · · clear k1
              have HS2 : Hid (sameB false L M = sameB false (L.drop (i + 1)) (M.drop (i + 1))) := by show _ = _; rw [HS.out, HST.out, s0]; simp
              clear HST HS
              have HW := Lib.hid (wadd (a := i) (b := 1) (by have := HLT.out; omega))
              go_wp2_with fail
              go_quiet (fail)
              go_wp2_with fail
              go_roundw
              case rel => exact ⟨i + 1, by first | exact congrArg (Value.int .i64) HW.out | go_num, HLT.out, HS2, HB.out.trans (below_drewN _ _ _)⟩
              case measure => have := HLT.out; first | (rw [HW.out]; simp [intOf]; omega) | (simp [intOf]; omega)
        · have k0 : (ka != kb) = true := by rw [bne_iff_ne]; exact hk
          have k1 : (ka == kb) = false := by rw [beq_eq_false_iff_ne]; exact hk
          have HF : Hid (sameB false L M = false) := by show _ = _; rw [HS.out, HST.out, k1]; rfl
          clear hk
          clear HST HS
          go_wp2_with fail
          go_quiet (fail)
          go_wp2_with fail
          go_ret
          exact ⟨by rw [HF.out]; rfl, HB.out.trans (below_drewN _ _ _)⟩
      · have hin : i = n := by omega
        subst hin
        have HR : Hid (sameB false L M = true) := by
          show _ = _
          rw [HS.out, List.drop_eq_nil_of_le (by rw [← HN.out]; exact Nat.le_refl _), List.drop_eq_nil_of_le (by rw [← HNM.out]; exact Nat.le_refl _)]; rfl
        go_wp2_with fail
        go_ret
        exact ⟨by rw [HR.out]; rfl, HB.out⟩
  · have n0 : ((L.length : Int) != (M.length : Int)) = true := by rw [bne_iff_ne]; omega
    have HR : Hid (sameB false L M = false) := by
      show _ = _
      cases hs : sameB false L M
      · rfl
      · exact absurd (sameB_len hs) hlen
    go_enter Tryz.func8, Tryz.ntmps8
    go_wp2_with fail
    go_ret
    exact ⟨by rw [HR.out]; rfl, Below.refl _ _⟩
end Go.Proofs.YtegobakoflbnfaaGreatDoor
