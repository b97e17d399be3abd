/- strings.Cut at one byte, of any text; what strconv.ParseUint answers to any text. -/
import Derived.Test.YtegobakoflbnfaaDoorU
import Derived.Deep.QuietTactic
import Derived.BigQuiet
import Derived.Lib.ParseIntBCases
import Derived.LaidSub
import Derived.MakeChecks
import Derived.Test.YtegobakoflbnfaaDoorZ
namespace Go.Proofs.YtegobakoflbnfaaDoor
open Go Go.RowKit

set_option maxHeartbeats 4000000 in
set_option maxRecDepth 100000 in
theorem cut_lite (w : World) (s : ByteArray) (c : UInt8) (hs : s.size ≤ 140737488355328) : Calls Tryd.prog 52 #[.string s, .string ⟨#[c]⟩] w fun e w' => e = .returned (.tuple #[.string ⟨(Lib.cut s.data.toList [c]).1.toArray⟩, .string ⟨(Lib.cut s.data.toList [c]).2.1.toArray⟩, .bool (Lib.cut s.data.toList [c]).2.2]) ∧ Below w.heap.size w w' := by
  have IX := Lib.hid (Tryd.stringslite_Index_one s c w)
  have hcut : Lib.cut s.data.toList [c] = if 0 ≤ Lib.indexByte s.data.toList c then (s.data.toList.take (Lib.indexByte s.data.toList c).toNat, s.data.toList.drop ((Lib.indexByte s.data.toList c).toNat + 1), true) else (s.data.toList, [], false) := by
    unfold Lib.cut
    rw [Lib.index_one]; rfl
  have hsz : s.data.toList.length = s.size := Array.length_toList
  have hge := Lib.indexByte_ge s.data.toList c
  obtain ⟨k, hk⟩ : ∃ k, k = Lib.indexByte s.data.toList c := ⟨_, rfl⟩
  rw [← hk] at IX hcut hge
  have HC := Lib.hid hcut
  have hlt : 0 ≤ k → k.toNat < s.size := fun h => by
    obtain ⟨h1, -⟩ := Lib.indexByte_some (l := s.data.toList) (c := c) (o := k.toNat) (by rw [← hk]; omega)
    rw [← hsz]
    exact (List.getElem?_eq_some_iff.1 h1).1
  clear hk
  by_cases h0 : 0 ≤ k
  · obtain ⟨n, rfl⟩ : ∃ n : Nat, k = (n : Int) := ⟨k.toNat, by omega⟩
    have hn : n < s.size := by simpa using hlt h0
    have hW : Hid (wrap64 ((n : Int) + 1) = ((n + 1 : Nat) : Int)) := wnat (by omega)
    obtain ⟨n1, hn1⟩ : ∃ q, q = n + 1 := ⟨_, rfl⟩
    have hw : wrap64 ((n : Int) + 1) = (n1 : Int) := by rw [hn1]; exact hW.out
    have hn1s : (n1 : Int) ≤ (s.size : Int) := by omega
    have hns : (n : Int) ≤ (s.size : Int) := by omega
    have E1 : Hid ((⟨(s.data.toList.take n).toArray⟩ : ByteArray) = s.extract 0 n) := by
      show _ = _
      apply ByteArray.ext
      rw [← Array.toList_inj, toList_extract]; simp
    have E2 : Hid ((⟨(s.data.toList.drop (n + 1)).toArray⟩ : ByteArray) = s.extract n1 s.size) := by
      show _ = _
      rw [← hn1]
      apply ByteArray.ext
      rw [← Array.toList_inj, toList_from]
    have HR : Hid (Lib.cut s.data.toList [c] = (s.data.toList.take n, s.data.toList.drop (n + 1), true)) := by
      show _ = _
      rw [HC.out, if_pos (by omega)]; rfl
    clear hW hn hn1 hlt HC hsz hcut h0 hge hs
    go_enter Tryd.func52, Tryd.ntmps52
    go_wp2_with fail
    refine IX.out.mono ?_; rintro e w2 ⟨rfl, rfl⟩
    go_wp2_with fail
    go_quiet (fail)
    go_wp2_with fail
    refine bodyPost_ret (v := .tuple #[.string (s.extract 0 n), .string (s.extract n1 s.size), .bool true]) (by simp [results, Tryd.f52, go_sem]) rfl ⟨by rw [HR.out, E1.out, E2.out], below_drewN _ _ _⟩
  · have HR : Hid (Lib.cut s.data.toList [c] = (s.data.toList, [], false)) := by
      show _ = _
      rw [HC.out, if_neg h0]
    have hkn : ¬ (k ≥ 0) := h0
    clear hlt HC hsz hcut h0 hge hs
    go_enter Tryd.func52, Tryd.ntmps52
    go_wp2_with fail
    refine IX.out.mono ?_; rintro e w2 ⟨rfl, rfl⟩
    go_wp2_with fail
    refine bodyPost_ret (v := .tuple #[.string s, .string ⟨#[]⟩, .bool false]) (by simp [results, Tryd.f52, go_sem]) rfl ⟨by rw [HR.out], Below.refl _ _⟩
set_option maxHeartbeats 4000000 in
set_option maxRecDepth 100000 in
theorem cut_any (w : World) (s : ByteArray) (c : UInt8) (hs : s.size ≤ 140737488355328) : Calls Tryd.prog 36 #[.string s, .string ⟨#[c]⟩] w fun e w' => e = .returned (.tuple #[.string ⟨(Lib.cut s.data.toList [c]).1.toArray⟩, .string ⟨(Lib.cut s.data.toList [c]).2.1.toArray⟩, .bool (Lib.cut s.data.toList [c]).2.2]) ∧ Below w.heap.size w w' := by
  have IX := Lib.hid (cut_lite w s c hs)
  obtain ⟨r, hr⟩ : ∃ r, r = Lib.cut s.data.toList [c] := ⟨_, rfl⟩
  rw [← hr] at IX ⊢
  obtain ⟨a, b, d⟩ := r
  clear hr hs
  go_enter Tryd.func36, Tryd.ntmps36
  go_wp2_with fail
  refine IX.out.mono ?_; rintro e w2 ⟨rfl, hb⟩
  have HB := Lib.hid hb; clear hb
  go_wp2_with fail
  refine bodyPost_ret (v := .tuple #[.string ⟨a.toArray⟩, .string ⟨b.toArray⟩, .bool d]) (by simp [results, Tryd.f36, go_sem]) rfl ⟨rfl, HB.out⟩

/-- the two variables that the errors of ParseUint hold -/
def ErrV (w : World) : Prop := (∃ ev, w.cell? ⟨3, 0, none⟩ = some ev ∧ (ev = .nilIface ∨ ∃ te pe, ev = .iface te pe)) ∧ (∃ ev, w.cell? ⟨4, 0, none⟩ = some ev ∧ (ev = .nilIface ∨ ∃ te pe, ev = .iface te pe))
theorem ErrV.go {w w' : World} (h : ErrV w) (hb : Below w.heap.size w w') : ErrV w' := by
  obtain ⟨⟨a, ha, ha2⟩, b, hb1, hb2⟩ := h
  exact ⟨⟨a, (hb.cell (World.block_lt_of_cell? w _ ha)).trans ha, ha2⟩, b, (hb.cell (World.block_lt_of_cell? w _ hb1)).trans hb1, hb2⟩
set_option maxRecDepth 100000 in
theorem iface_cells {W : World} {t : TypeId} {ms : Array (String × TypeId)} {sp : Nat → Bool} {hd : Bool} (ht : Tryd.prog.underlying t = some (.interface ms)) {n : Nat} {cs : List Value} {D : DataW Unit} {p : List MemPlace}
    (h : DataW.trod (fun _ => ()) Tryd.prog W 0 sp hd n t cs = some (D, p)) : ∃ E, cs = [E] ∧ (E = .nilIface ∨ ∃ te pe, E = .iface te pe) := by
  cases n with
  | zero => simp [DataW.trod] at h
  | succ n =>
    match cs with
    | [] => simp [DataW.trod, ht] at h
    | a :: b :: l => simp [DataW.trod, ht] at h
    | [E] =>
      refine ⟨E, rfl, ?_⟩
      cases E with
      | nilIface => exact Or.inl rfl
      | iface u v => exact Or.inr ⟨u, v, rfl⟩
      | _ => simp [DataW.trod, ht] at h
theorem err_laid {W : World} {laid : List (String × DataW Unit)} (h : laidMetH Tryd.prog laid W) (name : String) (g : Nat) (D : DataW Unit)
    (he : (laid.filter fun x => x.1 == name) = [(name, D)]) (hp : ([(name, D)].all fun x : String × DataW Unit => x.2.handleName?.isNone) = true) (hgn : Tryd.prog.globalNamed name = some g) (hgt : (Tryd.prog.globals[g]?).map (·.type) = some 58) :
    ∃ ev, W.cell? ⟨g, 0, none⟩ = some ev ∧ (ev = .nilIface ∨ ∃ te pe, ev = .iface te pe) := by
  have h1 := laidMetH.filter (fun x => x.1 == name) h
  rw [he, MakeChecks.laidMetH_plain _ _ _ hp] at h1
  obtain ⟨ps, ⟨g', t, cs, fuel, p, q, hg, ht, hv, hd, _, _⟩, _, _⟩ := h1
  obtain rfl := Option.some.inj (hgn.symm.trans hg)
  obtain rfl := Option.some.inj (hgt.symm.trans ht)
  obtain ⟨E, hE, hE2⟩ := iface_cells Tryd.underlying58 hd
  refine ⟨E, ?_, hE2⟩
  rw [World.var?_cell hg hv 0]
  have h9 : cs.toList[0]? = some E := by rw [hE]; rfl
  simpa using h9
theorem err_of {W : World} (h : laidMetH Tryd.prog Rows.lexWordsRow.laid W) : ErrV W :=
  ⟨err_laid h "strconv.ErrSyntax" 3 Rows.laid_strconv_ErrSyntax (by kernel_rfl) (by kernel_rfl) (by kernel_rfl) (by kernel_rfl), err_laid h "strconv.ErrRange" 4 Rows.laid_strconv_ErrRange (by kernel_rfl) (by kernel_rfl) (by kernel_rfl) (by kernel_rfl)⟩
/-- what ParseUint reads, if it reads a number -/
def puO (l : List UInt8) : Option Nat := match Lib.parseUintB 64 l with
  | .ok u => some u
  | _ => none
theorem pu_opt (W : World) (s : ByteArray) (hs : s.size ≤ 140737488355330) (he : ErrV W) : Calls Tryd.prog 43 #[.string s, .int .i64 10, .int .i64 64] W fun e w' =>
    ((∃ u, puO s.data.toList = some u ∧ u < 18446744073709551616 ∧ e = .returned (.tuple #[.int .u64 (u : Int), .nilIface])) ∨ (puO s.data.toList = none ∧ ∃ x te pe, e = .returned (.tuple #[.int .u64 x, .iface te pe]))) ∧ Below W.heap.size W w' := by
  obtain ⟨⟨a, ha, ha2⟩, b, hb1, hb2⟩ := he
  unfold puO
  cases hq : Lib.parseUintB 64 s.data.toList
  case ok u =>
    refine (Tryd.strconv_ParseUint_10_at64_ok s (by omega) u hq W).mono ?_
    rintro e w' ⟨rfl, hw⟩
    refine ⟨Or.inl ⟨u, rfl, ?_, rfl⟩, ?_⟩
    · have := Lib.parseUintB_le hq
      omega
    · rcases hw with rfl | rfl
      · exact Below.refl _ _
      · exact Joins.below_bytesWorld _ _ _ _ (Nat.le_refl _)
  case range =>
    refine (Tryd.strconv_ParseUint_10_at64_range s (by omega) hq b W hb1 hb2).mono ?_
    rintro e w' ⟨N, rfl, -, -, hbel⟩
    exact ⟨Or.inr ⟨rfl, _, _, _, rfl⟩, hbel⟩
  all_goals
    refine (Any.strconv_ParseUint_10_at64_syntax Tryd.laysPu14 s (by omega) hq a W ha ha2).mono ?_
    rintro e w' ⟨N, rfl, -, -, hbel⟩
    exact ⟨Or.inr ⟨rfl, _, _, _, rfl⟩, hbel⟩
end Go.Proofs.YtegobakoflbnfaaDoor
