import Derived.Test.YtlkdahgfnfdakaaApp
import Derived.Test.YtlkdahgfnfdakaaFracQ
namespace Go.Proofs.Ytlkdahgfnfdakaa
open Go.RowKit Go.Shelf WN LM

/-- how a number is written -/
def ratText (s : Bool) (n d : Nat) : List UInt8 := (if s then [45] else []) ++ decT n ++ (if d = 1 then [] else 47 :: decT d)

theorem Bytes.shape3 {W : World} {base : Nat} {v : Value} {l : List UInt8} (h : Bytes W base v l) : ∃ o k c, v = .slice o k c := by
  obtain ⟨o, c, h⟩ := h.shape; exact ⟨o, _, c, h⟩
theorem Bytes.below {W W1 : World} {base : Nat} {v : Value} {l : List UInt8} (h : Bytes W base v l) (hb : Below W.heap.size W W1) : Bytes W1 base v l := by
  refine ⟨h.1, h.2.imp id ?_⟩
  rintro ⟨g, cap, cur, h1, h2, h3, h4⟩
  exact ⟨g, cap, cur, h1, h2, (hb.block g (lt_of_block h3)).trans h3, h4⟩
theorem Bytes.grown {W W1 : World} {base : Nat} {v : Value} {l : List UInt8} (h : Bytes W base v l) {B0 : Nat} {W0 : World} (hb : Below B0 W0 W) (hg : W.grownBy W1 v.ownBlock) (hB : B0 ≤ base) (hs : B0 ≤ W.heap.size) : Below B0 W0 W1 :=
  hb.grown hg hs (fun g hg => Nat.le_trans hB (h.block_ge g hg).1)
theorem dig_len (n : Nat) : Dig n ≤ 9 * Len n + 1 := by
  refine dig_le (by omega) (Nat.lt_of_lt_of_le (lt_len n) ?_)
  rw [show (1000000000 : Nat) = 10 ^ 9 from rfl, ← Nat.pow_mul]
  exact Nat.pow_le_pow_right (by omega) (by omega)
theorem decT_ne (n : Nat) : decT n ≠ [] := by
  intro h
  have := decT_len n
  rw [h] at this
  have := dig_pos n
  simp at *; omega
theorem Bytes.conv {W : World} {base : Nat} {v : Value} {l : List UInt8} (h : Bytes W base v l) (hl : l ≠ []) : (convert 92 9 v).run Try.prog W = .ok (.string ⟨l.toArray⟩) W := by
  rcases h.2 with ⟨rfl, h0⟩ | ⟨g, cap, cur, rfl, _⟩
  · exact absurd (List.length_eq_zero_iff.1 h0) hl
  · refine run_convert_bytes_back W 92 9 5 _ cap l Try.underlying92 Try.underlying5 Try.underlying9 fun j hj => ?_
    refine World.ownsRow.cells h (g := g) rfl j _ ?_
    simp [bv, hj]

/-- the append of one byte, its cell made last -/
theorem Bytes.snoc {W1 : World} {base : Nat} {v' : Value} {t : List UInt8} {c : UInt8} (h : W1.ownsRow base 5 1 v' (t.length + 1) (bv t ++ bv [c])) : Bytes W1 base v' (t ++ [c]) := by
  unfold Bytes; rw [bv_append, List.length_append]; exact h
theorem byte_cell (W : World) (c : UInt8) (x : Int) (hx : x = (c.toNat : Int)) : ∀ j u, (bv [c])[j]? = some u → (W.alloc (.cells #[.int .u8 x] 5)).cell? ((⟨W.heap.size, 0, none⟩ : Addr).add j) = some u := by
  intro j u hu
  match j, hu with
  | 0, hu =>
    simp [bv] at hu
    subst hu
    rw [← hx]
    exact cell_of_one (heap_alloc_new W _)
  | j + 1, hu => simp [bv] at hu

set_option maxRecDepth 100000 in
set_option maxHeartbeats 4000000 in
theorem fracText_num {w : World} {v : Value} {s : Bool} {n d : Nat} (h : Frac w v s n d) (ln : Len n ≤ 1000) (ld : Len d ≤ 1000) :
    Calls Try.prog 56 #[v] w fun e w' => e = .returned (.string ⟨(ratText s n d).toArray⟩) ∧ Below w.heap.size w w' := by
  obtain ⟨o1, k1, c1', o2, k2, c2', rfl, hn, hd⟩ := h.box
  clear h
  have b1 : Below w.heap.size w (w.alloc (.cells #[.bool s, .slice o1 k1 c1', .slice o2 k2 c2'] 55)) := (Below.refl _ w).alloc (Nat.le_refl _) _
  have bx := Box3.new w (.bool s) (.slice o1 k1 c1') (.slice o2 k2 c2')
  have HN := Lib.hid (hn.go b1); have HD := Lib.hid (hd.go b1)
  have BX := Lib.hid bx; have HB1 := Lib.hid b1
  clear hn hd b1 bx
  obtain ⟨i0, hi, hz0, hz1, hz2⟩ := info_parts Try.info5
  have ldn : (decT n).length ≤ 10000 := by
    rw [decT_len]
    have := dig_len n
    omega
  have AP := Lib.hid (fun (w' : World) (v : Value) (t : List UInt8) (x : Nat) (vx : Value) (W0 : World) (h1 : Num W0 vx x) => appendTo_num (w0 := W0) (w := w') (base := W0.heap.size) (v := v) (t := t) h1)
  go_enter Try.func56, Try.ntmps56
  obtain ⟨c0, c1, c2, f0, f1, f2⟩ := Box3.facts BX.out
  cases s
  · go_wp2_with fail
    generalize w.alloc (.cells #[.bool false, .slice o1 k1 c1', .slice o2 k2 c2'] 55) = w1 at *
    refine (AP.out w1 (.slice none 0 0) [] n _ w1 HN.out ln (Below.refl _ _) (Nat.le_refl _) (Nat.le_refl _) (Bytes.nil _ _) (by simp)).mono ?_; rintro e w2 ⟨v2, rfl, hv2, hb2⟩
    obtain ⟨p2, m2, q2, rfl⟩ := hv2.shape3
    have HV2 := Lib.hid hv2; have HB2 := Lib.hid hb2
    clear c0 c1 c2 f0 f1 f2 hv2
    obtain ⟨c0, c1, c2, f0, f1, f2⟩ := Box3.facts (BX.out.go hb2)
    clear hb2
    go_wp2_with fail
    refine (isOne_num (HD.out.go HB2.out) (by omega)).mono ?_; rintro e w3 ⟨rfl, rfl⟩
    by_cases hd1 : d = 1
    · have Hd1 : Hid (decide (d = 1) = true) := by show _ = _; simp [hd1]
      have hconv := HV2.out.conv (by rw [List.nil_append]; exact decT_ne n)
      have HR : Hid (ratText false n d = [] ++ decT n) := by show _ = _; unfold ratText; rw [if_pos hd1]; simp
      rw [Hd1.out]
      clear hd1
      go_wp2_with fail
      go_ret
      exact ⟨by rw [HR.out]; rfl, bstep HB1.out HB2.out⟩
    · have Hd1 : Hid (decide (d = 1) = false) := by show _ = _; simp [hd1]
      have HR : Hid (ratText false n d = decT n ++ 47 :: decT d) := by show _ = _; unfold ratText; rw [if_neg hd1]; simp
      rw [Hd1.out]
      clear hd1
      have hl2 : ([] ++ decT n).length ≤ 20000 := by rw [List.length_append]; simp; omega
      have HLL := Lib.hid hl2
      go_wp2_with (at_builtin; refine wpList_append_own _ rfl (.tmp 17) (.tmp 18) 92 rfl w1.heap.size 5 i0 (.int .u8 0) 1 1 Try.underlying92 hi hz0 hz1 hz2 rfl (by decide) _ ([] ++ decT n).length _ rfl (World.ownsRow.alloc HV2.out _) ⟨w2.heap.size, 0, none⟩ 1 1 (bv [47]) rfl rfl (byte_cell _ _ _ rfl) (by intro u hu; simp [bv] at hu; subst hu; rfl) (by unfold maxLen; omega) (by omega) (by have := HB2.out.size; simp; omega) ?_; intro v3 w3 hown3 hgrow3 _; have HG3 := Lib.hid hgrow3; have HO3 := Lib.hid hown3; clear hown3 hgrow3; obtain ⟨p3, m3, q3, rfl⟩ := (Bytes.snoc HO3.out).shape3; have HB3 := Lib.hid ((HB2.out.alloc (B := w1.heap.size) HB2.out.size (.cells #[.int .u8 47] 5)).grown HG3.out (by have := HB2.out.size; simp; omega) (fun g hg => (HV2.out.block_ge g hg).1)); clear c0 c1 c2 f0 f1 f2; obtain ⟨c0, c1, c2, f0, f1, f2⟩ := Box3.facts (BX.out.go HB3.out))
      refine (AP.out w3 _ ([] ++ decT n ++ [47]) d _ w1 HD.out ld HB3.out (Nat.le_refl _) HB3.out.size (Bytes.snoc HO3.out) (by rw [List.length_append]; simp; omega)).mono ?_; rintro e w4 ⟨v4, rfl, hv4, hb4⟩
      obtain ⟨p4, m4, q4, rfl⟩ := hv4.shape3
      have hconv := hv4.conv (by simp)
      have HB4 := Lib.hid (HB3.out.trans hb4)
      clear c0 c1 c2 f0 f1 f2 hv4 hb4
      go_wp2_with fail
      go_ret
      exact ⟨by rw [HR.out]; rfl, bstep HB1.out HB4.out⟩
  · go_wp2_with (at_builtin; refine wpList_append_own _ rfl (.tmp 6) (.tmp 7) 92 rfl (w.alloc (.cells #[.bool true, .slice o1 k1 c1', .slice o2 k2 c2'] 55)).heap.size 5 i0 (.int .u8 0) 1 1 Try.underlying92 hi hz0 hz1 hz2 rfl (by decide) _ 0 _ rfl (World.ownsRow.alloc (Bytes.nil _ _) _) ⟨w.heap.size + 1, 0, none⟩ 1 1 (bv [45]) rfl rfl (by simpa using byte_cell (w.alloc (.cells #[.bool true, .slice o1 k1 c1', .slice o2 k2 c2'] 55)) 45 _ rfl) (by intro u hu; simp [bv] at hu; subst hu; rfl) (by unfold maxLen; omega) (by omega) (by simp) ?_; intro v2 w2 hown2 hgrow2 _; have HG3 := Lib.hid hgrow2; have HO3 := Lib.hid hown2; clear hown2 hgrow2; have HBa := Lib.hid (((Below.refl (w.alloc (.cells #[.bool true, .slice o1 k1 c1', .slice o2 k2 c2'] 55)).heap.size (w.alloc (.cells #[.bool true, .slice o1 k1 c1', .slice o2 k2 c2'] 55))).alloc (Nat.le_refl _) (.cells #[.int .u8 45] 5)).grown HG3.out (by simp) (fun g hg => by cases hg)); clear c0 c1 c2 f0 f1 f2; obtain ⟨c0, c1, c2, f0, f1, f2⟩ := Box3.facts (BX.out.go HBa.out))
    generalize w.alloc (.cells #[.bool true, .slice o1 k1 c1', .slice o2 k2 c2'] 55) = w1 at *
    refine (AP.out w2 _ [45] n _ w1 HN.out ln HBa.out (Nat.le_refl _) HBa.out.size (Bytes.snoc (t := []) HO3.out) (by simp)).mono ?_; rintro e w2 ⟨v2, rfl, hv2, hb2'⟩
    have hb2 := HBa.out.trans hb2'
    clear hb2'
    obtain ⟨p2, m2, q2, rfl⟩ := hv2.shape3
    have HV2 := Lib.hid hv2; have HB2 := Lib.hid hb2
    clear c0 c1 c2 f0 f1 f2 hv2
    obtain ⟨c0, c1, c2, f0, f1, f2⟩ := Box3.facts (BX.out.go hb2)
    clear hb2
    go_wp2_with fail
    refine (isOne_num (HD.out.go HB2.out) (by omega)).mono ?_; rintro e w3 ⟨rfl, rfl⟩
    by_cases hd1 : d = 1
    · have Hd1 : Hid (decide (d = 1) = true) := by show _ = _; simp [hd1]
      have hconv := HV2.out.conv (by simp)
      have HR : Hid (ratText true n d = [45] ++ decT n) := by show _ = _; unfold ratText; rw [if_pos hd1]; simp
      rw [Hd1.out]
      clear hd1
      go_wp2_with fail
      go_ret
      exact ⟨by rw [HR.out]; rfl, bstep HB1.out HB2.out⟩
    · have Hd1 : Hid (decide (d = 1) = false) := by show _ = _; simp [hd1]
      have HR : Hid (ratText true n d = 45 :: (decT n ++ 47 :: decT d)) := by show _ = _; unfold ratText; rw [if_neg hd1]; simp
      rw [Hd1.out]
      clear hd1
      have hl2 : ([45] ++ decT n).length ≤ 20000 := by rw [List.length_append]; simp; omega
      have HLL := Lib.hid hl2
      go_wp2_with (at_builtin; refine wpList_append_own _ rfl (.tmp 17) (.tmp 18) 92 rfl w1.heap.size 5 i0 (.int .u8 0) 1 1 Try.underlying92 hi hz0 hz1 hz2 rfl (by decide) _ ([45] ++ decT n).length _ rfl (World.ownsRow.alloc HV2.out _) ⟨w2.heap.size, 0, none⟩ 1 1 (bv [47]) rfl rfl (byte_cell _ _ _ rfl) (by intro u hu; simp [bv] at hu; subst hu; rfl) (by unfold maxLen; omega) (by omega) (by have := HB2.out.size; simp; omega) ?_; intro v3 w3 hown3 hgrow3 _; have HG3 := Lib.hid hgrow3; have HO3 := Lib.hid hown3; clear hown3 hgrow3; obtain ⟨p3, m3, q3, rfl⟩ := (Bytes.snoc HO3.out).shape3; have HB3 := Lib.hid ((HB2.out.alloc (B := w1.heap.size) HB2.out.size (.cells #[.int .u8 47] 5)).grown HG3.out (by have := HB2.out.size; simp; omega) (fun g hg => (HV2.out.block_ge g hg).1)); clear c0 c1 c2 f0 f1 f2; obtain ⟨c0, c1, c2, f0, f1, f2⟩ := Box3.facts (BX.out.go HB3.out))
      refine (AP.out w3 _ ([45] ++ decT n ++ [47]) d _ w1 HD.out ld HB3.out (Nat.le_refl _) HB3.out.size (Bytes.snoc HO3.out) (by rw [List.length_append]; simp; omega)).mono ?_; rintro e w4 ⟨v4, rfl, hv4, hb4⟩
      obtain ⟨p4, m4, q4, rfl⟩ := hv4.shape3
      have hconv := hv4.conv (by simp)
      have HB4 := Lib.hid (HB3.out.trans hb4)
      clear c0 c1 c2 f0 f1 f2 hv4 hb4
      go_wp2_with fail
      go_ret
      exact ⟨by rw [HR.out]; rfl, bstep HB1.out HB4.out⟩
end Go.Proofs.Ytlkdahgfnfdakaa
