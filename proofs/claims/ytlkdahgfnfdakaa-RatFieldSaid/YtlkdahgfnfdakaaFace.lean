import Derived.Test.YtlkdahgfnfdakaaParse
namespace Go.Proofs.Ytlkdahgfnfdakaa
open Go.RowKit Go.Shelf WN LM

def fitQ (n d : Nat) : Bool := decide (Dig n ≤ 300 ∧ Dig d ≤ 300)
/-- what is returned of a result: its text, or that it is too long -/
def outQ (s : Bool) (n d : Nat) : ByteArray × Int := if fitQ n d then (⟨(ratText s n d).toArray⟩, 0) else (⟨#[]⟩, 2)
def OutS (w : World) (x : ByteArray × Int) (e : Ending) (w' : World) : Prop := e = .returned (.tuple #[.string x.1, .int .i64 x.2]) ∧ Below w.heap.size w w'
theorem outQ_fit {s : Bool} {n d : Nat} (h : fitQ n d = true) : outQ s n d = (⟨(ratText s n d).toArray⟩, 0) := by unfold outQ; rw [if_pos h]
theorem outQ_long {s : Bool} {n d : Nat} (h : fitQ n d = false) : outQ s n d = (⟨#[]⟩, 2) := by unfold outQ; rw [if_neg (by simp [h])]

set_option maxHeartbeats 1000000 in
set_option maxRecDepth 100000 in
theorem write_num {w : World} {v : Value} {s : Bool} {n d : Nat} (h : Frac w v s n d) (ln : Len n ≤ 10000000000) (ld : Len d ≤ 10000000000) : Calls Try.prog 62 #[v] w (OutS w (outQ s n d)) := by
  obtain ⟨o1, k1, c1', o2, k2, c2', rfl, hn, hd⟩ := h.box
  clear h
  have b1 := below_alloc w (.cells #[.bool s, .slice o1 k1 c1', .slice o2 k2 c2'] 55)
  have HN := Lib.hid (hn.go b1); have HD := Lib.hid (hd.go b1)
  have BX := Lib.hid (Box3.new w (.bool s) (.slice o1 k1 c1') (.slice o2 k2 c2')); have HB := Lib.hid b1
  clear hn hd b1
  have FT := Lib.hid (fun w' v h => fits_num (w := w') (v := v) (s := s) (n := n) (d := d) h ln ld)
  obtain ⟨c0, c1, c2, f0, f1, f2⟩ := Box3.facts BX.out
  by_cases hf : fitQ n d = true
  · have hO := Lib.hid (outQ_fit (s := s) hf)
    have hf' := hf
    unfold fitQ at hf'
    have hfd := of_decide_eq_true hf'
    have l1 := len_dig hfd.1
    have l2 := len_dig hfd.2
    rw [hf'] at FT
    clear hf hf' hfd
    have TX := Lib.hid (fun w' v h => fracText_num (w := w') (v := v) (s := s) (n := n) (d := d) h (by omega) (by omega))
    go_enter Try.func62, Try.ntmps62
    go_wp2_with fail
    generalize w.alloc (.cells #[.bool s, .slice o1 k1 c1', .slice o2 k2 c2'] 55) = w1 at *
    refine (FT.out _ _ ⟨_, _, rfl, HN.out, HD.out⟩).mono ?_; rintro e w2 ⟨rfl, hb2⟩
    have HN2 := Lib.hid (HN.out.go hb2); have HD2 := Lib.hid (HD.out.go hb2); have HB2 := Lib.hid (bstep HB.out hb2)
    clear c0 c1 c2 f0 f1 f2
    obtain ⟨c0, c1, c2, f0, f1, f2⟩ := Box3.facts (BX.out.go hb2)
    clear hb2
    go_wp2_with fail
    refine (TX.out _ _ ⟨_, _, rfl, HN2.out, HD2.out⟩).mono ?_; rintro e w3 ⟨rfl, hb3⟩
    have HB3 := Lib.hid (bstep HB2.out hb3)
    clear hb3 c0 c1 c2 f0 f1 f2
    go_wp2_with fail
    go_ret2
    exact ⟨by rw [hO.out]; rfl, HB3.out⟩
  · have hff : fitQ n d = false := by simpa using hf
    have hO := Lib.hid (outQ_long (s := s) hff)
    unfold fitQ at hff
    rw [hff] at FT
    clear hf hff
    go_enter Try.func62, Try.ntmps62
    go_wp2_with fail
    generalize w.alloc (.cells #[.bool s, .slice o1 k1 c1', .slice o2 k2 c2'] 55) = w1 at *
    refine (FT.out _ _ ⟨_, _, rfl, HN.out, HD.out⟩).mono ?_; rintro e w2 ⟨rfl, hb2⟩
    have HB2 := Lib.hid (bstep HB.out hb2)
    clear hb2 c0 c1 c2 f0 f1 f2
    go_wp2_with fail
    go_ret2
    exact ⟨by rw [hO.out]; rfl, HB2.out⟩

/-- a result: its sign and terms -/
theorem NRow.one {w : World} {g : Nat} {p : Q3} (h : NRow w g 1 [p] 1) : ∃ o1 k1 c1 o2 k2 c2, w.cell? ⟨g, 0, none⟩ = some (.bool p.1) ∧ w.cell? ⟨g, 1, none⟩ = some (.slice o1 k1 c1) ∧ w.cell? ⟨g, 2, none⟩ = some (.slice o2 k2 c2) ∧ Num w (.slice o1 k1 c1) p.2.1 ∧ Num w (.slice o2 k2 c2) p.2.2 := by
  have := h.get (i := 0) (by omega) (by simp)
  simpa using this
theorem NRow.two {w : World} {g : Nat} {p q : Q3} (h : NRow w g 2 [p, q] 2) :
    (∃ o1 k1 c1 o2 k2 c2, w.cell? ⟨g, 0, none⟩ = some (.bool p.1) ∧ w.cell? ⟨g, 1, none⟩ = some (.slice o1 k1 c1) ∧ w.cell? ⟨g, 2, none⟩ = some (.slice o2 k2 c2) ∧ Num w (.slice o1 k1 c1) p.2.1 ∧ Num w (.slice o2 k2 c2) p.2.2) ∧
    (∃ o1 k1 c1 o2 k2 c2, w.cell? ⟨g, 3, none⟩ = some (.bool q.1) ∧ w.cell? ⟨g, 4, none⟩ = some (.slice o1 k1 c1) ∧ w.cell? ⟨g, 5, none⟩ = some (.slice o2 k2 c2) ∧ Num w (.slice o1 k1 c1) q.2.1 ∧ Num w (.slice o2 k2 c2) q.2.2) := by
  have h0 := h.get (i := 0) (by omega) (by simp)
  have h1 := h.get (i := 1) (by omega) (by simp)
  exact ⟨by simpa using h0, by simpa using h1⟩
theorem Strs.new1 (w : World) (a : ByteArray) : Strs (w.alloc (.cells #[.string a] 9)) (.slice (some ⟨w.heap.size, 0, none⟩) 1 1) [a] := by
  refine ⟨_, _, rfl, fun i hi => ⟨_, _, rfl, ?_⟩⟩
  obtain rfl : i = 0 := by simpa using hi
  rw [cell_of_row _ _ _ _ _ _ (heap_alloc_new w _)]; rfl
theorem Strs.new2 (w : World) (a b : ByteArray) : Strs (w.alloc (.cells #[.string a, .string b] 9)) (.slice (some ⟨w.heap.size, 0, none⟩) 2 2) [a, b] := by
  refine ⟨_, _, rfl, fun i hi => ⟨_, _, rfl, ?_⟩⟩
  have : i = 0 ∨ i = 1 := by simp at hi; omega
  rcases this with rfl | rfl <;> (rw [cell_of_row _ _ _ _ _ _ (heap_alloc_new w _)]; rfl)
theorem readAll_one (a : ByteArray) : readAll [a] = (readQ a.data.toList).map fun q => [q] := by
  simp only [readAll]; cases readQ a.data.toList <;> rfl
theorem readAll_two (a b : ByteArray) : readAll [a, b] = (readQ a.data.toList).bind fun p => (readQ b.data.toList).map fun q => [p, q] := by
  simp only [readAll]; cases readQ a.data.toList <;> cases readQ b.data.toList <;> rfl
/-- what is read has at most 300 digits in each term -/
theorem readR_dig {neg : Bool} {r : List UInt8} {s : Bool} {n d : Nat} (h : readR neg r = some (s, n, d)) : Dig n ≤ 300 ∧ Dig d ≤ 300 ∧ 0 < d ∧ s = neg ∧ Nat.gcd n d = 1 ∧ (s = true → n ≠ 0) ∧ r = decT n ++ (if d = 1 then [] else 47 :: decT d) := by
  unfold readR at h
  have hr : r = r.takeWhile (· != 47) ++ r.dropWhile (· != 47) := (List.takeWhile_append_dropWhile).symm
  split at h
  · rename_i h1
    simp only [Bool.and_eq_true, Bool.not_eq_true', Bool.and_eq_false_iff, decide_eq_false_iff_not] at h1
    obtain ⟨h1, h2⟩ := h1
    obtain ⟨g1, g2, g3⟩ := goodD_eq h1
    split at h
    · rename_i hd
      simp only [Option.some.injEq, Prod.mk.injEq] at h
      obtain ⟨rfl, rfl, rfl⟩ := h
      refine ⟨g2, by have := dig_le (n := 1) (k := 1) (by omega) (by omega); omega, by omega, rfl, Nat.gcd_one_right _, fun hs => ?_, ?_⟩
      · rcases h2 with h2 | h2
        · rw [hs] at h2; cases h2
        · exact h2
      · rw [hd, List.append_nil] at hr
        simp only [if_true, List.append_nil]
        rw [← g1]; exact hr
    · rename_i c t hd
      split at h
      · rename_i h3
        simp only [Bool.and_eq_true, Bool.not_eq_true', decide_eq_false_iff_not, decide_eq_true_eq] at h3
        obtain ⟨⟨⟨h3, h4⟩, h5⟩, h6⟩ := h3
        simp only [Option.some.injEq, Prod.mk.injEq] at h
        obtain ⟨rfl, rfl, rfl⟩ := h
        obtain ⟨g4, g5, g6⟩ := goodD_eq h3
        refine ⟨g2, g5, by omega, rfl, h6, fun hs => ?_, ?_⟩
        · rcases h2 with h2 | h2
          · rw [hs] at h2; cases h2
          · exact h2
        · rw [if_neg h5, ← g1, ← g4]
          have hc : c = 47 := by
            have hx : (r.dropWhile (· != 47)).head? = some c := by rw [hd]; rfl
            have := List.head?_dropWhile_not (fun x : UInt8 => x != 47) r
            rw [hx] at this
            simpa using this
          rw [hd, hc] at hr
          exact hr
      · cases h
  · cases h
theorem readQ_spec {l : List UInt8} {s : Bool} {n d : Nat} (h : readQ l = some (s, n, d)) : Dig n ≤ 300 ∧ Dig d ≤ 300 ∧ 0 < d ∧ Nat.gcd n d = 1 ∧ (s = true → n ≠ 0) ∧ l = ratText s n d := by
  unfold readQ at h
  split at h
  · rename_i hh
    obtain ⟨h1, h2, h3, h4, h5, h6, h7⟩ := readR_dig h
    refine ⟨h1, h2, h3, h5, h6, ?_⟩
    cases l with
    | nil => simp at hh
    | cons c l =>
      have : c = 45 := by simpa using hh
      subst this
      rw [h4]
      simp only [List.tail_cons] at h7
      rw [h7]; simp [ratText]
  · obtain ⟨h1, h2, h3, h4, h5, h6, h7⟩ := readR_dig h
    exact ⟨h1, h2, h3, h5, h6, by rw [h4, h7]; simp [ratText]⟩
end Go.Proofs.Ytlkdahgfnfdakaa
