import Derived.Test.YtlkdahgfnfdakaaSteps
namespace Go.Proofs.Ytlkdahgfnfdakaa
open Go.RowKit WN LM

def CombInv (la lb : List Nat) (f g : Int) (w wr : World) (G k : Nat) (c : Int) : Prop :=
  ∃ s, s.length = k ∧ Digs 1000000000 s ∧ (val 1000000000 s : Int) + ((1000000000 ^ k : Nat) : Int) * c = f * (val 1000000000 (la.take k) : Nat) + g * (val 1000000000 (lb.take k) : Nat) ∧
    Row wr G .u32 117 (s ++ List.replicate (la.length - k) 0) ∧ Below w.heap.size w wr

theorem CombInv.step {la lb : List Nat} {f g : Int} {w wr : World} {G k : Nat} {c : Int} (h : CombInv la lb f g w wr G k c) (hG : w.heap.size ≤ G) (hk : k < la.length) (x y d : Nat) (c' : Int) (hx : la[k]?.getD 0 = x) (hy : lb[k]?.getD 0 = y)
    (he : f * x + c + g * y = d + 1000000000 * c') (hd9 : d < 1000000000) : CombInv la lb f g w (wr.setCell ⟨G, k, none⟩ (.int .u32 (d : Nat))) G (k + 1) c' := by
  obtain ⟨s, hs, hd, hv, hr, hb⟩ := h
  refine ⟨s ++ [d], by simp [hs], hd.snoc hd9, ?_, ?_, hb.setCell hG _⟩
  · rw [val_snoc, hs, val_take_next, val_take_next, hx, hy, Nat.pow_succ]
    generalize 1000000000 ^ k = X at *
    generalize val 1000000000 (la.take k) = U at *
    generalize val 1000000000 (lb.take k) = V at *
    generalize val 1000000000 s = S at *
    have e : (X : Int) * (f * x + c + g * y) = X * (d + 1000000000 * c') := by rw [he]
    rw [Int.mul_add, Int.mul_add, Int.mul_add] at e
    rw [Int.natCast_add, Int.natCast_add, Int.natCast_add, Int.natCast_mul, Int.natCast_mul, Int.natCast_mul, Int.natCast_mul, Int.mul_add f, Int.mul_add g]
    rw [show f * ((X : Int) * x) = X * (f * x) from Int.mul_left_comm _ _ _, show g * ((X : Int) * y) = X * (g * y) from Int.mul_left_comm _ _ _]
    rw [show ((1000000000 : Nat) : Int) = 1000000000 from rfl, Int.mul_assoc (X : Int) 1000000000 c']
    omega
  · rw [← set_next hs (by omega)]; exact hr.set k _

theorem CombInv.rep {la lb : List Nat} {f g : Int} {w wr : World} {G k : Nat} {c : Int} (h : CombInv la lb f g w wr G k c) (hk : k = la.length) (hle : lb.length ≤ la.length) (T : Nat) (hT : f * (val 1000000000 la : Nat) + g * (val 1000000000 lb : Nat) = T) (hT2 : T < 1000000000 ^ la.length) :
    ∃ s, Rep wr .u32 (.slice (some ⟨G, 0, none⟩) la.length la.length) s ∧ Digs 1000000000 s ∧ val 1000000000 s = T ∧ Below w.heap.size w wr := by
  subst hk
  obtain ⟨s, hs, hd, he, hr, hb⟩ := h
  rw [Nat.sub_self, List.replicate_zero, List.append_nil] at hr
  rw [List.take_of_length_le (Nat.le_refl _), List.take_of_length_le hle, hT] at he
  have h1 := val_lt (B := 1000000000) (by omega) hd
  rw [hs] at h1
  generalize 1000000000 ^ la.length = X at *
  have hc : c = 0 := by
    rcases Int.lt_trichotomy c 0 with h | h | h
    · have : (X : Int) * c ≤ X * (-1) := Int.mul_le_mul_of_nonneg_left (by omega) (by omega)
      omega
    · exact h
    · have : (X : Int) * 1 ≤ X * c := Int.mul_le_mul_of_nonneg_left (by omega) (by omega)
      omega
  subst hc
  rw [Int.mul_zero, Int.add_zero] at he
  have := Rep.rowAll hr la.length (by omega)
  rw [hs] at this
  exact ⟨s, this, hd, by omega, hb⟩

theorem fmul_bound (f : Int) (x : Nat) (h1 : -1000000000 < f) (h2 : f < 1000000000) (hx : x < 1000000000) : -999999998000000001 ≤ f * x ∧ f * x ≤ 999999998000000001 := by
  constructor
  · have h : -999999999 * (x : Int) ≤ f * x := Int.mul_le_mul_of_nonneg_right (by omega) (by omega)
    omega
  · have h : f * (x : Int) ≤ 999999999 * x := Int.mul_le_mul_of_nonneg_right (by omega) (by omega)
    omega

theorem tdm (P : Int) : P = 1000000000 * P.tdiv 1000000000 + P.tmod 1000000000 ∧ -1000000000 < P.tmod 1000000000 ∧ P.tmod 1000000000 < 1000000000 := by
  have h1 := Int.mul_tdiv_add_tmod P 1000000000
  refine ⟨by omega, ?_, ?_⟩
  · have := Int.lt_tmod_of_pos P (by omega : (0 : Int) < 1000000000); omega
  · exact Int.tmod_lt_of_pos P (by omega)

set_option maxHeartbeats 2000000 in
set_option maxRecDepth 100000 in
theorem combined_num {w : World} {va vb : Value} {a b : Nat} (ha : Num w va a) (hb : Num w vb b) (la : Len a ≤ 1000000000) (hle : b ≤ a) (f g : Int) (hf : -1000000000 < f ∧ f < 1000000000) (hg : -1000000000 < g ∧ g < 1000000000) (T : Nat) (hT : f * a + g * b = T) (hTa : T ≤ a) :
    Calls Try.prog 124 #[va, vb, .int .i64 f, .int .i64 g] w (Ret1 w T) := by
  obtain ⟨oa, ca, l, rfl, hra, hca, hva, hla⟩ := ha.open
  obtain ⟨ob, cb, m, rfl, hrb, hcb, hvb, hlb⟩ := hb.open
  have Hra := Lib.hid hra
  have Hrb := Lib.hid hrb
  have Hca := Lib.hid hca
  have Hcb := Lib.hid hcb
  have hlen := len_mono hle
  have HT : Hid (f * (val 1000000000 l : Nat) + g * (val 1000000000 m : Nat) = T) := by show _ = _; rw [hva, hvb]; exact hT
  have HT2 : Hid (T < 1000000000 ^ l.length) := by show _ < _; rw [hla]; exact Nat.lt_of_le_of_lt hTa (lt_len a)
  have Hla := Lib.hid hla
  have Hlb := Lib.hid hlb
  have hlm : m.length ≤ l.length := by omega
  rw [← hla, ← hlb] at hlen
  have hll : l.length ≤ 1000000000 := by omega
  rw [← hla, ← hlb]
  rw [← hla] at hra
  rw [← hlb] at hrb
  have Hra := Lib.hid hra
  have Hrb := Lib.hid hrb
  clear ha hb hra hrb hca hcb hva hvb hla hlb hT hTa hle la Hla Hlb
  have hmk := make_words w l.length l.length (by omega) (by omega) (by omega)
  go_enter Try.func124, Try.ntmps124
  go_wp2
  clear hmk
  go_loopw [10, 19] (fun vc vk wr => ∃ (k : Nat) (c : Int), k ≤ l.length ∧ vk = .int .i64 k ∧ vc = .int .i64 c ∧ -2000000010 ≤ c ∧ c ≤ 2000000010 ∧ CombInv l m f g w wr w.heap.size k c) (fun _ vk _ => l.length - (intOf vk).toNat)
  case atStart => exact ⟨0, 0, Nat.zero_le _, rfl, rfl, by omega, by omega, [], rfl, Digs.nil _, by simp, by simpa using Row.new w .u32 117 _, (Below.refl _ _).alloc (Nat.le_refl _) _⟩
  case round =>
    obtain ⟨k, c, hk, rfl, rfl, hc1, hc2, hinv⟩ := hrel
    have Inv := Lib.hid hinv
    obtain ⟨s, hs, hr, hb⟩ : ∃ s, s.length = k ∧ Row wr w.heap.size .u32 117 (s ++ List.replicate (l.length - k) 0) ∧ Below w.heap.size w wr := by
      obtain ⟨s, hs, _, _, hr, hb⟩ := hinv
      exact ⟨s, hs, hr, hb⟩
    clear hinv
    have Hs := Lib.hid hs; clear hs
    have Hr := Lib.hid hr; clear hr
    by_cases hlt : k < l.length
    · obtain ⟨bx, px, rfl, _, hcx'⟩ := Hra.out.at' hb k hlt
      have hx9 := Hca.out.1.get k hlt
      have HX : Hid (l[k]?.getD 0 = l[k]) := by show _ = _; rw [List.getElem?_eq_getElem hlt]; rfl
      generalize l[k] = x at *
      have hfr := Hr.out.free k
      have hcl := Hr.out.cell k (by simp [Hs.out]; omega)
      generalize (s ++ List.replicate (l.length - k) 0)[k]'_ = old at hcl
      obtain ⟨fx1, fx2⟩ := fmul_bound f x hf.1 hf.2 hx9
      by_cases hlm' : k < m.length
      · obtain ⟨by', py, rfl, _, hcy'⟩ := Hrb.out.at' hb k hlm'
        have hy9 := Hcb.out.1.get k hlm'
        have HY : Hid (m[k]?.getD 0 = m[k]) := by show _ = _; rw [List.getElem?_eq_getElem hlm']; rfl
        generalize m[k] = y at *
        obtain ⟨gy1, gy2⟩ := fmul_bound g y hg.1 hg.2 hy9
        obtain ⟨d1, d2, d3⟩ := tdm (f * (x : Int) + c + g * (y : Int))
        generalize ht : (f * (x : Int) + c + g * (y : Int)).tdiv 1000000000 = t at *
        generalize hr : (f * (x : Int) + c + g * (y : Int)).tmod 1000000000 = r at *
        have D1 := Lib.hid d1; clear d1
        by_cases hneg : r < 0
        · obtain ⟨d, hd⟩ : ∃ d : Nat, (d : Int) = r + 1000000000 := ⟨(r + 1000000000).toNat, by omega⟩
          have Hst := Lib.hid (Inv.out.step (Nat.le_refl _) hlt x y d (t - 1) HX.out HY.out (by have := D1.out; omega) (by omega))
          have ht1 : -2000000005 ≤ t ∧ t ≤ 2000000005 := by have := D1.out; omega
          have Hd := Lib.hid hd; clear hd
          go_wp2
          go_roundw
          case rel => exact ⟨k + 1, t - 1, hlt, by go_num, rfl, by omega, by omega, by rw [← Hd.out]; exact Hst.out⟩
          case measure => simp [intOf] <;> omega
        · obtain ⟨d, hd⟩ : ∃ d : Nat, (d : Int) = r := ⟨r.toNat, by omega⟩
          have Hst := Lib.hid (Inv.out.step (Nat.le_refl _) hlt x y d t HX.out HY.out (by have := D1.out; omega) (by omega))
          have ht1 : -2000000005 ≤ t ∧ t ≤ 2000000005 := by have := D1.out; omega
          have hneg' : 0 ≤ r := by omega
          have Hd := Lib.hid hd; clear hd
          go_wp2
          go_roundw
          case rel => exact ⟨k + 1, t, hlt, by go_num, rfl, by omega, by omega, by rw [← Hd.out]; exact Hst.out⟩
          case measure => simp [intOf] <;> omega
      · have HY : Hid (m[k]?.getD 0 = 0) := by show _ = _; rw [List.getElem?_eq_none (by omega)]; rfl
        obtain ⟨d1, d2, d3⟩ := tdm (f * (x : Int) + c)
        generalize ht : (f * (x : Int) + c).tdiv 1000000000 = t at *
        generalize hr : (f * (x : Int) + c).tmod 1000000000 = r at *
        have D1 := Lib.hid d1; clear d1
        by_cases hneg : r < 0
        · obtain ⟨d, hd⟩ : ∃ d : Nat, (d : Int) = r + 1000000000 := ⟨(r + 1000000000).toNat, by omega⟩
          have Hst := Lib.hid (Inv.out.step (Nat.le_refl _) hlt x 0 d (t - 1) HX.out HY.out (by have := D1.out; omega) (by omega))
          have ht1 : -2000000005 ≤ t ∧ t ≤ 2000000005 := by have := D1.out; omega
          have Hd := Lib.hid hd; clear hd
          go_wp2
          go_roundw
          case rel => exact ⟨k + 1, t - 1, hlt, by go_num, rfl, by omega, by omega, by rw [← Hd.out]; exact Hst.out⟩
          case measure => simp [intOf] <;> omega
        · obtain ⟨d, hd⟩ : ∃ d : Nat, (d : Int) = r := ⟨r.toNat, by omega⟩
          have Hst := Lib.hid (Inv.out.step (Nat.le_refl _) hlt x 0 d t HX.out HY.out (by have := D1.out; omega) (by omega))
          have ht1 : -2000000005 ≤ t ∧ t ≤ 2000000005 := by have := D1.out; omega
          have hneg' : 0 ≤ r := by omega
          have Hd := Lib.hid hd; clear hd
          go_wp2
          go_roundw
          case rel => exact ⟨k + 1, t, hlt, by go_num, rfl, by omega, by omega, by rw [← Hd.out]; exact Hst.out⟩
          case measure => simp [intOf] <;> omega
    · obtain ⟨s', hs', hd', hv', hb'⟩ := Inv.out.rep (by omega) hlm T HT.out HT2.out
      have Hv := Lib.hid hv'; clear hv'
      clear Inv Hr Hs
      go_wp2_with (go_at_call 130; refine (trimmed_n _ s' _ _ (by omega) _ hs').mono ?_; rintro e w1 ⟨v, rfl, hv1, hb1⟩)
      go_ret
      exact ⟨v, rfl, ⟨_, hv1, canon_trim hd', by rw [val_trim]; exact Hv.out⟩, hb'.trans (hb1.mono hb'.size)⟩
end Go.Proofs.Ytlkdahgfnfdakaa
