import Derived.Test.YtlkdahgfnfdakaaSub
import Derived.Deep.QuietTactic
import Derived.BigQuiet
import Derived.Deep.Cut
namespace Go.Proofs.Ytlkdahgfnfdakaa
open Go.RowKit WN

/-- the numbers of a guess: P is what is divided, v the divisor; both by their highest digits -/
structure GM (P v top high low p2 : Nat) : Prop where
  M : ∃ M pr vr, 0 < M ∧ P = (top * 1000000000 + p2) * M + pr ∧ pr < M ∧ v = (high * 1000000000 + low) * M + vr ∧ vr < M
  hp2 : p2 < 1000000000
  hlow : low < 1000000000
  hhigh : 0 < high
  hh9 : high < 1000000000
  hlt : P < v * 1000000000

theorem GM.vpos {P v top high low p2 : Nat} (h : GM P v top high low p2) : 0 < v := by
  have := h.hlt
  rcases Nat.eq_zero_or_pos v with h0 | h0
  · subst h0; omega
  · exact h0

theorem GM.top_lt {P v top high low p2 : Nat} (h : GM P v top high low p2) : top < (high + 1) * 1000000000 := by
  obtain ⟨M, pr, vr, hM, hP, hpr, hv, hvr⟩ := h.M
  have h1 := h.hlt
  have h2 := h.hlow
  have e1 : top * 1000000000 * M ≤ P := by rw [hP, Nat.add_mul]; omega
  have e2 : v < (high + 1) * 1000000000 * M := by
    rw [hv]
    have : (high * 1000000000 + low + 1) * M ≤ (high + 1) * 1000000000 * M := Nat.mul_le_mul_right M (by omega)
    rw [Nat.add_mul _ 1, Nat.one_mul] at this
    omega
  have e3 : top * 1000000000 * M < (high + 1) * 1000000000 * M * 1000000000 := by omega
  rw [Nat.mul_right_comm top] at e3
  have e5 : top * M < (high + 1) * 1000000000 * M := Nat.lt_of_mul_lt_mul_right e3
  exact Nat.lt_of_mul_lt_mul_right e5

theorem GM.start {P v top high low p2 : Nat} (h : GM P v top high low p2) : P / v ≤ top / high ∧ top / high ≤ 2000000000 := by
  have hv := h.vpos
  have ht := h.top_lt
  obtain ⟨M, pr, vr, hM, hP, hpr, hvv, hvr⟩ := h.M
  have hp2 := h.hp2
  constructor
  · apply Nat.le_of_lt_succ
    rw [Nat.div_lt_iff_lt_mul hv, Nat.succ_eq_add_one]
    have e1 : top + 1 ≤ (top / high + 1) * high := by
      have := Nat.div_add_mod top high
      have h3 := Nat.mod_lt top h.hhigh
      rw [Nat.add_mul, Nat.mul_comm]; omega
    have e2 : (top + 1) * (1000000000 * M) ≤ (top / high + 1) * high * (1000000000 * M) := Nat.mul_le_mul_right _ e1
    have e3 : (top / high + 1) * (high * 1000000000 * M) ≤ (top / high + 1) * v := Nat.mul_le_mul_left _ (by rw [hvv, Nat.add_mul]; omega)
    have e4 : P < (top + 1) * (1000000000 * M) := by
      rw [hP]
      have : (top * 1000000000 + p2 + 1) * M ≤ ((top + 1) * 1000000000) * M := Nat.mul_le_mul_right M (by omega)
      rw [Nat.mul_assoc (top + 1)] at this
      rw [Nat.add_mul _ 1, Nat.one_mul] at this
      omega
    rw [Nat.mul_assoc (top / high + 1) high, ← Nat.mul_assoc high] at e2
    omega
  · have h1 := h.hhigh
    have : top / high < 2000000001 := by
      rw [Nat.div_lt_iff_lt_mul h1]
      have : (high + 1) * 1000000000 ≤ 2000000001 * high := by omega
      omega
    omega

theorem GM.down {P v top high low p2 word rest : Nat} (h : GM P v top high low p2) (hw : word * high + rest = top) (hq : P / v ≤ word)
    (hc : 1000000000 ≤ word ∨ rest * 1000000000 + p2 < word * low) : P / v ≤ word - 1 ∧ 1 ≤ word := by
  have hv := h.vpos
  obtain ⟨M, pr, vr, hM, hP, hpr, hvv, hvr⟩ := h.M
  rcases hc with hc | hc
  · have : P / v < 1000000000 := by rw [Nat.div_lt_iff_lt_mul hv, Nat.mul_comm]; exact h.hlt
    generalize P / v = q at *
    omega
  · have h1 : P < word * v := by
      have e1 : word * ((high * 1000000000 + low) * M) ≤ word * v := Nat.mul_le_mul_left _ (by rw [hvv]; omega)
      have e2 : top * 1000000000 + p2 + 1 ≤ word * (high * 1000000000 + low) := by
        rw [Nat.mul_add, ← Nat.mul_assoc, ← hw, Nat.add_mul]; omega
      have e3 := Nat.mul_le_mul_right M e2
      rw [Nat.add_mul _ 1, Nat.one_mul, Nat.mul_assoc word] at e3
      omega
    have h2 : P / v < word := by rw [Nat.div_lt_iff_lt_mul hv]; exact h1
    clear h1 hc
    generalize P / v = q at *
    omega

theorem GM.stop {P v top high low p2 word rest : Nat} (h : GM P v top high low p2) (hw : word * high + rest = top) (hw9 : word < 1000000000)
    (hc : 1000000000 ≤ rest ∨ word * low ≤ rest * 1000000000 + p2) : word ≤ P / v + 1 := by
  have hv := h.vpos
  obtain ⟨M, pr, vr, hM, hP, hpr, hvv, hvr⟩ := h.M
  have hlow := h.hlow
  have hh := h.hhigh
  have e1 : word * (high * 1000000000 + low) ≤ top * 1000000000 + p2 := by
    rw [Nat.mul_add, ← Nat.mul_assoc, ← hw, Nat.add_mul]
    rcases hc with hc | hc
    · have : word * low ≤ 1000000000 * 1000000000 := Nat.mul_le_mul (by omega) (by omega)
      omega
    · omega
  rcases Nat.eq_zero_or_pos word with h0 | h0
  · rw [h0]; exact Nat.zero_le _
  obtain ⟨u, rfl⟩ : ∃ u, word = u + 1 := ⟨word - 1, by omega⟩
  have : u ≤ P / v := by
    rw [Nat.le_div_iff_mul_le hv]
    have e2 : u * v ≤ u * ((high * 1000000000 + low + 1) * M) := Nat.mul_le_mul_left _ (by rw [hvv, Nat.add_mul _ 1]; omega)
    have e3 : u * (high * 1000000000 + low + 1) ≤ top * 1000000000 + p2 := by
      rw [Nat.mul_add u _ 1, Nat.mul_one]
      rw [Nat.add_mul u 1] at e1
      generalize u * (high * 1000000000 + low) = z at *
      omega
    have e4 := Nat.mul_le_mul_right M e3
    rw [Nat.mul_assoc] at e4
    omega
  exact Nat.add_le_add_right this 1

theorem drewN_drewN (w : World) (a b : Nat) : (w.drewN a).drewN b = w.drewN (a + b) := by simp [World.drewN, Nat.add_assoc]

def GuessOut (P v : Nat) (w : World) (e : Ending) (w' : World) : Prop := ∃ q q' : Nat, e = .returned (.int .u32 (q : Nat)) ∧ q < 1000000000 ∧ P / v ≤ q ∧ q ≤ P / v + 1 ∧ w' = w.drewN q'

set_option maxHeartbeats 2000000 in
set_option maxRecDepth 20000 in
theorem guess_core (P v pn p1 p2 high low : Nat) (gm : GM P v (pn * 1000000000 + p1) high low p2) (hpn : pn < 1000000000) (hp1 : p1 < 1000000000)
    (g o m cap bb bo n cb : Nat) (hm : m = n + 1) (hn2 : 2 ≤ n) (hn : n ≤ 100000000000) (w : World)
    (c0 : w.cell? ⟨g, o + n, none⟩ = some (.int .u32 (pn : Nat))) (c1 : w.cell? ⟨g, o + (n - 1), none⟩ = some (.int .u32 (p1 : Nat))) (c2 : w.cell? ⟨g, o + (n - 2), none⟩ = some (.int .u32 (p2 : Nat)))
    (b1 : w.cell? ⟨bb, bo + (n - 1), none⟩ = some (.int .u32 (high : Nat))) (b2 : w.cell? ⟨bb, bo + (n - 2), none⟩ = some (.int .u32 (low : Nat))) :
    Calls Try.prog 137 #[.slice (some ⟨g, o, none⟩) m cap, .slice (some ⟨bb, bo, none⟩) n cb] w (GuessOut P v w) := by
  have Gm := Lib.hid gm
  have hh0 := gm.hhigh
  have hh9 := gm.hh9
  have hl9 := gm.hlow
  have hp29 := gm.hp2
  clear gm
  have hnm : n < m := by omega
  have hmm : m ≤ 200000000000 := by omega
  have Hm := Lib.hid hm; clear hm
  go_enter Try.func137, Try.ntmps137
  go_wp2
  have hn0 : (0 : Int) ≤ n := by omega
  have hni : (n : Int) < m := by omega
  have hw1 : IntKind.i64.wrap ((n : Int) - 1) = (n : Int) - 1 := IntWalk.i64_in _ ⟨by omega, by omega⟩
  have hw2 : IntKind.i64.wrap ((n : Int) - 2) = (n : Int) - 2 := IntWalk.i64_in _ ⟨by omega, by omega⟩
  go_quiet (fail)
  go_wp2
  have hw3 : IntKind.u64.wrap (high : Int) = high := IntWalk.u64_in _ ⟨by omega, by omega⟩
  go_quiet (fail)
  go_wp2
  have hT0 : 0 ≤ (pn : Int) * 1000000000 + p1 := by omega
  have hT9 : (pn : Int) * 1000000000 + p1 ≤ 999999999999999999 := by omega
  have HT : Hid ((pn : Int) * 1000000000 + p1 = ((pn * 1000000000 + p1 : Nat) : Int)) := by show _ = _; omega
  rw [HT.out] at hT0 hT9 ⊢
  have Ht9 : pn * 1000000000 + p1 ≤ 999999999999999999 := by omega
  generalize pn * 1000000000 + p1 = top at *
  clear HT
  have hq1 : Hid (IntKind.u64.wrap ((top : Int) / (high : Int)) = ((top / high : Nat) : Int)) := by
    show _ = _
    rw [← Int.natCast_ediv, IntWalk.u64_in _ ⟨Int.natCast_nonneg _, by have := Nat.div_le_self top high; omega⟩]
  have hq2 : Hid ((top : Int) % (high : Int) = ((top % high : Nat) : Int)) := by
    show _ = _
    rw [Int.natCast_emod]
  have hhz : ((high : Int) == 0) = false := by rw [beq_eq_false_iff_ne]; omega
  have hhn : ¬ high = 0 := by omega
  clear hT0 hT9
  go_quiet (fail)
  go_wp2
  rw [hq1.out, hq2.out]
  obtain ⟨hs1, hs2⟩ := Gm.out.start
  have hdm : Hid (top / high * high + top % high = top) := by show _ = _; rw [Nat.mul_comm]; exact Nat.div_add_mod top high
  clear hq1 hq2
  generalize top / high = q0 at *
  generalize top % high = r0 at *
  go_loopw [9, 10] (fun vw vr wr => ∃ word rest q : Nat, vw = .int .u64 word ∧ vr = .int .u64 rest ∧ Hid (word * high + rest = top) ∧ Hid (P / v ≤ word) ∧ word ≤ 2000000000 ∧ wr = w.drewN q) (fun vw _ _ => (intOf vw).toNat)
  case atStart => exact ⟨q0, r0, _, rfl, rfl, hdm, hs1, hs2, by rw [drewN_drewN, drewN_drewN]⟩
  case round =>
    obtain ⟨word, rest, q, rfl, rfl, hwr, hPv, hw2, rfl⟩ := hrel
    have hrt : (rest : Int) ≤ 999999999999999999 := by
      have := hwr.out
      have : rest ≤ top := by omega
      omega
    have hcast := Lib.hid (Int.natCast_mul word low)
    clear hs1 hs2 hdm Ht9 hw1 hhz hhn hw3 c0 c1 b1 b2
    by_cases hA : 1000000000 ≤ word
    · obtain ⟨h1, h2⟩ := Gm.out.down hwr.out hPv.out (.inl hA)
      have H1 := Lib.hid h1; clear h1
      have hA' : (1000000000 : Int) ≤ word := by omega
      go_wp2
      go_roundw
      case rel => exact ⟨word - 1, rest + high, q, u64_eq (by omega), by go_num, by
        have := hwr.out
        show _ = _
        rw [Nat.sub_mul, Nat.one_mul]
        have : high ≤ word * high := Nat.le_mul_of_pos_left _ h2
        omega, H1.out, by omega, rfl⟩
      case measure => simp [intOf]; omega
    · have hpr := mul_bound word low (by omega) hl9
      have hp1' : (word : Int) * (low : Int) ≤ 999999998000000001 := by rw [← Int.natCast_mul]; omega
      have hp0' : 0 ≤ (word : Int) * (low : Int) := by rw [← Int.natCast_mul]; omega
      have hwm : IntKind.u64.wrap ((word : Int) * (low : Int)) = (word : Int) * (low : Int) := IntWalk.u64_in _ ⟨hp0', by omega⟩
      clear hpr hp1' hp0'
      by_cases hB : rest < 1000000000
      · by_cases hC : rest * 1000000000 + p2 < word * low
        · obtain ⟨h1, h2⟩ := Gm.out.down hwr.out hPv.out (.inr hC)
          have H1 := Lib.hid h1; clear h1
          have hC' : (rest : Int) * 1000000000 + (p2 : Int) < (word : Int) * (low : Int) := by have := hcast.out; omega
          have hA' : (word : Int) < 1000000000 := by omega
          have hB' : (rest : Int) < 1000000000 := by omega
          clear hC hA hB
          go_wp2
          go_roundw
          case rel => exact ⟨word - 1, rest + high, q, u64_eq (by omega), by go_num, by
            have := hwr.out
            show _ = _
            rw [Nat.sub_mul, Nat.one_mul]
            have : high ≤ word * high := Nat.le_mul_of_pos_left _ h2
            omega, H1.out, by omega, rfl⟩
          case measure => simp [intOf]; omega
        · have H1 := Lib.hid (Gm.out.stop hwr.out (by omega) (.inr (by omega)))
          have hC' : (word : Int) * (low : Int) ≤ (rest : Int) * 1000000000 + (p2 : Int) := by have := hcast.out; omega
          have hA' : (word : Int) < 1000000000 := by omega
          have hB' : (rest : Int) < 1000000000 := by omega
          have hC2 : decide ((rest : Int) * 1000000000 + (p2 : Int) < (word : Int) * (low : Int)) = false := by simp; omega
          have hC3 : ¬ ((rest : Int) * 1000000000 + (p2 : Int) < (word : Int) * (low : Int)) := by omega
          clear hC hA hB
          have hA2 : decide ((1000000000 : Int) ≤ (word : Int)) = false := by simp; omega
          clear hC3 hC'
          go_wp2
          go_ret
          exact ⟨word, q, rfl, by omega, hPv.out, H1.out, rfl⟩
      · have H1 := Lib.hid (Gm.out.stop hwr.out (by omega) (.inl (by omega)))
        have hA' : (word : Int) < 1000000000 := by omega
        have hA2 : decide ((1000000000 : Int) ≤ (word : Int)) = false := by simp; omega
        have hB2 : decide ((rest : Int) < 1000000000) = false := by simp; omega
        have hB3 : ¬ (rest : Int) < 1000000000 := by omega
        have hB' : (1000000000 : Int) ≤ (rest : Int) := by omega
        clear hA hB hw2
        go_wp2
        go_ret
        exact ⟨word, q, rfl, by omega, hPv.out, H1.out, rfl⟩
end Go.Proofs.Ytlkdahgfnfdakaa
