/- The numbers of the program as rational numbers. Plain arithmetic. Texts and the rational numbers that they are. -/
import Derived.Test.YtlkdahgfnfdakaaFaceD
import Derived.Test.YtlkdahgfnfdakaaAlive
namespace Go.Proofs.Ytlkdahgfnfdakaa

def sgi (s : Bool) (n : Nat) : Int := if s then -(n : Int) else n
def Can (q : Q3) : Prop := 0 < q.2.2 ∧ Nat.Coprime q.2.1 q.2.2 ∧ (q.1 = true → q.2.1 ≠ 0)
def toR (q : Q3) : Rat := mkRat (sgi q.1 q.2.1) q.2.2

theorem sgi_natAbs (s : Bool) (n : Nat) : (sgi s n).natAbs = n := by unfold sgi; cases s <;> simp
theorem toR_num {q : Q3} (h : Can q) : (toR q).num = sgi q.1 q.2.1 := by
  unfold toR
  rw [Rat.num_mkRat, if_neg (by have := h.1; omega), sgi_natAbs, Nat.gcd_comm, h.2.1.gcd_eq_one]
  simp
theorem toR_den {q : Q3} (h : Can q) : (toR q).den = q.2.2 := by
  unfold toR
  rw [Rat.den_mkRat, if_neg (by have := h.1; omega), sgi_natAbs, Nat.gcd_comm, h.2.1.gcd_eq_one]
  simp
theorem sgi_inj {s t : Bool} {n m : Nat} (hs : s = true → n ≠ 0) (ht : t = true → m ≠ 0) (h : sgi s n = sgi t m) : s = t ∧ n = m := by
  unfold sgi at h
  cases s <;> cases t <;> simp at h ⊢
  · omega
  · have := ht rfl; omega
  · have := hs rfl; omega
  · omega
theorem toR_inj {p q : Q3} (hp : Can p) (hq : Can q) (h : toR p = toR q) : p = q := by
  have h1 : sgi p.1 p.2.1 = sgi q.1 q.2.1 := by rw [← toR_num hp, ← toR_num hq, h]
  have h2 : p.2.2 = q.2.2 := by rw [← toR_den hp, ← toR_den hq, h]
  obtain ⟨h3, h4⟩ := sgi_inj hp.2.2 hq.2.2 h1
  obtain ⟨a, b, c⟩ := p
  obtain ⟨a', b', c'⟩ := q
  simp only at h2 h3 h4
  subst h2 h3 h4
  rfl
theorem readQ_can {l : List UInt8} {q : Q3} (h : readQ l = some q) : Can q := by
  obtain ⟨_, _, h3, h4, h5, _⟩ := readQ_q h
  exact ⟨h3, h4, h5⟩

theorem sgi_dec (s : Bool) (X : Nat) : sgi (s && decide (X ≠ 0)) X = sgi s X := by
  unfold sgi
  by_cases h : X = 0
  · subst h; cases s <;> simp
  · cases s <;> simp [h]
theorem sgi_mul (s : Bool) (n m : Nat) : sgi s (n * m) = sgi s n * m := by
  unfold sgi; cases s <;> simp [Int.neg_mul]
theorem add_int (s t : Bool) (X Y : Nat) : sgi (addS s X t Y) (addN s X t Y) = sgi s X + sgi t Y := by
  by_cases h : s = t
  · subst h
    rw [add_same.1, add_same.2]
    unfold sgi; cases s <;> simp
    omega
  · rw [(add_diff h).1, (add_diff h).2]
    rcases Nat.lt_or_ge X Y with h1 | h1
    · rw [if_pos h1, if_pos h1]
      unfold sgi; cases s <;> cases t <;> simp at h ⊢ <;> omega
    · rw [if_neg (by omega), if_neg (by omega)]
      unfold sgi; cases s <;> cases t <;> simp at h ⊢ <;> omega
theorem addN_dvd {e : Nat} {s t : Bool} {X Y : Nat} (h : e ∣ addN s X t Y) (hY : e ∣ Y) : e ∣ X := by
  unfold addN at h
  split at h
  · exact (Nat.dvd_add_iff_left hY).2 h
  · split at h
    · rename_i h1
      have : X = Y - (Y - X) := by omega
      rw [this]; exact Nat.dvd_sub hY h
    · rename_i h1
      have : X = (X - Y) + Y := by omega
      rw [this]; exact Nat.dvd_add h hY
theorem addN_dvd' {e : Nat} {s t : Bool} {X Y : Nat} (h : e ∣ addN s X t Y) (hX : e ∣ X) : e ∣ Y := by
  unfold addN at h
  split at h
  · exact (Nat.dvd_add_iff_right hX).2 h
  · split at h
    · rename_i h1
      have : Y = (Y - X) + X := by omega
      rw [this]; exact Nat.dvd_add h hX
    · rename_i h1
      have : Y = X - (X - Y) := by omega
      rw [this]; exact Nat.dvd_sub hX h

theorem addQ_spec {p q : Q3} (hp : Can p) (hq : Can q) : Can (addQ p q) ∧ toR (addQ p q) = toR p + toR q := by
  obtain ⟨s, n, d⟩ := p
  obtain ⟨t, m, c⟩ := q
  obtain ⟨d0, hnd, hs⟩ := hp
  obtain ⟨c0, hmc, ht⟩ := hq
  simp only at d0 hnd hs c0 hmc ht
  have hgp : 0 < Nat.gcd d c := Nat.gcd_pos_of_pos_left _ d0
  have hdd := Nat.div_mul_cancel (Nat.gcd_dvd_left d c)
  have hcc := Nat.div_mul_cancel (Nat.gcd_dvd_right d c)
  have hco := Nat.coprime_div_gcd_div_gcd hgp
  have e1 := add_int (s && decide (plusX n d c ≠ 0)) (t && decide (plusY m d c ≠ 0)) (plusX n d c) (plusY m d c)
  rw [sgi_dec, sgi_dec] at e1
  have hdN : ∀ e, e ∣ plusN s n d t m c → e ∣ plusY m d c → e ∣ plusX n d c := fun e h => addN_dvd h
  have hdN' : ∀ e, e ∣ plusN s n d t m c → e ∣ plusX n d c → e ∣ plusY m d c := fun e h => addN_dvd' h
  change sgi (plusS s n d t m c) (plusN s n d t m c) = _ at e1
  unfold addQ sumS sumN sumD
  simp only
  generalize plusS s n d t m c = S at *
  generalize plusN s n d t m c = N at *
  unfold plusX plusY at *
  rw [sgi_mul, sgi_mul] at e1
  generalize hg : Nat.gcd d c = g at *
  generalize hd' : d / g = d' at *
  generalize hc' : c / g = c' at *
  have d'0 : 0 < d' := by
    rcases Nat.eq_zero_or_pos d' with h | h
    · subst h; omega
    · exact h
  have c'0 : 0 < c' := by
    rcases Nat.eq_zero_or_pos c' with h | h
    · subst h; omega
    · exact h
  have key : toR (s, n, d) + toR (t, m, c) = mkRat (sgi s n * c + sgi t m * d) (d * c) :=
    Rat.mkRat_add_mkRat _ _ (Nat.ne_of_gt d0) (Nat.ne_of_gt c0)
  rw [key]
  have cop : ∀ N', N' ∣ N → Nat.Coprime N' d' ∧ Nat.Coprime N' c' := fun N' hN' => by
    constructor
    · have a1 : Nat.gcd N' d' ∣ n * c' := hdN _ (Nat.dvd_trans (Nat.gcd_dvd_left _ _) hN') (Nat.dvd_trans (Nat.gcd_dvd_right _ _) (Nat.dvd_mul_left _ _))
      have a2 : Nat.gcd N' d' ∣ n := (hco.coprime_dvd_left (Nat.gcd_dvd_right _ _)).dvd_of_dvd_mul_right a1
      have a3 : Nat.gcd N' d' ∣ d := by rw [← hdd]; exact Nat.dvd_trans (Nat.gcd_dvd_right _ _) (Nat.dvd_mul_right _ _)
      have a4 := Nat.dvd_gcd a2 a3
      rw [hnd.gcd_eq_one] at a4
      exact Nat.dvd_one.1 a4
    · have a1 : Nat.gcd N' c' ∣ m * d' := hdN' _ (Nat.dvd_trans (Nat.gcd_dvd_left _ _) hN') (Nat.dvd_trans (Nat.gcd_dvd_right _ _) (Nat.dvd_mul_left _ _))
      have a2 : Nat.gcd N' c' ∣ m := (hco.symm.coprime_dvd_left (Nat.gcd_dvd_right _ _)).dvd_of_dvd_mul_right a1
      have a3 : Nat.gcd N' c' ∣ c := by rw [← hcc]; exact Nat.dvd_trans (Nat.gcd_dvd_right _ _) (Nat.dvd_mul_right _ _)
      have a4 := Nat.dvd_gcd a2 a3
      rw [hmc.gcd_eq_one] at a4
      exact Nat.dvd_one.1 a4
  by_cases hN0 : N = 0
  · subst hN0
    have e2 : sgi s n * (c : Int) + sgi t m * d = 0 := by
      have e3 : sgi s n * (c' : Int) + sgi t m * d' = 0 := by rw [← e1]; unfold sgi; cases S <;> simp
      rw [← hdd, ← hcc]
      push_cast
      grind
    rw [e2, Rat.zero_mkRat]
    simp only [Nat.zero_div, ne_eq, not_true_eq_false, decide_false, Bool.and_false, if_true]
    exact ⟨⟨by show 0 < 1; omega, Nat.coprime_one_right _, fun h => by simp at h⟩, by unfold toR; rw [show sgi false 0 = 0 from rfl, Rat.zero_mkRat]⟩
  · have hh0 : 0 < Nat.gcd N g := Nat.gcd_pos_of_pos_right _ hgp
    have hNN := Nat.div_mul_cancel (Nat.gcd_dvd_left N g)
    have hgg := Nat.div_mul_cancel (Nat.gcd_dvd_right N g)
    have hco2 := Nat.coprime_div_gcd_div_gcd hh0
    obtain ⟨k1, k2⟩ := cop (N / Nat.gcd N g) (Nat.div_dvd_of_dvd (Nat.gcd_dvd_left N g))
    rw [if_neg hN0]
    simp only [ne_eq, hN0, not_false_eq_true, decide_true, Bool.and_true]
    generalize Nat.gcd N g = h at *
    generalize N / h = N' at *
    generalize g / h = g' at *
    have g'0 : 0 < g' := by
      rcases Nat.eq_zero_or_pos g' with h | h
      · subst h; omega
      · exact h
    have N'0 : N' ≠ 0 := by rintro rfl; omega
    have hD : 0 < g' * d' * c' := Nat.mul_pos (Nat.mul_pos g'0 d'0) c'0
    refine ⟨⟨hD, (hco2.mul_right k1).mul_right k2, fun _ => N'0⟩, ?_⟩
    show mkRat (sgi S N') (g' * d' * c') = _
    rw [Rat.mkRat_eq_iff (Nat.ne_of_gt hD) (Nat.ne_of_gt (Nat.mul_pos d0 c0))]
    have e4 : sgi S N = sgi S N' * h := by rw [← hNN, sgi_mul]
    rw [e4] at e1
    rw [← hdd, ← hcc, ← hgg]
    push_cast
    grind

theorem sgi_times (s t : Bool) (n m : Nat) (x y : Bool) (hx : n ≠ 0 → x = true) (hy : m ≠ 0 → y = true) : sgi (((s && x) != (t && y)) && decide (n * m ≠ 0)) (n * m) = sgi s n * sgi t m := by
  by_cases hn : n = 0
  · subst hn; unfold sgi; cases s <;> cases t <;> simp
  · by_cases hm : m = 0
    · subst hm; unfold sgi; cases s <;> cases t <;> simp
    · rw [hx hn, hy hm]
      have : decide (n * m ≠ 0) = true := decide_eq_true (Nat.mul_ne_zero hn hm)
      rw [this]
      unfold sgi; cases s <;> cases t <;> simp [Int.neg_mul, Int.mul_neg]
theorem mulQ_spec {p q : Q3} (hp : Can p) (hq : Can q) : Can (mulQ p q) ∧ toR (mulQ p q) = toR p * toR q := by
  obtain ⟨s, n, d⟩ := p
  obtain ⟨t, m, c⟩ := q
  obtain ⟨d0, hnd, hs⟩ := hp
  obtain ⟨c0, hmc, ht⟩ := hq
  simp only at d0 hnd hs c0 hmc ht
  have h10 : 0 < Nat.gcd n c := Nat.gcd_pos_of_pos_right _ c0
  have h20 : 0 < Nat.gcd m d := Nat.gcd_pos_of_pos_right _ d0
  have hn := Nat.div_mul_cancel (Nat.gcd_dvd_left n c)
  have hc := Nat.div_mul_cancel (Nat.gcd_dvd_right n c)
  have hm := Nat.div_mul_cancel (Nat.gcd_dvd_left m d)
  have hd := Nat.div_mul_cancel (Nat.gcd_dvd_right m d)
  have k1 := Nat.coprime_div_gcd_div_gcd h10
  have k2 := Nat.coprime_div_gcd_div_gcd h20
  have k3 : Nat.Coprime (n / Nat.gcd n c) (d / Nat.gcd m d) := (hnd.coprime_div_left (Nat.gcd_dvd_left n c)).coprime_div_right (Nat.gcd_dvd_right m d)
  have k4 : Nat.Coprime (m / Nat.gcd m d) (c / Nat.gcd n c) := (hmc.coprime_div_left (Nat.gcd_dvd_left m d)).coprime_div_right (Nat.gcd_dvd_right n c)
  have key : toR (s, n, d) * toR (t, m, c) = mkRat (sgi s n * sgi t m) (d * c) := Rat.mkRat_mul_mkRat _ _ _ _
  rw [key]
  unfold mulQ
  simp only
  generalize Nat.gcd n c = g1 at *
  generalize Nat.gcd m d = g2 at *
  generalize n / g1 = n' at *
  generalize c / g1 = c' at *
  generalize m / g2 = m' at *
  generalize d / g2 = d' at *
  have c'0 : 0 < c' := by
    rcases Nat.eq_zero_or_pos c' with h | h
    · subst h; omega
    · exact h
  have d'0 : 0 < d' := by
    rcases Nat.eq_zero_or_pos d' with h | h
    · subst h; omega
    · exact h
  have hD : 0 < c' * d' := Nat.mul_pos c'0 d'0
  have hsg := sgi_times s t n' m' (decide (n ≠ 0)) (decide (m ≠ 0)) (fun h => by
    have : n ≠ 0 := by rintro rfl; rcases Nat.mul_eq_zero.1 hn with h' | h' <;> omega
    simp [this]) (fun h => by
    have : m ≠ 0 := by rintro rfl; rcases Nat.mul_eq_zero.1 hm with h' | h' <;> omega
    simp [this])
  refine ⟨⟨hD, (k1.mul_right k3).mul_left (k4.mul_right k2), fun h => ?_⟩, ?_⟩
  · simp only [Bool.and_eq_true, decide_eq_true_eq] at h
    exact h.2
  · show mkRat (sgi _ (n' * m')) (c' * d') = _
    rw [hsg, Rat.mkRat_eq_iff (Nat.ne_of_gt hD) (Nat.ne_of_gt (Nat.mul_pos d0 c0))]
    have e1 : sgi s n = sgi s n' * g1 := by rw [← hn, sgi_mul]
    have e2 : sgi t m = sgi t m' * g2 := by rw [← hm, sgi_mul]
    rw [e1, e2, ← hc, ← hd]
    push_cast
    grind
theorem negQ_spec {q : Q3} (hq : Can q) : Can (negQ q) ∧ toR (negQ q) = -toR q := by
  obtain ⟨t, m, c⟩ := q
  obtain ⟨c0, hmc, ht⟩ := hq
  simp only at c0 hmc ht
  unfold negQ
  refine ⟨⟨c0, hmc, fun h => ?_⟩, ?_⟩
  · simp only [Bool.and_eq_true, decide_eq_true_eq] at h
    exact h.2
  · show mkRat (sgi _ m) c = -mkRat (sgi t m) c
    rw [sgi_dec, Rat.neg_mkRat]
    congr 1
    unfold sgi; cases t <;> simp
theorem subQ_spec {p q : Q3} (hp : Can p) (hq : Can q) : Can (subQ p q) ∧ toR (subQ p q) = toR p - toR q := by
  obtain ⟨h1, h2⟩ := negQ_spec hq
  obtain ⟨h3, h4⟩ := addQ_spec hp h1
  exact ⟨h3, by unfold subQ; rw [h4, h2, Rat.sub_eq_add_neg]⟩
theorem invQ_spec {q : Q3} (hq : Can q) (h0 : q.2.1 ≠ 0) : Can (invQ q) ∧ toR (invQ q) = (toR q)⁻¹ := by
  obtain ⟨t, m, c⟩ := q
  obtain ⟨c0, hmc, ht⟩ := hq
  simp only at c0 hmc ht h0
  have m0 : 0 < m := Nat.pos_of_ne_zero h0
  refine ⟨⟨m0, hmc.symm, fun _ => Nat.ne_of_gt c0⟩, ?_⟩
  symm
  apply Rat.inv_eq_of_mul_eq_one
  show mkRat (sgi t m) c * mkRat (sgi t c) m = 1
  rw [Rat.mkRat_mul_mkRat]
  have e : sgi t m * sgi t c = ((c * m : Nat) : Int) := by unfold sgi; cases t <;> simp [Int.neg_mul_neg, Int.mul_comm]
  rw [e]
  have hne : c * m ≠ 0 := Nat.ne_of_gt (Nat.mul_pos c0 m0)
  have : mkRat ((c * m : Nat) : Int) (c * m) = mkRat 1 1 := by
    rw [Rat.mkRat_eq_iff hne (by omega)]; push_cast; grind
  rw [this]; rfl
theorem divQ_spec {p q : Q3} (hp : Can p) (hq : Can q) (h0 : q.2.1 ≠ 0) : Can (divQ p q) ∧ toR (divQ p q) = toR p / toR q := by
  obtain ⟨h1, h2⟩ := invQ_spec hq h0
  obtain ⟨h3, h4⟩ := mulQ_spec hp h1
  exact ⟨h3, by unfold divQ; rw [h4, h2, Rat.div_def]⟩
theorem toR_zero {q : Q3} (hq : Can q) : toR q = 0 ↔ q.2.1 = 0 := by
  unfold toR
  rw [Rat.mkRat_eq_zero (Nat.ne_of_gt hq.1)]
  unfold sgi; split <;> omega
theorem sgn_sign {s : Bool} {n : Nat} : sgn (s && decide (n ≠ 0)) n = (sgi s n).sign := by
  unfold sgn sgi
  by_cases h : n = 0
  · subst h; cases s <;> simp
  · cases s
    · simp [h, Int.sign_eq_one_of_pos (show 0 < (n : Int) by omega)]
    · simp [h, Int.sign_eq_one_of_pos (show 0 < (n : Int) by omega)]
theorem cmpQ_sign (p q : Q3) : cmpQ p q = (sgi p.1 p.2.1 * q.2.2 - sgi q.1 q.2.1 * p.2.2).sign := by
  unfold cmpQ
  rw [sgn_sign, add_int, sgi_dec, sgi_dec, sgi_mul, sgi_mul]
  congr 1
  have : sgi (!q.1) q.2.1 = -sgi q.1 q.2.1 := by unfold sgi; cases q.1 <;> simp
  rw [this, Int.neg_mul]; omega
theorem cmpQ_lt {p q : Q3} (hp : Can p) (hq : Can q) : cmpQ p q < 0 ↔ toR p < toR q := by
  rw [cmpQ_sign, Rat.lt_iff, toR_num hp, toR_num hq, toR_den hp, toR_den hq, Int.sign_neg_iff]
  omega
theorem cmpQ_gt {p q : Q3} (hp : Can p) (hq : Can q) : 0 < cmpQ p q ↔ toR q < toR p := by
  rw [cmpQ_sign, Rat.lt_iff, toR_num hp, toR_num hq, toR_den hp, toR_den hq, Int.sign_pos_iff]
  omega
theorem cmpQ_eq {p q : Q3} (hp : Can p) (hq : Can q) : cmpQ p q = 0 ↔ toR p = toR q := by
  rw [cmpQ_sign, Rat.eq_iff_mul_eq_mul, toR_num hp, toR_num hq, toR_den hp, toR_den hq, Int.sign_eq_zero_iff_zero]
  omega
theorem cmpQ_three (p q : Q3) : cmpQ p q = -1 ∨ cmpQ p q = 0 ∨ cmpQ p q = 1 := by
  rw [cmpQ_sign]
  rcases Int.lt_trichotomy (sgi p.1 p.2.1 * q.2.2 - sgi q.1 q.2.1 * p.2.2) 0 with h | h | h
  · left; exact Int.sign_eq_neg_one_of_neg h
  · right; left; rw [h]; rfl
  · right; right; exact Int.sign_eq_one_of_pos h
end Go.Proofs.Ytlkdahgfnfdakaa

namespace Go.Proofs.Ytlkdahgfnfdakaa

theorem digit_ne {c : UInt8} (h : isD c = true) : (c != 47) = true := by
  rw [bne_iff_ne]
  rintro rfl
  revert h; decide
theorem decT_while (n : Nat) (l : List UInt8) (hl : l.head? = none ∨ l.head? = some 47) : (decT n ++ l).takeWhile (· != 47) = decT n ∧ (decT n ++ l).dropWhile (· != 47) = l := by
  have h := decT_all n
  generalize decT n = m at *
  induction m with
  | nil =>
    cases l with
    | nil => simp
    | cons c l =>
      have : c = 47 := by simpa using hl
      subst this; simp
  | cons c m ih =>
    rw [List.all_cons, Bool.and_eq_true] at h
    have h1 := digit_ne h.1
    have h2 := ih h.2
    simp only [List.cons_append, List.takeWhile_cons, List.dropWhile_cons, h1, if_true]
    exact ⟨by rw [h2.1], h2.2⟩
theorem readR_text {s : Bool} {n d : Nat} (hd : 0 < d) (hg : Nat.Coprime n d) (hs : s = true → n ≠ 0) (h1 : Dig n ≤ 300) (h2 : Dig d ≤ 300) : readR s (decT n ++ (if d = 1 then [] else 47 :: decT d)) = some (s, n, d) := by
  have hw := decT_while n (if d = 1 then [] else 47 :: decT d) (by split <;> simp)
  unfold readR
  rw [hw.1, hw.2, goodD_decT h1, decT_val]
  have e : (!(s && decide (n = 0))) = true := by
    cases s
    · rfl
    · simp [hs rfl]
  rw [e, if_pos (show (true && true) = true from rfl)]
  by_cases h : d = 1
  · rw [if_pos h]; simp only; rw [h]
  · rw [if_neg h]
    simp only
    rw [goodD_decT h2, decT_val]
    have e1 : decide (d = 0) = false := by simp; omega
    have e2 : decide (d = 1) = false := by simp [h]
    have e3 : decide (Nat.gcd n d = 1) = true := by simp [hg.gcd_eq_one]
    rw [e1, e2, e3]; rfl
theorem readQ_text {q : Q3} (hc : Can q) (hf : fitQ q.2.1 q.2.2 = true) : readQ (ratText q.1 q.2.1 q.2.2) = some q := by
  obtain ⟨s, n, d⟩ := q
  obtain ⟨hd, hg, hs⟩ := hc
  simp only at hd hg hs hf ⊢
  have hfd := of_decide_eq_true hf
  have h := readR_text hd hg hs hfd.1 hfd.2
  unfold readQ ratText
  cases s
  · have hh : ((if (false = true) then [45] else []) ++ decT n ++ (if d = 1 then [] else 47 :: decT d)).head? ≠ some 45 := by
      have hne := decT_ne n
      have ha := decT_all n
      cases hx : decT n with
      | nil => exact absurd hx hne
      | cons c m =>
        rw [hx, List.all_cons, Bool.and_eq_true] at ha
        simp
        rintro rfl
        have := ha.1
        revert this; decide
    rw [if_neg hh]
    simpa using h
  · have hh : ((if (true = true) then [45] else []) ++ decT n ++ (if d = 1 then [] else 47 :: decT d)).head? = some (45 : UInt8) := by simp
    rw [if_pos hh]
    simpa using h

/-- the text is the number x -/
def IsV (a : ByteArray) (x : Rat) : Prop := ∃ q, readQ a.data.toList = some q ∧ toR q = x
theorem IsV.inj {a b : ByteArray} {x : Rat} (h : IsV a x) (k : IsV b x) : a = b := by
  obtain ⟨p, hp, rfl⟩ := h
  obtain ⟨q, hq, e⟩ := k
  have := toR_inj (readQ_can hq) (readQ_can hp) e
  subst this
  have e1 := (readQ_q hp).2.2.2.2.2
  have e2 := (readQ_q hq).2.2.2.2.2
  have e3 : a.data.toList = b.data.toList := by rw [e1, e2]
  have e4 : a.data = b.data := Array.toList_inj.1 e3
  cases a; cases b; simp only at e4; rw [e4]
theorem IsV.val {a : ByteArray} {x y : Rat} (h : IsV a x) (k : IsV a y) : x = y := by
  obtain ⟨p, hp, rfl⟩ := h
  obtain ⟨q, hq, rfl⟩ := k
  rw [hp] at hq; cases hq; rfl
theorem out3_isV {q : Q3} (hc : Can q) (h : (out3 q).2 = 0) : IsV (out3 q).1 (toR q) := by
  unfold out3 at h ⊢
  cases hf : fitQ q.2.1 q.2.2
  · rw [outQ_long hf] at h; cases h
  · rw [outQ_fit hf]
    exact ⟨q, readQ_text hc hf, rfl⟩
theorem isV_of {a : ByteArray} (h : (readQ a.data.toList).isSome = true) : ∃ x, IsV a x := by
  cases hq : readQ a.data.toList with
  | none => rw [hq] at h; cases h
  | some q => exact ⟨toR q, q, hq, rfl⟩
theorem addT_isV {a b : ByteArray} {x y : Rat} (ha : IsV a x) (hb : IsV b y) (h : (addT a b).2 = 0) : IsV (addT a b).1 (x + y) := by
  obtain ⟨p, hp, rfl⟩ := ha
  obtain ⟨q, hq, rfl⟩ := hb
  have e : addT a b = out3 (addQ p q) := by unfold addT two; rw [hp, hq]
  obtain ⟨h1, h2⟩ := addQ_spec (readQ_can hp) (readQ_can hq)
  rw [e] at h ⊢
  rw [← h2]; exact out3_isV h1 h
theorem mulT_isV {a b : ByteArray} {x y : Rat} (ha : IsV a x) (hb : IsV b y) (h : (mulT a b).2 = 0) : IsV (mulT a b).1 (x * y) := by
  obtain ⟨p, hp, rfl⟩ := ha
  obtain ⟨q, hq, rfl⟩ := hb
  have e : mulT a b = out3 (mulQ p q) := by unfold mulT two; rw [hp, hq]
  obtain ⟨h1, h2⟩ := mulQ_spec (readQ_can hp) (readQ_can hq)
  rw [e] at h ⊢
  rw [← h2]; exact out3_isV h1 h
theorem subT_isV {a b : ByteArray} {x y : Rat} (ha : IsV a x) (hb : IsV b y) (h : (subT a b).2 = 0) : IsV (subT a b).1 (x - y) := by
  obtain ⟨p, hp, rfl⟩ := ha
  obtain ⟨q, hq, rfl⟩ := hb
  have e : subT a b = out3 (subQ p q) := by unfold subT two; rw [hp, hq]
  obtain ⟨h1, h2⟩ := subQ_spec (readQ_can hp) (readQ_can hq)
  rw [e] at h ⊢
  rw [← h2]; exact out3_isV h1 h
theorem out3_code (q : Q3) : (out3 q).2 = 0 ∨ (out3 q).2 = 2 := by
  unfold out3
  cases hf : fitQ q.2.1 q.2.2
  · rw [outQ_long hf]; right; rfl
  · rw [outQ_fit hf]; left; rfl
theorem divT_isV {a b : ByteArray} {x y : Rat} (ha : IsV a x) (hb : IsV b y) : ((divT a b).2 = 12 ↔ y = 0) ∧ ((divT a b).2 = 0 → IsV (divT a b).1 (x / y) ∧ y ≠ 0) := by
  obtain ⟨p, hp, rfl⟩ := ha
  obtain ⟨q, hq, rfl⟩ := hb
  have cq := readQ_can hq
  have e : divT a b = divF p q := by unfold divT twoG; rw [hp, hq]
  rw [e]
  unfold divF
  have hz : signQ q = 0 ↔ toR q = 0 := by rw [toR_zero cq]; exact sgn_zero cq.2.2
  by_cases h : signQ q = 0
  · rw [if_pos h]
    exact ⟨⟨fun _ => hz.1 h, fun _ => rfl⟩, fun h => by cases h⟩
  · rw [if_neg h]
    have hn : toR q ≠ 0 := fun h' => h (hz.2 h')
    obtain ⟨h1, h2⟩ := divQ_spec (readQ_can hp) cq (fun h' => hn ((toR_zero cq).2 h'))
    refine ⟨⟨fun h3 => ?_, fun h3 => absurd h3 hn⟩, fun h3 => ⟨?_, hn⟩⟩
    · rcases out3_code (divQ p q) with h4 | h4 <;> omega
    · rw [← h2]; exact out3_isV h1 h3
theorem addT_comm {a b : ByteArray} {x y : Rat} (ha : IsV a x) (hb : IsV b y) : addT a b = addT b a := by
  obtain ⟨p, hp, rfl⟩ := ha
  obtain ⟨q, hq, rfl⟩ := hb
  unfold addT two
  rw [hp, hq]
  obtain ⟨h1, h2⟩ := addQ_spec (readQ_can hp) (readQ_can hq)
  obtain ⟨h3, h4⟩ := addQ_spec (readQ_can hq) (readQ_can hp)
  have : addQ p q = addQ q p := toR_inj h1 h3 (by rw [h2, h4, Rat.add_comm])
  show out3 (addQ p q) = out3 (addQ q p)
  rw [this]
theorem mulT_comm {a b : ByteArray} {x y : Rat} (ha : IsV a x) (hb : IsV b y) : mulT a b = mulT b a := by
  obtain ⟨p, hp, rfl⟩ := ha
  obtain ⟨q, hq, rfl⟩ := hb
  unfold mulT two
  rw [hp, hq]
  obtain ⟨h1, h2⟩ := mulQ_spec (readQ_can hp) (readQ_can hq)
  obtain ⟨h3, h4⟩ := mulQ_spec (readQ_can hq) (readQ_can hp)
  have : mulQ p q = mulQ q p := toR_inj h1 h3 (by rw [h2, h4, Rat.mul_comm])
  show out3 (mulQ p q) = out3 (mulQ q p)
  rw [this]
theorem signT_isV {a : ByteArray} {x : Rat} (ha : IsV a x) : (signT a).1 = 0 ↔ x = 0 := by
  obtain ⟨p, hp, rfl⟩ := ha
  have cp := readQ_can hp
  unfold signT oneG
  rw [hp]
  show signQ p = 0 ↔ _
  rw [toR_zero cp]; exact sgn_zero cp.2.2
/-- every result's text is short -/
theorem out3_size (q : Q3) : (out3 q).1.size ≤ 1000 := by
  unfold out3
  cases hf : fitQ q.2.1 q.2.2
  · rw [outQ_long hf]; decide
  · rw [outQ_fit hf]
    have hfd := of_decide_eq_true hf
    show (ratText q.1 q.2.1 q.2.2).toArray.size ≤ 1000
    have h1 := decT_len q.2.1
    have h2 := decT_len q.2.2
    rw [List.size_toArray]
    unfold ratText
    simp only [List.length_append]
    have e1 : (if q.1 = true then [(45 : UInt8)] else []).length ≤ 1 := by split <;> simp
    have e2 : (if q.2.2 = 1 then [] else (47 : UInt8) :: decT q.2.2).length ≤ 301 := by
      split
      · simp
      · rw [List.length_cons, h2]; omega
    omega
theorem two_size {f : Q3 → Q3 → Q3} (a b : ByteArray) : (two (fun p q => out3 (f p q)) a b).1.size ≤ 1000 := by
  unfold two
  split
  · exact out3_size _
  · decide
theorem addT_size (a b : ByteArray) : (addT a b).1.size ≤ 1000 := two_size a b
theorem mulT_size (a b : ByteArray) : (mulT a b).1.size ≤ 1000 := two_size a b
theorem subT_size (a b : ByteArray) : (subT a b).1.size ≤ 1000 := two_size a b
theorem divT_size (a b : ByteArray) : (divT a b).1.size ≤ 1000 := by
  unfold divT twoG
  split
  · unfold divF; split
    · decide
    · exact out3_size _
  · decide
end Go.Proofs.Ytlkdahgfnfdakaa
