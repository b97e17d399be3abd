/- The greatest number of which all are multiples, and the quotients by it. -/
import Derived.Test.YtlkdahgfnfdakaaOwn
import Derived.Test.YtlkdahgfnfdakaaLawS
namespace Go.Proofs.Ytlkdahgfnfdakaa
open Go Go.RowKit Go.Shelf WN LM

/-- all are multiples of c, which is reduced and more than 0; and c is the greatest such number -/
structure ComOk (c : Q3) (l : List Q3) : Prop where
  s : c.1 = false
  n0 : 0 < c.2.1
  d0 : 0 < c.2.2
  co : Nat.Coprime c.2.1 c.2.2
  num : ∀ a ∈ l, c.2.1 ∣ a.2.1
  den : ∀ a ∈ l, a.2.2 ∣ c.2.2
  most : ∀ s t, (∀ a ∈ l, s ∣ a.2.1) → (∀ a ∈ l, a.2.2 ∣ t) → s ∣ c.2.1 ∧ c.2.2 ∣ t
theorem ComOk.one {a : Q3} (hs : a.1 = false) (h0 : 0 < a.2.1) (h1 : 0 < a.2.2) (h2 : Nat.Coprime a.2.1 a.2.2) : ComOk a [a] where
  s := hs
  n0 := h0
  d0 := h1
  co := h2
  num := fun b hb => by simp at hb; subst hb; exact Nat.dvd_refl _
  den := fun b hb => by simp at hb; subst hb; exact Nat.dvd_refl _
  most := fun s t h3 h4 => ⟨h3 a (by simp), h4 a (by simp)⟩
theorem lcm_eq {a b : Nat} : a * (b / Nat.gcd a b) = Nat.lcm a b := by
  unfold Nat.lcm
  rw [Nat.mul_div_assoc _ (Nat.gcd_dvd_right a b)]
theorem ComOk.step {c a : Q3} {l : List Q3} (h : ComOk c l) (h1 : 0 < a.2.2) (h2 : Nat.Coprime a.2.1 a.2.2) : ComOk (comStep c a) (l ++ [a]) where
  s := rfl
  n0 := Nat.gcd_pos_of_pos_left _ h.n0
  d0 := by show 0 < c.2.2 * (a.2.2 / Nat.gcd c.2.2 a.2.2); rw [lcm_eq]; exact Nat.lcm_pos h.d0 h1
  co := by
    show Nat.Coprime (Nat.gcd c.2.1 a.2.1) (c.2.2 * (a.2.2 / Nat.gcd c.2.2 a.2.2))
    rw [lcm_eq]
    have k1 : Nat.Coprime (Nat.gcd c.2.1 a.2.1) c.2.2 := h.co.coprime_dvd_left (Nat.gcd_dvd_left _ _)
    have k2 : Nat.Coprime (Nat.gcd c.2.1 a.2.1) a.2.2 := h2.coprime_dvd_left (Nat.gcd_dvd_right _ _)
    exact (k1.mul_right k2).coprime_dvd_right (Nat.lcm_dvd_mul _ _)
  num := fun b hb => by
    show Nat.gcd c.2.1 a.2.1 ∣ b.2.1
    rcases List.mem_append.1 hb with hb | hb
    · exact Nat.dvd_trans (Nat.gcd_dvd_left _ _) (h.num b hb)
    · simp at hb; subst hb; exact Nat.gcd_dvd_right _ _
  den := fun b hb => by
    show b.2.2 ∣ c.2.2 * (a.2.2 / Nat.gcd c.2.2 a.2.2)
    rw [lcm_eq]
    rcases List.mem_append.1 hb with hb | hb
    · exact Nat.dvd_trans (h.den b hb) (Nat.dvd_lcm_left _ _)
    · simp at hb; subst hb; exact Nat.dvd_lcm_right _ _
  most := fun s t h3 h4 => by
    obtain ⟨k1, k2⟩ := h.most s t (fun b hb => h3 b (by simp [hb])) (fun b hb => h4 b (by simp [hb]))
    refine ⟨Nat.dvd_gcd k1 (h3 a (by simp)), ?_⟩
    show c.2.2 * (a.2.2 / Nat.gcd c.2.2 a.2.2) ∣ t
    rw [lcm_eq]
    exact Nat.lcm_dvd k2 (h4 a (by simp))
/-- the quotient of a number and c -/
def quoN (c a : Q3) : Nat := a.2.1 / c.2.1 * (c.2.2 / a.2.2)
theorem quo_mul {c a : Q3} {l : List Q3} (h : ComOk c l) (ha : a ∈ l) : quoN c a * c.2.1 * a.2.2 = a.2.1 * c.2.2 := by
  have e1 := Nat.div_mul_cancel (h.num a ha)
  have e2 := Nat.div_mul_cancel (h.den a ha)
  unfold quoN
  generalize a.2.1 / c.2.1 = x at *
  generalize c.2.2 / a.2.2 = y at *
  rw [← e1, ← e2]
  grind
theorem quo_one {c : Q3} {l : List Q3} (h : ComOk c l) (hr : ∀ a ∈ l, 0 < a.2.2 ∧ Nat.Coprime a.2.1 a.2.2) {e : Nat} (he : ∀ a ∈ l, e ∣ quoN c a) : e ∣ 1 := by
  -- e * c = (e/g * G) / (M/g), g = gcd(e, M); all are multiples of it
  have hg0 : 0 < Nat.gcd e c.2.2 := Nat.gcd_pos_of_pos_right _ h.d0
  obtain ⟨x, hx⟩ := Nat.gcd_dvd_left e c.2.2
  obtain ⟨y, hy⟩ := Nat.gcd_dvd_right e c.2.2
  have hxy : Nat.Coprime x y := by
    have := Nat.coprime_div_gcd_div_gcd hg0
    have q1 : e / Nat.gcd e c.2.2 = x := Nat.div_eq_of_eq_mul_right hg0 hx
    have q2 : c.2.2 / Nat.gcd e c.2.2 = y := Nat.div_eq_of_eq_mul_right hg0 hy
    rwa [q1, q2] at this
  generalize Nat.gcd e c.2.2 = g at *
  have hGy : Nat.Coprime c.2.1 y := h.co.coprime_dvd_right ⟨g, by rw [hy, Nat.mul_comm]⟩
  have key := h.most (x * c.2.1) y (fun a ha => ?_) (fun a ha => ?_)
  · obtain ⟨k1, k2⟩ := key
    have x1 : x ∣ 1 := by
      have : x * c.2.1 ∣ 1 * c.2.1 := by rw [Nat.one_mul]; exact k1
      exact Nat.dvd_of_mul_dvd_mul_right h.n0 this
    have y0 : 0 < y := by
      rcases Nat.eq_zero_or_pos y with k | k
      · subst k; have := h.d0; rw [hy] at this; omega
      · exact k
    have g1 : g ∣ 1 := by
      rw [hy] at k2
      have : g * y ∣ 1 * y := by rw [Nat.one_mul]; exact k2
      exact Nat.dvd_of_mul_dvd_mul_right y0 this
    rw [hx]
    have a1 := Nat.dvd_one.1 x1
    have a2 := Nat.dvd_one.1 g1
    subst a1 a2
    exact Nat.dvd_refl _
  all_goals
    obtain ⟨m, hm⟩ := he a ha
    have e1 := quo_mul h ha
    rw [hm, hx] at e1
    -- g * x * m * G * d = n * (g * y)
    have e2 : x * c.2.1 * m * a.2.2 = a.2.1 * y := by
      have : g * (x * c.2.1 * m * a.2.2) = g * (a.2.1 * y) := by
        have e3 : a.2.1 * c.2.2 = g * (a.2.1 * y) := by rw [hy]; grind
        rw [← e3, ← e1]; grind
      exact Nat.eq_of_mul_eq_mul_left hg0 this
  · -- x * G divides n
    have cop : Nat.Coprime (x * c.2.1) y := hxy.mul_left hGy
    have : x * c.2.1 ∣ a.2.1 * y := ⟨m * a.2.2, by rw [← e2]; grind⟩
    exact cop.dvd_of_dvd_mul_right this
  · have : a.2.2 ∣ a.2.1 * y := ⟨x * c.2.1 * m, by rw [← e2]; grind⟩
    exact (hr a ha).2.symm.dvd_of_dvd_mul_left this

theorem com_bad {L : List ByteArray} (h : (comT L).2 ≠ 0) : (comT L).1 = ⟨#[]⟩ := by
  unfold comT at *
  cases hr : readAll L with
  | none => rfl
  | some qs =>
    rw [hr] at h
    have h : (comF qs).2 ≠ 0 := h
    show (comF qs).1 = ⟨#[]⟩
    cases qs with
    | nil => rfl
    | cons q l =>
      rw [comF_cons] at h ⊢
      by_cases ha : (q :: l).any (fun x => decide (signQ x ≤ 0)) = true
      · rw [if_pos ha]
      · rw [if_neg ha] at h ⊢
        cases hf : comFold q l with
        | none => rfl
        | some c =>
          rw [hf] at h
          have h : (out3 c).2 ≠ 0 := h
          show (out3 c).1 = ⟨#[]⟩
          unfold out3 at h ⊢
          cases hq : fitQ c.2.1 c.2.2
          · rw [outQ_long hq]
          · rw [outQ_fit hq] at h; exact absurd rfl h
theorem readAll_get : ∀ (L : List ByteArray) (qs : List Q3), readAll L = some qs → qs.length = L.length ∧ ∀ j (h : j < L.length) (h' : j < qs.length), readQ L[j].data.toList = some qs[j]
  | [], qs, h => by
    simp only [readAll, Option.some.injEq] at h
    subst h
    exact ⟨rfl, fun j h => by simp at h⟩
  | s :: L, qs, h => by
    rw [readAll] at h
    cases h1 : readQ s.data.toList with
    | none => rw [h1] at h; cases h
    | some q =>
      cases h2 : readAll L with
      | none => rw [h1, h2] at h; cases h
      | some l =>
        rw [h1, h2] at h
        simp only [Option.some.injEq] at h
        subst h
        obtain ⟨k1, k2⟩ := readAll_get L l h2
        refine ⟨by simp [k1], fun j hj hj' => ?_⟩
        match j, hj, hj' with
        | 0, _, _ => exact h1
        | j + 1, hj, hj' => exact k2 j (by simpa using hj) (by simpa using hj')
theorem fold_ok : ∀ (l l0 : List Q3) (c C : Q3), comFold c l = some C → ComOk c l0 → (∀ a ∈ l, 0 < a.2.2 ∧ Nat.Coprime a.2.1 a.2.2) → ComOk C (l0 ++ l)
  | [], l0, c, C, h, hc, _ => by
    simp only [comFold, Option.some.injEq] at h
    subst h
    rwa [List.append_nil]
  | a :: l, l0, c, C, h, hc, hr => by
    rw [comFold] at h
    by_cases hf : fitQ (comStep c a).2.1 (comStep c a).2.2 = true
    · rw [if_pos hf] at h
      have ha := hr a (by simp)
      have := fold_ok l (l0 ++ [a]) (comStep c a) C h (hc.step ha.1 ha.2) (fun b hb => hr b (by simp [hb]))
      rwa [List.append_assoc] at this
    · rw [if_neg hf] at h; cases h
theorem com_good {L : List ByteArray} (h : (comT L).2 = 0) : ∃ (qs : List Q3) (C : Q3), qs.length = L.length ∧ 0 < L.length ∧ (∀ i (hi : i < L.length) (hq : i < qs.length), readQ L[i].data.toList = some qs[i]) ∧ (∀ a ∈ qs, a.1 = false ∧ 0 < a.2.1 ∧ 0 < a.2.2 ∧ Nat.Coprime a.2.1 a.2.2) ∧ ComOk C qs ∧ readQ (comT L).1.data.toList = some C := by
  unfold comT at *
  cases hr : readAll L with
  | none => rw [hr] at h; cases h
  | some qs =>
    rw [hr] at h
    have h : (comF qs).2 = 0 := h
    show ∃ (qs' : List Q3) (C : Q3), qs'.length = L.length ∧ 0 < L.length ∧ (∀ i (hi : i < L.length) (hq : i < qs'.length), readQ L[i].data.toList = some qs'[i]) ∧ (∀ a ∈ qs', a.1 = false ∧ 0 < a.2.1 ∧ 0 < a.2.2 ∧ Nat.Coprime a.2.1 a.2.2) ∧ ComOk C qs' ∧ readQ (comF qs).1.data.toList = some C
    obtain ⟨g1, g2⟩ := readAll_get L qs hr
    cases qs with
    | nil => cases h
    | cons q l =>
      rw [comF_cons] at h ⊢
      by_cases ha : (q :: l).any (fun x => decide (signQ x ≤ 0)) = true
      · rw [if_pos ha] at h; cases h
      · rw [if_neg ha] at h ⊢
        cases hf : comFold q l with
        | none => rw [hf] at h; cases h
        | some C =>
          rw [hf] at h
          have h : (out3 C).2 = 0 := h
          have hall : ∀ a ∈ q :: l, a.1 = false ∧ 0 < a.2.1 ∧ 0 < a.2.2 ∧ Nat.Coprime a.2.1 a.2.2 := fun a hm => by
            obtain ⟨j, hj, rfl⟩ := List.getElem_of_mem hm
            have hc := readQ_can (g2 j (by rw [← g1]; exact hj) hj)
            have hp : 0 < signQ (q :: l)[j] := by
              apply Int.not_le.1
              intro hle
              exact ha (List.any_eq_true.2 ⟨_, hm, decide_eq_true hle⟩)
            have := (sgn_pos).1 hp
            exact ⟨this.1, Nat.pos_of_ne_zero this.2, hc.1, hc.2.1⟩
          have hq := hall q (by simp)
          have hok := fold_ok l [q] q C hf (ComOk.one hq.1 hq.2.1 hq.2.2.1 hq.2.2.2) (fun a hm => (hall a (by simp [hm])).2.2)
          refine ⟨q :: l, C, g1, by rw [← g1]; simp, g2, hall, hok, ?_⟩
          show readQ (out3 C).1.data.toList = some C
          have hfit : fitQ C.2.1 C.2.2 = true := by
            cases hft : fitQ C.2.1 C.2.2
            · unfold out3 at h; rw [outQ_long hft] at h; cases h
            · rfl
          unfold out3; rw [outQ_fit hfit]
          exact readQ_text ⟨hok.d0, hok.co, fun k => by rw [hok.s] at k; cases k⟩ hfit
theorem com_item {C a : Q3} {qs : List Q3} (hC : ComOk C qs) (hm : a ∈ qs) (ha : a.1 = false ∧ 0 < a.2.1 ∧ 0 < a.2.2 ∧ Nat.Coprime a.2.1 a.2.2) {t c : ByteArray} (ht : readQ t.data.toList = some a) (hc : readQ c.data.toList = some C) :
    multT t c = (true, 0) ∧ ((divT t c).2 = 0 → IsV (divT t c).1 ((quoN C a : Nat) : Rat)) := by
  have hCn : C.2.1 ≠ 0 := Nat.ne_of_gt hC.n0
  obtain ⟨d1, d2⟩ := divQ_spec (readQ_can ht) (readQ_can hc) hCn
  have hC0 : toR C ≠ 0 := fun k => hCn ((toR_zero (readQ_can hc)).1 k)
  have e1 : toR a = ((quoN C a : Nat) : Rat) * toR C := by
    have hk : ((quoN C a : Nat) : Rat) = mkRat (quoN C a : Nat) 1 := by rw [Rat.mkRat_one]; rfl
    rw [hk]
    unfold toR sgi
    rw [ha.1, hC.s]
    simp only [Bool.false_eq_true, if_false]
    rw [Rat.mkRat_mul_mkRat, Rat.mkRat_eq_iff (Nat.ne_of_gt ha.2.2.1) (Nat.ne_of_gt (by rw [Nat.one_mul]; exact hC.d0))]
    have := quo_mul hC hm
    rw [Nat.one_mul]
    exact_mod_cast this.symm
  have e2 : toR a / toR C = ((quoN C a : Nat) : Rat) := by
    rw [e1, Rat.div_def, Rat.mul_assoc, Rat.mul_inv_cancel _ hC0, Rat.mul_one]
  rw [e2] at d2
  have hs : signQ C = 1 := by
    unfold signQ sgn; rw [hC.s]; simp [hCn]
  constructor
  · have e : multT t c = multF a C := by unfold multT twoG; rw [ht, hc]
    rw [e]; unfold multF
    rw [if_neg (by omega)]
    have k1 := den_int d1 (F := ((quoN C a : Nat) : Int)) d2
    have k2 : (divQ a C).1 = false := by
      cases hh : (divQ a C).1
      · rfl
      · exfalso
        have := (toR_neg d1).2 hh
        rw [d2] at this
        have := (Rat.intCast_lt_intCast (a := ((quoN C a : Nat) : Int)) (b := 0)).1 this
        omega
    rw [k1, k2]; rfl
  · intro h
    have e : divT t c = divF a C := by unfold divT twoG; rw [ht, hc]
    rw [e] at h ⊢
    unfold divF at *
    rw [if_neg (by omega)] at h ⊢
    rw [← d2]; exact out3_isV d1 h
theorem fold_int : ∀ (l : List Q3) (g : Nat), fitQ g 1 = true → 0 < g → (∀ a ∈ l, a.2.2 = 1) → ∃ g', comFold (false, g, 1) l = some (false, g', 1) ∧ 0 < g' ∧ g' ∣ g ∧ ∀ a ∈ l, g' ∣ a.2.1
  | [], g, _, h0, _ => ⟨g, rfl, h0, Nat.dvd_refl _, fun a h => by cases h⟩
  | a :: l, g, hf, h0, hl => by
    have e : comStep (false, g, 1) a = (false, Nat.gcd g a.2.1, 1) := by
      unfold comStep
      rw [hl a (by simp)]
      show (false, Nat.gcd g a.2.1, 1 * (1 / Nat.gcd 1 1)) = _
      rw [Nat.gcd_self]
    have hg : 0 < Nat.gcd g a.2.1 := Nat.gcd_pos_of_pos_left _ h0
    have hf2 : fitQ (Nat.gcd g a.2.1) 1 = true := by
      have hd := of_decide_eq_true hf
      unfold fitQ
      refine decide_eq_true ⟨?_, hd.2⟩
      have h1 := (dig_le_iff (n := g) (k := 300) (by omega)).1 hd.1
      exact (dig_le_iff (by omega)).2 (Nat.lt_of_le_of_lt (Nat.le_of_dvd h0 (Nat.gcd_dvd_left _ _)) h1)
    obtain ⟨g', k1, k2, k3, k4⟩ := fold_int l (Nat.gcd g a.2.1) hf2 hg (fun b hb => hl b (by simp [hb]))
    refine ⟨g', ?_, k2, Nat.dvd_trans k3 (Nat.gcd_dvd_left _ _), fun b hb => ?_⟩
    · rw [comFold, e, if_pos hf2]; exact k1
    · rcases List.mem_cons.1 hb with rfl | hb
      · exact Nat.dvd_trans k3 (Nat.gcd_dvd_right _ _)
      · exact k4 b hb
theorem com_parts {C : Q3} {qs : List Q3} (hC : ComOk C qs) (hq : ∀ a ∈ qs, a.1 = false ∧ 0 < a.2.1 ∧ 0 < a.2.2 ∧ Nat.Coprime a.2.1 a.2.2) {P : List ByteArray} (hl : P.length = qs.length) (h0 : 0 < qs.length)
    (hP : ∀ i (hi : i < P.length) (hj : i < qs.length), IsV P[i] ((quoN C qs[i] : Nat) : Rat)) : comT P = (⟨#[49]⟩, 0) := by
  have hk : ∀ a ∈ qs, 0 < quoN C a := fun a ha => by
    have h1 := Nat.div_mul_cancel (hC.num a ha)
    have h2 := Nat.div_mul_cancel (hC.den a ha)
    unfold quoN
    refine Nat.mul_pos (Nat.pos_of_ne_zero fun k => ?_) (Nat.pos_of_ne_zero fun k => ?_)
    · rw [k, Nat.zero_mul] at h1; have := (hq a ha).2.1; omega
    · rw [k, Nat.zero_mul] at h2; have := hC.d0; omega
  have hread : ∀ i (hi : i < P.length) (hj : i < qs.length), readQ P[i].data.toList = some (false, quoN C qs[i], 1) := fun i hi hj => by
    obtain ⟨q, h1, h2⟩ := hP i hi hj
    have hc : Can (false, quoN C qs[i], 1) := ⟨by show 0 < 1; omega, Nat.coprime_one_right _, fun h => by cases h⟩
    have e : toR (false, quoN C qs[i], 1) = ((quoN C qs[i] : Nat) : Rat) := by
      unfold toR sgi; rw [Rat.mkRat_one]; rfl
    have := toR_inj (readQ_can h1) hc (by rw [h2, e])
    rw [h1, this]
  have hall : readAll P = some (qs.map fun a => (false, quoN C a, 1)) := by
    refine readAll_some P _ (by rw [List.length_map, hl]) fun j hj hj' => ?_
    rw [List.getElem_map]
    exact hread j hj (by rw [List.length_map] at hj'; exact hj')
  unfold comT
  rw [hall]
  show comF (qs.map fun a => (false, quoN C a, 1)) = _
  cases qs with
  | nil => simp at h0
  | cons q l =>
    rw [List.map_cons, comF_cons]
    have hany : ¬ ((false, quoN C q, 1) :: l.map fun a => (false, quoN C a, 1)).any (fun x => decide (signQ x ≤ 0)) = true := by
      intro hh
      obtain ⟨x, hx, hx2⟩ := List.any_eq_true.1 hh
      have hx3 := of_decide_eq_true hx2
      rw [← List.map_cons (f := fun a => ((false, quoN C a, 1) : Q3))] at hx
      obtain ⟨a, ha, rfl⟩ := List.mem_map.1 hx
      have := hk a ha
      unfold signQ sgn at hx3
      simp at hx3
      omega
    rw [if_neg hany]
    have hfit : fitQ (quoN C q) 1 = true := by
      obtain ⟨f1, f2, _⟩ := readQ_q (hread 0 (by rw [hl]; simp) (by simp))
      unfold fitQ; exact decide_eq_true ⟨f1, f2⟩
    obtain ⟨g, k1, k2, k3, k4⟩ := fold_int (l.map fun a => (false, quoN C a, 1)) (quoN C q) hfit (hk q (by simp)) (fun a ha => by
      obtain ⟨b, _, rfl⟩ := List.mem_map.1 ha; rfl)
    have hg : g ∣ 1 := quo_one hC (fun a ha => (hq a ha).2.2) fun a ha => by
      rcases List.mem_cons.1 ha with rfl | ha
      · exact k3
      · exact k4 (false, quoN C a, 1) (List.mem_map.2 ⟨a, ha, rfl⟩)
    have := Nat.dvd_one.1 hg
    subst this
    rw [k1]
    show out3 (false, 1, 1) = _
    rw [out_small (by omega) (by omega)]; rfl
end Go.Proofs.Ytlkdahgfnfdakaa
