/- Numbers as lists of digits to a base, the lowest one first. -/
namespace Go.Proofs.Ytlkdahgfnfdakaa.WN

def val (B : Nat) : List Nat → Nat
  | [] => 0
  | d :: ds => d + B * val B ds

def Digs (B : Nat) (l : List Nat) : Prop := ∀ d ∈ l, d < B

/-- no highest digit 0 -/
def Top (l : List Nat) : Prop := l.getLast? ≠ some 0

def Canon (B : Nat) (l : List Nat) : Prop := Digs B l ∧ Top l

@[simp] theorem val_nil (B : Nat) : val B [] = 0 := rfl
@[simp] theorem val_cons (B d : Nat) (l : List Nat) : val B (d :: l) = d + B * val B l := rfl

theorem val_append (B : Nat) (l m : List Nat) : val B (l ++ m) = val B l + B ^ l.length * val B m := by
  induction l with
  | nil => simp
  | cons d l ih =>
    simp only [List.cons_append, val_cons, ih, List.length_cons, Nat.pow_succ]
    rw [Nat.mul_add, Nat.add_assoc]
    congr 2
    rw [← Nat.mul_assoc, Nat.mul_comm B]

theorem val_snoc (B : Nat) (l : List Nat) (d : Nat) : val B (l ++ [d]) = val B l + B ^ l.length * d := by
  rw [val_append]; simp

theorem Digs.nil (B : Nat) : Digs B [] := fun _ h => nomatch h
theorem Digs.cons {B d : Nat} {l : List Nat} (h : d < B) (hl : Digs B l) : Digs B (d :: l) := fun x hx => by
  rcases List.mem_cons.1 hx with rfl | hx
  · exact h
  · exact hl x hx
theorem Digs.append {B : Nat} {l m : List Nat} (h : Digs B l) (k : Digs B m) : Digs B (l ++ m) := fun x hx => by
  rcases List.mem_append.1 hx with hx | hx
  · exact h x hx
  · exact k x hx
theorem Digs.snoc {B d : Nat} {l : List Nat} (hl : Digs B l) (h : d < B) : Digs B (l ++ [d]) := hl.append (.cons h (.nil B))
theorem Digs.take {B : Nat} {l : List Nat} (h : Digs B l) (n : Nat) : Digs B (l.take n) := fun x hx => h x (List.mem_of_mem_take hx)
theorem Digs.drop {B : Nat} {l : List Nat} (h : Digs B l) (n : Nat) : Digs B (l.drop n) := fun x hx => h x (List.mem_of_mem_drop hx)
theorem Digs.get {B : Nat} {l : List Nat} (h : Digs B l) (i : Nat) (hi : i < l.length) : l[i] < B := h _ (List.getElem_mem hi)
theorem Digs.getD {B : Nat} {l : List Nat} (h : Digs B l) (i : Nat) (hB : 0 < B) : l.getD i 0 < B := by
  rw [List.getD_eq_getElem?_getD]
  by_cases hi : i < l.length
  · simp [hi]; exact h.get i hi
  · simp [List.getElem?_eq_none (Nat.le_of_not_lt hi)]; exact hB

theorem val_lt {B : Nat} (hB : 0 < B) {l : List Nat} (h : Digs B l) : val B l < B ^ l.length := by
  induction l with
  | nil => simp
  | cons d l ih =>
    have h1 := h d (by simp)
    have h2 := ih (fun x hx => h x (by simp [hx]))
    simp only [val_cons, List.length_cons, Nat.pow_succ]
    have : B * val B l + B ≤ B * B ^ l.length := by
      rw [← Nat.mul_succ]; exact Nat.mul_le_mul_left B h2
    rw [Nat.mul_comm (B ^ l.length)]
    omega

theorem Top.nil : Top [] := by simp [Top]
theorem Top.append {l m : List Nat} (h : Top m) (hm : m ≠ []) : Top (l ++ m) := by
  unfold Top at *
  rw [List.getLast?_append]
  cases hx : m.getLast? with
  | none => simp at hx; exact absurd hx hm
  | some x => simpa [hx] using h
theorem top_snoc {l : List Nat} {d : Nat} (h : d ≠ 0) : Top (l ++ [d]) := by simp [Top, h]

theorem pow_le_val {B : Nat} {l : List Nat} (h : Top l) (hl : l ≠ []) : B ^ (l.length - 1) ≤ val B l := by
  obtain ⟨m, d, rfl⟩ : ∃ m d, l = m ++ [d] := ⟨l.dropLast, l.getLast hl, (by rw [List.dropLast_concat_getLast])⟩
  have hd : d ≠ 0 := by simpa [Top] using h
  rw [val_snoc]
  simp only [List.length_append, List.length_cons, List.length_nil, Nat.zero_add, Nat.add_sub_cancel]
  have : B ^ m.length * 1 ≤ B ^ m.length * d := Nat.mul_le_mul_left _ (by omega)
  omega

theorem val_pos {B : Nat} (hB : 0 < B) {l : List Nat} (h : Top l) (hl : l ≠ []) : 0 < val B l :=
  Nat.lt_of_lt_of_le (Nat.pow_pos hB) (pow_le_val h hl)

theorem val_eq_zero {B : Nat} (hB : 0 < B) {l : List Nat} (h : Top l) : val B l = 0 ↔ l = [] := by
  constructor
  · intro h0
    by_cases hl : l = []
    · exact hl
    · have := val_pos hB h hl; omega
  · rintro rfl; rfl

theorem Top.tail {d : Nat} {l : List Nat} (h : Top (d :: l)) : Top l := by
  unfold Top at *
  cases l with
  | nil => simp
  | cons e l => simpa [List.getLast?_cons_cons] using h

theorem canon_unique {B : Nat} {l m : List Nat} (hl : Canon B l) (hm : Canon B m) (h : val B l = val B m) : l = m := by
  induction l generalizing m with
  | nil =>
    cases m with
    | nil => rfl
    | cons e m =>
      have hB : 0 < B := by have := hm.1 e (by simp); omega
      have := val_pos (B := B) hB hm.2 (by simp)
      rw [← h] at this; simp at this
  | cons d l ih =>
    have hB : 0 < B := by have := hl.1 d (by simp); omega
    cases m with
    | nil =>
      have := val_pos (B := B) hB hl.2 (by simp)
      rw [h] at this; simp at this
    | cons e m =>
      have h1 := hl.1 d (by simp)
      have h2 := hm.1 e (by simp)
      simp only [val_cons] at h
      have hde : d = e := by
        have : (d + B * val B l) % B = (e + B * val B m) % B := by rw [h]
        simpa [Nat.add_mul_mod_self_left, Nat.mod_eq_of_lt h1, Nat.mod_eq_of_lt h2] using this
      subst hde
      have hv : val B l = val B m := Nat.eq_of_mul_eq_mul_left hB (by omega)
      rw [ih (m := m) ⟨fun x hx => hl.1 x (by simp [hx]), hl.2.tail⟩ ⟨fun x hx => hm.1 x (by simp [hx]), hm.2.tail⟩ hv]

/-- the digits without noughts at the end -/
def trim (l : List Nat) : List Nat := (l.reverse.dropWhile (· == 0)).reverse

theorem trim_snoc_zero (l : List Nat) : trim (l ++ [0]) = trim l := by simp [trim]
theorem trim_snoc_ne {l : List Nat} {d : Nat} (h : d ≠ 0) : trim (l ++ [d]) = l ++ [d] := by simp [trim, h]
theorem trim_nil : trim [] = [] := rfl

theorem trim_spec (B : Nat) (l : List Nat) : ∃ k, l = trim l ++ List.replicate k 0 := by
  obtain ⟨r, hr⟩ : ∃ r, r = l.reverse := ⟨_, rfl⟩
  have hl : l = r.reverse := by simp [hr]
  subst hl
  unfold trim
  simp only [List.reverse_reverse]
  clear hr
  induction r with
  | nil => exact ⟨0, rfl⟩
  | cons d r ih =>
    by_cases h : d = 0
    · subst h
      obtain ⟨k, hk⟩ := ih
      refine ⟨k + 1, ?_⟩
      simp only [List.reverse_cons, List.dropWhile_cons, beq_self_eq_true, if_true]
      rw [List.replicate_succ', ← List.append_assoc, ← hk]
    · exact ⟨0, by simp [List.dropWhile_cons, h]⟩

theorem val_replicate_zero (B k : Nat) : val B (List.replicate k 0) = 0 := by
  induction k with
  | zero => rfl
  | succ k ih => simp [List.replicate_succ, ih]

theorem val_trim (B : Nat) (l : List Nat) : val B (trim l) = val B l := by
  obtain ⟨k, hk⟩ := trim_spec B l
  conv => rhs; rw [hk]
  rw [val_append, val_replicate_zero]; simp

theorem top_trim (l : List Nat) : Top (trim l) := by
  unfold Top trim
  rw [List.getLast?_reverse]
  intro h
  have := List.head?_dropWhile_not (· == 0) l.reverse
  rw [h] at this
  simp at this

theorem trim_length_le (l : List Nat) : (trim l).length ≤ l.length := by
  obtain ⟨k, hk⟩ := trim_spec 1 l
  have := congrArg List.length hk
  simp at this; omega

theorem trim_eq_take (l : List Nat) : trim l = l.take (trim l).length := by
  obtain ⟨k, hk⟩ := trim_spec 1 l
  conv => rhs; arg 2; rw [hk]
  simp

theorem digs_trim {B : Nat} {l : List Nat} (h : Digs B l) : Digs B (trim l) := by
  rw [trim_eq_take]; exact h.take _

theorem canon_trim {B : Nat} {l : List Nat} (h : Digs B l) : Canon B (trim l) := ⟨digs_trim h, top_trim l⟩

/-- the digits of a number -/
def ofNatAux (B : Nat) : Nat → Nat → List Nat
  | 0, _ => []
  | k + 1, n => if n = 0 then [] else n % B :: ofNatAux B k (n / B)
def ofNat (B n : Nat) : List Nat := ofNatAux B n n

theorem ofNatAux_spec {B : Nat} (hB : 2 ≤ B) : ∀ k n, n ≤ k → Canon B (ofNatAux B k n) ∧ val B (ofNatAux B k n) = n := by
  intro k
  induction k with
  | zero => intro n hn; obtain rfl : n = 0 := by omega
            exact ⟨⟨Digs.nil B, Top.nil⟩, rfl⟩
  | succ k ih =>
    intro n hn
    unfold ofNatAux
    by_cases h : n = 0
    · simp only [h, if_true]; exact ⟨⟨Digs.nil B, Top.nil⟩, rfl⟩
    · simp only [h, if_false]
      have hlt : n / B < n := Nat.div_lt_self (by omega) (by omega)
      obtain ⟨⟨h1, h2⟩, h3⟩ := ih (n / B) (by omega)
      refine ⟨⟨.cons (Nat.mod_lt _ (by omega)) h1, ?_⟩, ?_⟩
      · by_cases he : ofNatAux B k (n / B) = []
        · rw [he] at h3 ⊢
          simp only [val_nil] at h3
          have : n < B := by
            rcases Nat.lt_or_ge n B with h' | h'
            · exact h'
            · have := Nat.div_pos h' (by omega); omega
          simp [Top, Nat.mod_eq_of_lt this, h]
        · exact Top.append (l := [n % B]) h2 he
      · rw [val_cons, h3]; exact Nat.mod_add_div n B

theorem ofNat_canon {B : Nat} (hB : 2 ≤ B) (n : Nat) : Canon B (ofNat B n) := (ofNatAux_spec hB n n (Nat.le_refl _)).1
theorem val_ofNat {B : Nat} (hB : 2 ≤ B) (n : Nat) : val B (ofNat B n) = n := (ofNatAux_spec hB n n (Nat.le_refl _)).2

theorem ofNat_unique {B : Nat} (hB : 2 ≤ B) {l : List Nat} (h : Canon B l) {n : Nat} (hv : val B l = n) : l = ofNat B n :=
  canon_unique h (ofNat_canon hB n) (by rw [hv, val_ofNat hB])

theorem len_le_of_lt {B : Nat} (hB : 2 ≤ B) {l : List Nat} (h : Top l) {k : Nat} (hv : val B l < B ^ k) : l.length ≤ k := by
  by_cases hl : l = []
  · simp [hl]
  · have h1 := pow_le_val (B := B) h hl
    have : B ^ (l.length - 1) < B ^ k := by omega
    have := (Nat.pow_lt_pow_iff_right (by omega)).1 this
    omega

theorem val_take_drop (B : Nat) (l : List Nat) (k : Nat) (hk : k ≤ l.length) : val B l = val B (l.take k) + B ^ k * val B (l.drop k) := by
  conv => lhs; rw [← List.take_append_drop k l]
  rw [val_append, List.length_take, Nat.min_eq_left hk]

theorem val_take_succ (B : Nat) (l : List Nat) (k : Nat) (hk : k < l.length) : val B (l.take (k + 1)) = val B (l.take k) + B ^ k * l[k] := by
  rw [List.take_succ_eq_append_getElem hk, val_snoc, List.length_take, Nat.min_eq_left (by omega)]

theorem val_drop (B : Nat) (l : List Nat) (k : Nat) (hk : k < l.length) : val B (l.drop k) = l[k] + B * val B (l.drop (k + 1)) := by
  rw [List.drop_eq_getElem_cons hk]; rfl

theorem trim_zeros {l : List Nat} (h : ∀ j (hj : j < l.length), l[j] = 0) : trim l = [] := by
  have e : l = List.replicate l.length 0 := List.eq_replicate_iff.2 ⟨rfl, fun x hx => by
    obtain ⟨j, hj, rfl⟩ := List.getElem_of_mem hx
    exact h j hj⟩
  rw [e]
  generalize l.length = n
  induction n with
  | zero => rfl
  | succ n ih => rw [List.replicate_succ', trim_snoc_zero, ih]

theorem trim_top {l : List Nat} {m : Nat} (hm : m < l.length) (h : ∀ j (hj : j < l.length), m < j → l[j] = 0) (h0 : l[m] ≠ 0) : trim l = l.take (m + 1) := by
  have e : l = l.take (m + 1) ++ List.replicate (l.length - (m + 1)) 0 := by
    conv => lhs; rw [← List.take_append_drop (m + 1) l]
    congr 1
    refine List.eq_replicate_iff.2 ⟨by simp, fun x hx => ?_⟩
    obtain ⟨j, hj, rfl⟩ := List.getElem_of_mem hx
    rw [List.getElem_drop]
    exact h _ _ (by omega)
  conv => lhs; rw [e]
  generalize l.length - (m + 1) = n
  induction n with
  | zero =>
    rw [List.replicate_zero, List.append_nil, List.take_succ_eq_append_getElem hm, trim_snoc_ne h0]
  | succ n ih => rw [List.replicate_succ', ← List.append_assoc, trim_snoc_zero, ih]

theorem val_take_next (B : Nat) (l : List Nat) (k : Nat) : val B (l.take (k + 1)) = val B (l.take k) + B ^ k * (l[k]?.getD 0) := by
  by_cases hk : k < l.length
  · rw [val_take_succ _ _ _ hk]; simp [hk]
  · rw [List.take_of_length_le (by omega), List.take_of_length_le (by omega), List.getElem?_eq_none (by omega)]; simp

theorem Digs.set {B : Nat} {l : List Nat} (h : Digs B l) (i x : Nat) (hx : x < B) : Digs B (l.set i x) := fun y hy => by
  rcases List.mem_or_eq_of_mem_set hy with hy | rfl
  · exact h y hy
  · exact hx

theorem take_set (l : List Nat) (k x : Nat) : (l.set k x).take k = l.take k := by
  rw [List.take_set_of_le (Nat.le_refl _)]

end Go.Proofs.Ytlkdahgfnfdakaa.WN
