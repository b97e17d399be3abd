/- The law of Inv for a region that keeps the text's order: its guards are not parted. -/
import Derived.Test.YtlkdahgfnfdakaaInvT
namespace Go.Proofs.Ytlkdahgfnfdakaa
open Go Go.RowKit

section
variable {P : Program} {Q : Exit → Act → World → Prop}

structure SInv (ops : Array Oper) (base : Act) (w0 : World) (R : Tmp → Value → World → Prop) (k : Nat) (a : Act) (w : World) : Prop where
  tsize : a.tmps.size = base.tmps.size
  defers : a.defers = base.defers
  off : ∀ t, (∀ j, j < k → dstAt ops j ≠ some t) → a.eval (.tmp t) = base.eval (.tmp t)
  rel : ∀ j, j < k → ∀ d, dstAt ops j = some d → R d (a.eval (.tmp d)) w
  good : Below w0.heap.size w0 w

theorem wpOps_seq {ops : Array Oper} {n N : Nat} {base : Act} {w0 : World} {R : Tmp → Value → World → Prop} (hok : headOk .any ops n N = true) (hN : base.tmps.size = N)
    (hmono : ∀ t v w w', Below w.heap.size w w' → R t v w → R t v w')
    (hstep : ∀ j o, j < n → ops[j]? = some o → StepInv P ops Q n base w0 R o) {rest : List Nat}
    (hend : ∀ a w, SInv ops base w0 R n a w → wpOps P ops Q rest a w) :
    ∀ (f k : Nat) (a : Act) (w : World), k + f = n → SInv ops base w0 R k a w → wpOps P ops Q (List.range' k f ++ rest) a w
  | 0, k, a, w, hk, inv => by
    obtain rfl : k = n := by omega
    exact hend a w inv
  | f + 1, k, a, w, hk, inv => by
    have hkn : k < n := by omega
    obtain ⟨o, d, ho, hfk⟩ := headOk_spec hok hkn
    have hdk : dstAt ops k = some d := by simp [dstAt, ho, hfk.dst]
    rw [List.range'_succ, List.cons_append]
    unfold wpOps
    simp only [ho]
    refine wanted_or (hstep k o hkn ho a w (fun t ht => by rw [← Act.eval_tmp, ← Act.eval_tmp]; exact inv.off t fun j hj hd => noHead ht (by omega) hd) (fun t ht => ?_) inv.good _ (fun v w' hb hr => ?_))
    · simp only [Bool.and_eq_true] at ht
      obtain ⟨e, he, hb, hd⟩ := hfk.looks t (by simpa using ht.1) ht.2
      rw [← Act.eval_tmp]
      exact inv.rel e.on (hfk.after e he hb) t hd
    · refine wpOps_seq hok hN hmono hstep hend f (k + 1) _ _ (by omega) ?_
      have hda : d < a.tmps.size := by rw [inv.tsize, hN]; exact hfk.lt
      refine ⟨?_, ?_, fun t ht => ?_, fun j hj dj hdj => ?_, inv.good.trans (hb.mono inv.good.size)⟩
      · rw [hfk.dst]; simp [Act.put, inv.tsize]
      · rw [hfk.dst]; simp [Act.put, inv.defers]
      · have hdt : d ≠ t := by rintro rfl; exact ht k (by omega) hdk
        rw [hfk.dst, Act.eval_tmp_put_ne hdt]
        exact inv.off t fun j hj => ht j (by omega)
      · by_cases hkj : k = j
        · subst hkj
          obtain rfl : dj = d := Option.some.inj (hdj.symm.trans hdk)
          rw [hfk.dst, Act.eval_tmp_put_eq hda]
          rw [hfk.dst] at hr
          exact hr
        · have hne : d ≠ dj := by
            rintro rfl
            exact hfk.own j (by omega) (Ne.symm hkj) hdj
          rw [hfk.dst, Act.eval_tmp_put_ne hne]
          exact hmono _ _ _ _ hb (inv.rel j (by omega) dj hdj)

/-- the law, the relations listed by slot -/
theorem region_seq {id : Nat} {base : Act} {w : World} {l : List Oper} (n N : Nat) (L : List (Tmp × Rel)) (hN : base.tmps.size = N) (hok : (headOk .any l.toArray n N && decide (n ≤ l.length)) = true)
    (hstep : StepsInv P l.toArray Q n base w (pick L) (l.take n))
    (hend : ∀ (g : Tmp → Value) (w' : World), Below w.heap.size w w' → HeadHeld (pick L) g w' (l.take n) → wpList P l.toArray Q (l.drop n) (putHead g (l.take n) base) w') :
    (Code.region id l.toArray false).wp P Q base w := by
  simp only [Bool.and_eq_true, decide_eq_true_eq] at hok
  obtain ⟨h1, h4⟩ := hok
  refine wp_region ?_
  have hr : List.range l.toArray.size = List.range' 0 n ++ List.range' n (l.length - n) := by
    have e := List.range'_append_1 (s := 0) (m := n) (n := l.length - n)
    rw [Nat.zero_add, show n + (l.length - n) = l.length from by omega] at e
    rw [List.range_eq_range', List.size_toArray, e]
  rw [hr]
  refine wpOps_seq (P := P) (Q := Q) h1 hN (pick_keeps L) (fun j o hj ho => hstep.get j o (by rw [List.getElem?_take, if_pos hj]; simpa using ho)) ?_ n 0 base w (by omega)
    ⟨rfl, rfl, fun _ _ => rfl, fun j hj => absurd hj (Nat.not_lt_zero _), Below.refl _ _⟩
  intro a w' inv
  have hlen : (l.drop n).length = l.length - n := by simp
  have he := wpOps_eq_wpList (P := P) (ops := l.toArray) (Q := Q) (l.drop n) n (fun j => by simp [List.getElem?_drop])
  rw [hlen] at he
  rw [he]
  have hact : a = putHead (fun t => a.eval (.tmp t)) (l.take n) base := by
    apply act_ext
    · rw [putHead_size, inv.tsize]
    · rw [putHead_defers, inv.defers]
    · intro t ht
      rw [putHead_eval _ _ _ _ (by rw [← inv.tsize]; exact ht)]
      split
      · rfl
      · rename_i hno
        refine inv.off t fun j hj hd => ?_
        apply hno
        obtain ⟨o, ho, hod⟩ := Option.bind_eq_some_iff.1 hd
        rw [List.any_eq_true]
        refine ⟨o, ?_, by simp [hod]⟩
        refine List.mem_of_getElem? (i := j) ?_
        rw [List.getElem?_take, if_pos hj]; simpa using ho
  rw [hact]
  refine hend _ w' inv.good (headHeld_of fun j o ho => ?_)
  have hj : j < n ∧ l.toArray[j]? = some o := by
    rw [List.getElem?_take] at ho
    split at ho
    · rename_i h; exact ⟨h, by simpa using ho⟩
    · cases ho
  obtain ⟨o', d, ho'', hf⟩ := headOk_spec h1 hj.1
  obtain rfl : o' = o := Option.some.inj (ho''.symm.trans hj.2)
  have := inv.rel j hj.1 d (by simp [dstAt, ho'', hf.dst])
  rw [hf.dst]
  exact this
end
/-- the guard's slot decides: both ways are shown -/
theorem guard_by {P : Program} {ops : Array Oper} {Q : Exit → Act → World → Prop} {o : Oper} {a : Act} {w : World} {K : Act → World → Prop} {j : Nat} {want b : Bool} {t : Tmp}
    (hg : o.guard = some (j, want)) (ht : dstAt ops j = some t) (h : a.tmps[t]?.getD undef = .bool b) (h1 : b = want → o.wp P a w K Q) (h2 : b ≠ want → K (a.put o.dst undef) w) :
    if Region.wanted o (yielded ops a.tmps) = true then o.wp P a w K Q else K (a.put o.dst undef) w := by
  rw [wanted_slot hg ht h]
  by_cases hb : b = want
  · rw [if_pos (by simp [hb])]; exact h1 hb
  · rw [if_neg (by simpa using hb)]; exact h2 hb
end Go.Proofs.Ytlkdahgfnfdakaa
