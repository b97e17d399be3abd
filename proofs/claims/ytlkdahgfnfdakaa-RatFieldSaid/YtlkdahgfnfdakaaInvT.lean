/- Words for the law of Inv: relations of slots, listed by slot. -/
import Derived.Test.YtlkdahgfnfdakaaInv
import Derived.Test.YtlkdahgfnfdakaaFracG
namespace Go.Proofs.Ytlkdahgfnfdakaa
open Go Go.RowKit

/-- a relation of a slot's value and the world, which new memory keeps -/
structure Rel where
  r : Value → World → Prop
  keeps : ∀ v w w', Below w.heap.size w w' → r v w → r v w'
def pick : List (Tmp × Rel) → Tmp → Value → World → Prop
  | [], _ => fun _ _ => True
  | (k, r) :: l, t => if t = k then r.r else pick l t
theorem pick_keeps : ∀ (l : List (Tmp × Rel)) (t : Tmp) (v : Value) (w w' : World), Below w.heap.size w w' → pick l t v w → pick l t v w'
  | [], _, _, _, _, _, _ => trivial
  | (k, r) :: l, t, v, w, w', hb, hp => by
    unfold pick at hp ⊢
    split
    · rename_i e; rw [if_pos e] at hp; exact r.keeps v w w' hb hp
    · rename_i e; rw [if_neg e] at hp; exact pick_keeps l t v w w' hb hp

def Is (v0 : Value) : Rel := ⟨fun v _ => v = v0, fun _ _ _ _ h => h⟩
def IsNum (n : Nat) : Rel := ⟨fun v w => Num w v n, fun _ _ _ hb h => Num.go h hb⟩
def IsFrac (s : Bool) (n d : Nat) : Rel := ⟨fun v w => Frac w v s n d, fun _ _ _ hb h => Frac.below h hb (Nat.le_refl _)⟩
/-- a box made since, whatever it holds -/
def IsBox (B : Nat) (a b c : Value) : Rel := ⟨fun v w => ∃ p, v = .pointer (some ⟨p, 0, none⟩) ∧ B ≤ p ∧ Box3 w p a b c, fun _ _ _ hb ⟨p, h1, h2, h3⟩ => ⟨p, h1, h2, h3.go hb⟩⟩

theorem steps_cons {P : Program} {ops : Array Oper} {Q : Exit → Act → World → Prop} {n : Nat} {base : Act} {w0 : World} {R : Tmp → Value → World → Prop} {o : Oper} {l : List Oper} {k : Nat}
    (hg : o.guard = none) (h1 : StepU P ops Q n base w0 R o) (h2 : StepsInv P ops Q n base w0 R (l.take k)) : StepsInv P ops Q n base w0 R ((o :: l).take (k + 1)) := ⟨h1.inv hg, h2⟩
theorem steps_guard {P : Program} {ops : Array Oper} {Q : Exit → Act → World → Prop} {n : Nat} {base : Act} {w0 : World} {R : Tmp → Value → World → Prop} {o : Oper} {l : List Oper} {k : Nat}
    (h1 : StepInv P ops Q n base w0 R o) (h2 : StepsInv P ops Q n base w0 R (l.take k)) : StepsInv P ops Q n base w0 R ((o :: l).take (k + 1)) := ⟨h1, h2⟩

/-- the law, the relations listed by slot -/
theorem region_inv {P : Program} {Q : Exit → Act → World → Prop} {id : Nat} {base : Act} {w : World} {l : List Oper} (n N : Nat) (L : List (Tmp × Rel)) (hm : P.follows .mixedOrders = true) (hN : base.tmps.size = N) (hok : invOk .any l n N = true)
    (hstep : StepsInv P l.toArray Q n base w (pick L) (l.take n))
    (hend : ∀ (g : Tmp → Value) (w' : World), Below w.heap.size w w' → HeadHeld (pick L) g w' (l.take n) → wpList P l.toArray Q (l.drop n) (putHead g (l.take n) base) w') :
    (Code.region id l.toArray true).wp P Q base w := wp_region_inv n N (pick L) hm hN hok (pick_keeps L) hstep hend
end Go.Proofs.Ytlkdahgfnfdakaa
