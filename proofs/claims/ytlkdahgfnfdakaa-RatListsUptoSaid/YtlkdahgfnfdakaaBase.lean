/- What all laws of package rat share. -/
import Derived.Test.YtlkdahgfnfdakaaIsV
import Derived.Test.YtlkdahgfnfdakaaA6
import Derived.Test.YtlkdahgfnfdakaaRows
import Derived.ProofKit
import Derived.SizedLaws
namespace Go.Proofs.Ytlkdahgfnfdakaa
open Go Go.RowKit Go.Shelf WN LM

theorem stop_at {P : Program} {Q : Exit → Act → World → Prop} {r : Nat} {ops : Array Oper} {b : Bool} {a : Act} {w : World} (h : Hid ((Code.region r ops b).wp P Q a w)) : (Code.region r ops b).wp P Q a w := h.out
theorem ba_bne (a : ByteArray) : (a != a) = false := by
  cases a with
  | mk d =>
    show (!(d == d)) = false
    simp
theorem two_code {f : Q3 → Q3 → Q3} {a b : ByteArray} {x y : Rat} (ha : IsV a x) (hb : IsV b y) : (two (fun p q => out3 (f p q)) a b).2 = 0 ∨ (two (fun p q => out3 (f p q)) a b).2 = 2 := by
  obtain ⟨p, hp, rfl⟩ := ha
  obtain ⟨q, hq, rfl⟩ := hb
  unfold two; rw [hp, hq]; exact out3_code _
theorem divT_code {a b : ByteArray} {x y : Rat} (ha : IsV a x) (hb : IsV b y) : (divT a b).2 = 0 ∨ (divT a b).2 = 2 ∨ (divT a b).2 = 12 := by
  obtain ⟨p, hp, rfl⟩ := ha
  obtain ⟨q, hq, rfl⟩ := hb
  have e : divT a b = divF p q := by unfold divT twoG; rw [hp, hq]
  rw [e]; unfold divF
  split
  · right; right; rfl
  · rcases out3_code (divQ p q) with h | h <;> simp [h]
theorem signT_code {a : ByteArray} {x : Rat} (ha : IsV a x) : (signT a).1 = 0 ∨ (signT a).1 = 1 ∨ (signT a).1 = -1 := by
  obtain ⟨p, hp, rfl⟩ := ha
  unfold signT oneG
  rw [hp]
  show signQ p = 0 ∨ signQ p = 1 ∨ signQ p = -1
  unfold signQ sgn
  cases p.1
  · by_cases h : p.2.1 = 0 <;> simp [h]
  · simp

def TrueB (w : World) (e : Ending) (w' : World) : Prop := e = .returned (.bool true) ∧ Below w.heap.size w w'
def wantV (b : Bool) (v : Value) : Value := if b then v else undef
def isB (a : ByteArray) : Bool := (readQ a.data.toList).isSome

end Go.Proofs.Ytlkdahgfnfdakaa

namespace Go.Proofs.Ytlkdahgfnfdakaa
open Go.ChangeShapes Go.WideShapes Go.ChangeAt Go.RowKit
open Go.ChangeMaps (open_string shut_string)

theorem Try.own : ownKnob Try.prog.godebug = none := by kernel_rfl

section
variable {H : Type} {enc : TypeId × Value → H} {P : Program}
/-- a function whose arguments lie in no memory, and that only makes memory -/
theorem post_new {f : Func} {s : ChangeSpec} {x1 x2 x3 x4 : Bool} {W W1 : World} {args : Array Value} {v : Value} {ds gs : List (DataW H)}
    (hW : DataW.Whole enc P f.params.toList s.vars x1 W args.toList ds gs []) (hb : Below W.heap.size W W1)
    (hr : ∀ (b : Nat) (sp : Nat → Bool) (hd : Bool), DataW.TrodAll enc P W1 b sp hd f.resultTypes.toList (v.resultList f.resultTypes.size) (s.fn H (ds ++ gs)).results [])
    (hg : ∀ sp : Nat → Bool, DataW.TrodAll enc P W1 0 sp true f.params.toList args.toList (s.fn H (ds ++ gs)).args [])
    (hv : ∀ sp : Nat → Bool, DataW.TrodVars enc P W1 sp s.vars (s.fn H (ds ++ gs)).vars [])
    (hok : ∀ (j : Nat) (t : TypeId) (r : Value), f.resultTypes[j]? = some t → (v.resultList f.resultTypes.size)[j]? = some r → Value.okWide P W1 .any 0 t r) :
    s.post enc P f x1 x2 x3 x4 W args v W1 := by
  refine ⟨ds, gs, [], [], [], [], hW, hr _ _ _, hg _, hv _, hb.frame _, fun _ => ?_⟩
  refine ⟨hok, _, _, [], ⟨[], [], trodAll_append (hg _) (hr _ _ _), hv _, rfl, ?_, ?_⟩, ?_⟩
  · intro b off hp
    cases hp
  · intro _
    exact List.nodup_nil
  · intro p hp
    cases hp
end

theorem size_of {a : ByteArray} (h : a.data.toList.length ≤ reachBytes) : a.size ≤ 140737488355328 :=
  Nat.le_trans (show a.size ≤ reachBytes by rw [Array.length_toList] at h; exact h) (by decide)

end Go.Proofs.Ytlkdahgfnfdakaa
