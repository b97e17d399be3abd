/-
  No cell of these rows narrows 'for every input' (looked for: loops, veiled, ifaces, maps, wideKeys, modest, calm, conditions, laid).
  DERIVED. THE GIVEN ROWS OF THIS SEAT. 13 by the template 'for every input the law returns true; each argument reads behind the call as it read before'; 0 by the template 'total and deterministic' (their statements: YtlkdahgfnfdakaaTotals.lean).
  GIVEN WITH THE SEED: the statements are not yours to turn. If you find one false, say at which input.
  Laid BY PROGRAM, IN A SANDBOX (cutbox-rows.mjs): the forced cells as the released guide's own fill.sh prints them over the translation c05e9ee314146c3b… (all of the seat's roots in one cut). By AI agents, Wed Nov 11 2026. No macro, syntax, notation, axiom, sorry.
-/
import Derived.Test.YtlkdahgfnfdakaaChecked
import GoSem.Claim
import GoSem.ClaimJoined
import GoSem.ClaimMapViews
import Derived.JoinedTies
import Derived.KernelRfl
namespace Go.Proofs.Ytlkdahgfnfdakaa
/- THE CELL 'sum', in the pinned program and in every row, IS THE sha256 OF THE DUMP (.gsa) THAT YtlkdahgfnfdakaaProg.lean LOADS. Nothing in Lean hashes anything: it is a label: what it is worth is what the hold of that sum in a sandbox is worth. -/
noncomputable def Try.pinned : Pinned := { name := "ytlkdahgfnfdakaa", sum := "c05e9ee314146c3bd91ad964c4279a232f70de5719c7624e861b8b0b667d212c", checked := Try.checked }
namespace Rows
def none {H : Type} : Left H := { results := [], args := [] }

/-- 'linkworklaw01.RatIs': WHATEVER THE INPUT: true; the input reads as it did. -/
def ratIsSpec : ChangeSpec := { name := "ratIs", fn := fun _ => fun
  | [d] => { results := [.lit (.bool true)], args := [d] }
  | _ => none }
def ratIsRow : OpenClaim := { program := "ytlkdahgfnfdakaa", sum := "c05e9ee314146c3bd91ad964c4279a232f70de5719c7624e861b8b0b667d212c", func := "linkwork/linkworklaw01.RatIs", spec := "ratIs", unfollowed := true, recurses := true, apart := false }
def RatIsSaid : Prop := ratIsRow.holds Try.pinned (OpenSpec.ofChange ratIsSpec)

/-- ITS FALSE NEIGHBOUR: 'it returns false'. Refute it at one input. -/
def ratIsWrong : ChangeSpec := { name := "ratIs", fn := fun _ => fun
  | [d] => { results := [.lit (.bool false)], args := [d] }
  | _ => none }
def RatIsWrongFalsely : Prop := ratIsRow.holds Try.pinned (OpenSpec.ofChange ratIsWrong)

/-- 'linkworklaw01.RatMakes': WHATEVER THE INPUT: true; the input reads as it did. -/
def ratMakesSpec : ChangeSpec := { name := "ratMakes", fn := fun _ => fun
  | [d1, d2] => { results := [.lit (.bool true)], args := [d1, d2] }
  | _ => none }
def ratMakesRow : OpenClaim := { program := "ytlkdahgfnfdakaa", sum := "c05e9ee314146c3bd91ad964c4279a232f70de5719c7624e861b8b0b667d212c", func := "linkwork/linkworklaw01.RatMakes", spec := "ratMakes", unfollowed := true, recurses := true, apart := false }
def RatMakesSaid : Prop := ratMakesRow.holds Try.pinned (OpenSpec.ofChange ratMakesSpec)

/-- ITS FALSE NEIGHBOUR: 'it returns false'. Refute it at one input. -/
def ratMakesWrong : ChangeSpec := { name := "ratMakes", fn := fun _ => fun
  | [d1, d2] => { results := [.lit (.bool false)], args := [d1, d2] }
  | _ => none }
def RatMakesWrongFalsely : Prop := ratMakesRow.holds Try.pinned (OpenSpec.ofChange ratMakesWrong)

/-- 'linkworklaw01.RatTwo': WHATEVER THE INPUT: true; the input reads as it did. -/
def ratTwoSpec : ChangeSpec := { name := "ratTwo", fn := fun _ => fun
  | [d1, d2] => { results := [.lit (.bool true)], args := [d1, d2] }
  | _ => none }
def ratTwoRow : OpenClaim := { program := "ytlkdahgfnfdakaa", sum := "c05e9ee314146c3bd91ad964c4279a232f70de5719c7624e861b8b0b667d212c", func := "linkwork/linkworklaw01.RatTwo", spec := "ratTwo", unfollowed := true, recurses := true, apart := false }
def RatTwoSaid : Prop := ratTwoRow.holds Try.pinned (OpenSpec.ofChange ratTwoSpec)

/-- ITS FALSE NEIGHBOUR: 'it returns false'. Refute it at one input. -/
def ratTwoWrong : ChangeSpec := { name := "ratTwo", fn := fun _ => fun
  | [d1, d2] => { results := [.lit (.bool false)], args := [d1, d2] }
  | _ => none }
def RatTwoWrongFalsely : Prop := ratTwoRow.holds Try.pinned (OpenSpec.ofChange ratTwoWrong)

/-- 'linkworklaw01.RatOne': WHATEVER THE INPUT: true; the input reads as it did. -/
def ratOneSpec : ChangeSpec := { name := "ratOne", fn := fun _ => fun
  | [d1, d2] => { results := [.lit (.bool true)], args := [d1, d2] }
  | _ => none }
def ratOneRow : OpenClaim := { program := "ytlkdahgfnfdakaa", sum := "c05e9ee314146c3bd91ad964c4279a232f70de5719c7624e861b8b0b667d212c", func := "linkwork/linkworklaw01.RatOne", spec := "ratOne", unfollowed := true, recurses := true, apart := false }
def RatOneSaid : Prop := ratOneRow.holds Try.pinned (OpenSpec.ofChange ratOneSpec)

/-- ITS FALSE NEIGHBOUR: 'it returns false'. Refute it at one input. -/
def ratOneWrong : ChangeSpec := { name := "ratOne", fn := fun _ => fun
  | [d1, d2] => { results := [.lit (.bool false)], args := [d1, d2] }
  | _ => none }
def RatOneWrongFalsely : Prop := ratOneRow.holds Try.pinned (OpenSpec.ofChange ratOneWrong)

/-- 'linkworklaw01.RatLists': WHATEVER THE INPUT: true; the input reads as it did. -/
def ratListsSpec : ChangeSpec := { name := "ratLists", fn := fun _ => fun
  | [d1, d2] => { results := [.lit (.bool true)], args := [d1, d2] }
  | _ => none }
def ratListsRow : OpenClaim := { program := "ytlkdahgfnfdakaa", sum := "c05e9ee314146c3bd91ad964c4279a232f70de5719c7624e861b8b0b667d212c", func := "linkwork/linkworklaw01.RatLists", spec := "ratLists", unfollowed := true, recurses := true, apart := false }
def RatListsSaid : Prop := ratListsRow.holds Try.pinned (OpenSpec.ofChange ratListsSpec)

/-- ITS FALSE NEIGHBOUR: 'it returns false'. Refute it at one input. -/
def ratListsWrong : ChangeSpec := { name := "ratLists", fn := fun _ => fun
  | [d1, d2] => { results := [.lit (.bool false)], args := [d1, d2] }
  | _ => none }
def RatListsWrongFalsely : Prop := ratListsRow.holds Try.pinned (OpenSpec.ofChange ratListsWrong)

/-- 'linkworklaw01.RatBetween': WHATEVER THE INPUT: true; the input reads as it did. -/
def ratBetweenSpec : ChangeSpec := { name := "ratBetween", fn := fun _ => fun
  | [d1, d2] => { results := [.lit (.bool true)], args := [d1, d2] }
  | _ => none }
def ratBetweenRow : OpenClaim := { program := "ytlkdahgfnfdakaa", sum := "c05e9ee314146c3bd91ad964c4279a232f70de5719c7624e861b8b0b667d212c", func := "linkwork/linkworklaw01.RatBetween", spec := "ratBetween", unfollowed := true, recurses := true, apart := false }
def RatBetweenSaid : Prop := ratBetweenRow.holds Try.pinned (OpenSpec.ofChange ratBetweenSpec)

/-- ITS FALSE NEIGHBOUR: 'it returns false'. Refute it at one input. -/
def ratBetweenWrong : ChangeSpec := { name := "ratBetween", fn := fun _ => fun
  | [d1, d2] => { results := [.lit (.bool false)], args := [d1, d2] }
  | _ => none }
def RatBetweenWrongFalsely : Prop := ratBetweenRow.holds Try.pinned (OpenSpec.ofChange ratBetweenWrong)

/-- 'linkworklaw01.RatField': WHATEVER THE INPUT: true; the input reads as it did. -/
def ratFieldSpec : ChangeSpec := { name := "ratField", fn := fun _ => fun
  | [d1, d2, d3] => { results := [.lit (.bool true)], args := [d1, d2, d3] }
  | _ => none }
def ratFieldRow : OpenClaim := { program := "ytlkdahgfnfdakaa", sum := "c05e9ee314146c3bd91ad964c4279a232f70de5719c7624e861b8b0b667d212c", func := "linkwork/linkworklaw01.RatField", spec := "ratField", unfollowed := true, recurses := true, apart := false }
def RatFieldSaid : Prop := ratFieldRow.holds Try.pinned (OpenSpec.ofChange ratFieldSpec)

/-- ITS FALSE NEIGHBOUR: 'it returns false'. Refute it at one input. -/
def ratFieldWrong : ChangeSpec := { name := "ratField", fn := fun _ => fun
  | [d1, d2, d3] => { results := [.lit (.bool false)], args := [d1, d2, d3] }
  | _ => none }
def RatFieldWrongFalsely : Prop := ratFieldRow.holds Try.pinned (OpenSpec.ofChange ratFieldWrong)

/-- 'linkworklaw01.RatOrder': WHATEVER THE INPUT: true; the input reads as it did. -/
def ratOrderSpec : ChangeSpec := { name := "ratOrder", fn := fun _ => fun
  | [d1, d2, d3] => { results := [.lit (.bool true)], args := [d1, d2, d3] }
  | _ => none }
def ratOrderRow : OpenClaim := { program := "ytlkdahgfnfdakaa", sum := "c05e9ee314146c3bd91ad964c4279a232f70de5719c7624e861b8b0b667d212c", func := "linkwork/linkworklaw01.RatOrder", spec := "ratOrder", unfollowed := true, recurses := true, apart := false }
def RatOrderSaid : Prop := ratOrderRow.holds Try.pinned (OpenSpec.ofChange ratOrderSpec)

/-- ITS FALSE NEIGHBOUR: 'it returns false'. Refute it at one input. -/
def ratOrderWrong : ChangeSpec := { name := "ratOrder", fn := fun _ => fun
  | [d1, d2, d3] => { results := [.lit (.bool false)], args := [d1, d2, d3] }
  | _ => none }
def RatOrderWrongFalsely : Prop := ratOrderRow.holds Try.pinned (OpenSpec.ofChange ratOrderWrong)

/-- 'linkworklaw01.RatFloor': WHATEVER THE INPUT: true; the input reads as it did. -/
def ratFloorSpec : ChangeSpec := { name := "ratFloor", fn := fun _ => fun
  | [d] => { results := [.lit (.bool true)], args := [d] }
  | _ => none }
def ratFloorRow : OpenClaim := { program := "ytlkdahgfnfdakaa", sum := "c05e9ee314146c3bd91ad964c4279a232f70de5719c7624e861b8b0b667d212c", func := "linkwork/linkworklaw01.RatFloor", spec := "ratFloor", unfollowed := true, recurses := true, apart := false }
def RatFloorSaid : Prop := ratFloorRow.holds Try.pinned (OpenSpec.ofChange ratFloorSpec)

/-- ITS FALSE NEIGHBOUR: 'it returns false'. Refute it at one input. -/
def ratFloorWrong : ChangeSpec := { name := "ratFloor", fn := fun _ => fun
  | [d] => { results := [.lit (.bool false)], args := [d] }
  | _ => none }
def RatFloorWrongFalsely : Prop := ratFloorRow.holds Try.pinned (OpenSpec.ofChange ratFloorWrong)

/-- 'linkworklaw01.RatPowers': WHATEVER THE INPUT: true; the input reads as it did. -/
def ratPowersSpec : ChangeSpec := { name := "ratPowers", fn := fun _ => fun
  | [d1, d2, d3] => { results := [.lit (.bool true)], args := [d1, d2, d3] }
  | _ => none }
def ratPowersRow : OpenClaim := { program := "ytlkdahgfnfdakaa", sum := "c05e9ee314146c3bd91ad964c4279a232f70de5719c7624e861b8b0b667d212c", func := "linkwork/linkworklaw01.RatPowers", spec := "ratPowers", unfollowed := true, recurses := true, apart := false }
def RatPowersSaid : Prop := ratPowersRow.holds Try.pinned (OpenSpec.ofChange ratPowersSpec)

/-- ITS FALSE NEIGHBOUR: 'it returns false'. Refute it at one input. -/
def ratPowersWrong : ChangeSpec := { name := "ratPowers", fn := fun _ => fun
  | [d1, d2, d3] => { results := [.lit (.bool false)], args := [d1, d2, d3] }
  | _ => none }
def RatPowersWrongFalsely : Prop := ratPowersRow.holds Try.pinned (OpenSpec.ofChange ratPowersWrong)

/-- 'linkworklaw01.RatSimplest': WHATEVER THE INPUT: true; the input reads as it did. -/
def ratSimplestSpec : ChangeSpec := { name := "ratSimplest", fn := fun _ => fun
  | [d1, d2] => { results := [.lit (.bool true)], args := [d1, d2] }
  | _ => none }
def ratSimplestRow : OpenClaim := { program := "ytlkdahgfnfdakaa", sum := "c05e9ee314146c3bd91ad964c4279a232f70de5719c7624e861b8b0b667d212c", func := "linkwork/linkworklaw01.RatSimplest", spec := "ratSimplest", unfollowed := true, recurses := true, apart := false }
def RatSimplestSaid : Prop := ratSimplestRow.holds Try.pinned (OpenSpec.ofChange ratSimplestSpec)

/-- ITS FALSE NEIGHBOUR: 'it returns false'. Refute it at one input. -/
def ratSimplestWrong : ChangeSpec := { name := "ratSimplest", fn := fun _ => fun
  | [d1, d2] => { results := [.lit (.bool false)], args := [d1, d2] }
  | _ => none }
def RatSimplestWrongFalsely : Prop := ratSimplestRow.holds Try.pinned (OpenSpec.ofChange ratSimplestWrong)

/-- 'linkworklaw01.RatCommon': WHATEVER THE INPUT: true; the input reads as it did. -/
def ratCommonSpec : ChangeSpec := { name := "ratCommon", fn := fun _ => fun
  | [d] => { results := [.lit (.bool true)], args := [d] }
  | _ => none }
def ratCommonRow : OpenClaim := { program := "ytlkdahgfnfdakaa", sum := "c05e9ee314146c3bd91ad964c4279a232f70de5719c7624e861b8b0b667d212c", func := "linkwork/linkworklaw01.RatCommon", spec := "ratCommon", unfollowed := true, recurses := true, apart := false }
def RatCommonSaid : Prop := ratCommonRow.holds Try.pinned (OpenSpec.ofChange ratCommonSpec)

/-- ITS FALSE NEIGHBOUR: 'it returns false'. Refute it at one input. -/
def ratCommonWrong : ChangeSpec := { name := "ratCommon", fn := fun _ => fun
  | [d] => { results := [.lit (.bool false)], args := [d] }
  | _ => none }
def RatCommonWrongFalsely : Prop := ratCommonRow.holds Try.pinned (OpenSpec.ofChange ratCommonWrong)

/-- 'linkworklaw01.RatForm': WHATEVER THE INPUT: true; the input reads as it did. -/
def ratFormSpec : ChangeSpec := { name := "ratForm", fn := fun _ => fun
  | [d1, d2] => { results := [.lit (.bool true)], args := [d1, d2] }
  | _ => none }
def ratFormRow : OpenClaim := { program := "ytlkdahgfnfdakaa", sum := "c05e9ee314146c3bd91ad964c4279a232f70de5719c7624e861b8b0b667d212c", func := "linkwork/linkworklaw01.RatForm", spec := "ratForm", unfollowed := true, recurses := true, apart := false }
def RatFormSaid : Prop := ratFormRow.holds Try.pinned (OpenSpec.ofChange ratFormSpec)

/-- ITS FALSE NEIGHBOUR: 'it returns false'. Refute it at one input. -/
def ratFormWrong : ChangeSpec := { name := "ratForm", fn := fun _ => fun
  | [d1, d2] => { results := [.lit (.bool false)], args := [d1, d2] }
  | _ => none }
def RatFormWrongFalsely : Prop := ratFormRow.holds Try.pinned (OpenSpec.ofChange ratFormWrong)

/- THE SECOND FORM. 'bulk': how many values and letters a reading holds, each counted each time it is reached (what is shared counts as often as it is met; a slice's spare places count too). A statement '..UptoSaid' is the law's where the arguments, and the package variables that the reading takes, are together of bulk at most 1048576: NARROWER than '..Said'. Prove '..Said' where nothing that the law and all that it calls make is longer than what came in: it says more and counts as full. Else prove '..UptoSaid'. A law counts once. -/
mutual
def uptoBulk {H : Type} : DataW H → Nat
  | .lit (.string bytes) => bytes.length + 1
  | .lit _ => 1
  | .nil => 1
  | .ptr d => uptoBulk d + 1
  | .slice elems spare => uptoBulkAll elems + uptoBulkAll spare + 1
  | .agg parts => uptoBulkAll parts + 1
  | .iface _ d => uptoBulk d + 1
  | .map entries => uptoBulkEntries entries + 1
  | .held _ => 1
def uptoBulkAll {H : Type} : List (DataW H) → Nat
  | [] => 0
  | d :: r => uptoBulk d + uptoBulkAll r
def uptoBulkEntries {H : Type} : List (Lit × DataW H) → Nat
  | [] => 0
  | x :: r => uptoBulkEntry x + uptoBulkEntries r
def uptoBulkEntry {H : Type} : Lit × DataW H → Nat
  | (.string bytes, d) => bytes.length + uptoBulk d + 1
  | (_, d) => uptoBulk d + 1
 end
def uptoSmall : (H : Type) → List (DataW H) → Bool := fun _ ds => decide (uptoBulkAll ds ≤ 1048576)
def OpenSpec.upto (s : _root_.Go.ChangeSpec) : _root_.Go.OpenSpec := { _root_.Go.OpenSpec.ofChange s with cond := some uptoSmall }

/-- 'linkworklaw01.RatIs', WHERE WHAT IT READS IS OF BULK AT MOST 1048576: true; the input reads as it did. -/
def ratIsUptoRow : OpenClaim := { program := "ytlkdahgfnfdakaa", sum := "c05e9ee314146c3bd91ad964c4279a232f70de5719c7624e861b8b0b667d212c", func := "linkwork/linkworklaw01.RatIs", spec := "ratIs", unfollowed := true, recurses := true, apart := false, narrowed := true }
def RatIsUptoSaid : Prop := ratIsUptoRow.holds Try.pinned (OpenSpec.upto ratIsSpec)

/-- 'linkworklaw01.RatMakes', WHERE WHAT IT READS IS OF BULK AT MOST 1048576: true; the input reads as it did. -/
def ratMakesUptoRow : OpenClaim := { program := "ytlkdahgfnfdakaa", sum := "c05e9ee314146c3bd91ad964c4279a232f70de5719c7624e861b8b0b667d212c", func := "linkwork/linkworklaw01.RatMakes", spec := "ratMakes", unfollowed := true, recurses := true, apart := false, narrowed := true }
def RatMakesUptoSaid : Prop := ratMakesUptoRow.holds Try.pinned (OpenSpec.upto ratMakesSpec)

/-- 'linkworklaw01.RatTwo', WHERE WHAT IT READS IS OF BULK AT MOST 1048576: true; the input reads as it did. -/
def ratTwoUptoRow : OpenClaim := { program := "ytlkdahgfnfdakaa", sum := "c05e9ee314146c3bd91ad964c4279a232f70de5719c7624e861b8b0b667d212c", func := "linkwork/linkworklaw01.RatTwo", spec := "ratTwo", unfollowed := true, recurses := true, apart := false, narrowed := true }
def RatTwoUptoSaid : Prop := ratTwoUptoRow.holds Try.pinned (OpenSpec.upto ratTwoSpec)

/-- 'linkworklaw01.RatOne', WHERE WHAT IT READS IS OF BULK AT MOST 1048576: true; the input reads as it did. -/
def ratOneUptoRow : OpenClaim := { program := "ytlkdahgfnfdakaa", sum := "c05e9ee314146c3bd91ad964c4279a232f70de5719c7624e861b8b0b667d212c", func := "linkwork/linkworklaw01.RatOne", spec := "ratOne", unfollowed := true, recurses := true, apart := false, narrowed := true }
def RatOneUptoSaid : Prop := ratOneUptoRow.holds Try.pinned (OpenSpec.upto ratOneSpec)

/-- 'linkworklaw01.RatLists', WHERE WHAT IT READS IS OF BULK AT MOST 1048576: true; the input reads as it did. -/
def ratListsUptoRow : OpenClaim := { program := "ytlkdahgfnfdakaa", sum := "c05e9ee314146c3bd91ad964c4279a232f70de5719c7624e861b8b0b667d212c", func := "linkwork/linkworklaw01.RatLists", spec := "ratLists", unfollowed := true, recurses := true, apart := false, narrowed := true }
def RatListsUptoSaid : Prop := ratListsUptoRow.holds Try.pinned (OpenSpec.upto ratListsSpec)

/-- 'linkworklaw01.RatBetween', WHERE WHAT IT READS IS OF BULK AT MOST 1048576: true; the input reads as it did. -/
def ratBetweenUptoRow : OpenClaim := { program := "ytlkdahgfnfdakaa", sum := "c05e9ee314146c3bd91ad964c4279a232f70de5719c7624e861b8b0b667d212c", func := "linkwork/linkworklaw01.RatBetween", spec := "ratBetween", unfollowed := true, recurses := true, apart := false, narrowed := true }
def RatBetweenUptoSaid : Prop := ratBetweenUptoRow.holds Try.pinned (OpenSpec.upto ratBetweenSpec)

/-- 'linkworklaw01.RatField', WHERE WHAT IT READS IS OF BULK AT MOST 1048576: true; the input reads as it did. -/
def ratFieldUptoRow : OpenClaim := { program := "ytlkdahgfnfdakaa", sum := "c05e9ee314146c3bd91ad964c4279a232f70de5719c7624e861b8b0b667d212c", func := "linkwork/linkworklaw01.RatField", spec := "ratField", unfollowed := true, recurses := true, apart := false, narrowed := true }
def RatFieldUptoSaid : Prop := ratFieldUptoRow.holds Try.pinned (OpenSpec.upto ratFieldSpec)

/-- 'linkworklaw01.RatOrder', WHERE WHAT IT READS IS OF BULK AT MOST 1048576: true; the input reads as it did. -/
def ratOrderUptoRow : OpenClaim := { program := "ytlkdahgfnfdakaa", sum := "c05e9ee314146c3bd91ad964c4279a232f70de5719c7624e861b8b0b667d212c", func := "linkwork/linkworklaw01.RatOrder", spec := "ratOrder", unfollowed := true, recurses := true, apart := false, narrowed := true }
def RatOrderUptoSaid : Prop := ratOrderUptoRow.holds Try.pinned (OpenSpec.upto ratOrderSpec)

/-- 'linkworklaw01.RatFloor', WHERE WHAT IT READS IS OF BULK AT MOST 1048576: true; the input reads as it did. -/
def ratFloorUptoRow : OpenClaim := { program := "ytlkdahgfnfdakaa", sum := "c05e9ee314146c3bd91ad964c4279a232f70de5719c7624e861b8b0b667d212c", func := "linkwork/linkworklaw01.RatFloor", spec := "ratFloor", unfollowed := true, recurses := true, apart := false, narrowed := true }
def RatFloorUptoSaid : Prop := ratFloorUptoRow.holds Try.pinned (OpenSpec.upto ratFloorSpec)

/-- 'linkworklaw01.RatPowers', WHERE WHAT IT READS IS OF BULK AT MOST 1048576: true; the input reads as it did. -/
def ratPowersUptoRow : OpenClaim := { program := "ytlkdahgfnfdakaa", sum := "c05e9ee314146c3bd91ad964c4279a232f70de5719c7624e861b8b0b667d212c", func := "linkwork/linkworklaw01.RatPowers", spec := "ratPowers", unfollowed := true, recurses := true, apart := false, narrowed := true }
def RatPowersUptoSaid : Prop := ratPowersUptoRow.holds Try.pinned (OpenSpec.upto ratPowersSpec)

/-- 'linkworklaw01.RatSimplest', WHERE WHAT IT READS IS OF BULK AT MOST 1048576: true; the input reads as it did. -/
def ratSimplestUptoRow : OpenClaim := { program := "ytlkdahgfnfdakaa", sum := "c05e9ee314146c3bd91ad964c4279a232f70de5719c7624e861b8b0b667d212c", func := "linkwork/linkworklaw01.RatSimplest", spec := "ratSimplest", unfollowed := true, recurses := true, apart := false, narrowed := true }
def RatSimplestUptoSaid : Prop := ratSimplestUptoRow.holds Try.pinned (OpenSpec.upto ratSimplestSpec)

/-- 'linkworklaw01.RatCommon', WHERE WHAT IT READS IS OF BULK AT MOST 1048576: true; the input reads as it did. -/
def ratCommonUptoRow : OpenClaim := { program := "ytlkdahgfnfdakaa", sum := "c05e9ee314146c3bd91ad964c4279a232f70de5719c7624e861b8b0b667d212c", func := "linkwork/linkworklaw01.RatCommon", spec := "ratCommon", unfollowed := true, recurses := true, apart := false, narrowed := true }
def RatCommonUptoSaid : Prop := ratCommonUptoRow.holds Try.pinned (OpenSpec.upto ratCommonSpec)

/-- 'linkworklaw01.RatForm', WHERE WHAT IT READS IS OF BULK AT MOST 1048576: true; the input reads as it did. -/
def ratFormUptoRow : OpenClaim := { program := "ytlkdahgfnfdakaa", sum := "c05e9ee314146c3bd91ad964c4279a232f70de5719c7624e861b8b0b667d212c", func := "linkwork/linkworklaw01.RatForm", spec := "ratForm", unfollowed := true, recurses := true, apart := false, narrowed := true }
def RatFormUptoSaid : Prop := ratFormUptoRow.holds Try.pinned (OpenSpec.upto ratFormSpec)

end Rows
end Go.Proofs.Ytlkdahgfnfdakaa
