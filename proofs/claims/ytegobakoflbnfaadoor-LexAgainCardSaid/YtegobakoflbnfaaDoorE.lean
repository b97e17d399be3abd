/- isKeyword; what a box that holds a token says; word. -/
import Derived.Test.YtegobakoflbnfaaDoorD
namespace Go.Proofs.YtegobakoflbnfaaDoor
open Go Go.RowKit

def keysL : List (List UInt8) := [[97, 110, 100], [99, 111, 110, 110, 101, 99, 116], [99, 111, 110, 110, 101, 99, 116, 111, 114], [100, 101, 114], [100, 105, 115, 99, 114, 101, 116, 101], [101, 108, 115, 101], [101, 110, 100], [101, 113, 117, 97, 116, 105, 111, 110], [101, 120, 116, 101, 110, 100, 115], [102, 97, 108, 115, 101], [102, 108, 111, 119], [102, 111, 114], [105, 102], [105, 110], [105, 110, 105, 116, 105, 97, 108], [105, 110, 112, 117, 116], [108, 111, 111, 112], [109, 111, 100, 101, 108], [110, 111, 116], [111, 114], [112, 97, 114, 97, 109, 101, 116, 101, 114], [112, 114, 101], [114, 101, 100, 101, 99, 108, 97, 114, 101], [114, 101, 105, 110, 105, 116], [114, 101, 112, 108, 97, 99, 101, 97, 98, 108, 101], [115, 97, 109, 112, 108, 101], [115, 105, 122, 101], [115, 117, 109], [116, 104, 101, 110], [116, 105, 109, 101], [116, 114, 117, 101], [119, 104, 101, 110]]
def isKey (s : List UInt8) : Bool := keysL.any fun k => s == k

set_option maxHeartbeats 8000000 in
set_option maxRecDepth 100000 in
theorem key_any (w : World) (s : ByteArray) : Calls Tryd.prog 54 #[.string s] w fun e w' => e = .returned (.bool (isKey s.toList)) ∧ w' = w := by
  obtain ⟨x, hx⟩ : ∃ x, x = isKey s.toList := ⟨_, rfl⟩
  have HX := Lib.hid hx
  rw [← hx]
  clear hx
  go_enter Tryd.func54, Tryd.ntmps54
  go_wp2_with fail
  all_goals first
    | (rename_i h1 h2; rw [h1] at h2; cases h2; done)
    | (go_ret
       refine ⟨?_, rfl⟩
       rw [HX.out]
       show Ending.returned (Value.bool _) = Ending.returned (Value.bool (isKey s.toList))
       unfold isKey keysL
       simp only [List.any_cons, List.any_nil, Bool.or_false, Bool.false_or, Bool.true_or, *]
       done)
    | (go_ret
       refine ⟨?_, rfl⟩
       rw [HX.out]
       show Ending.returned (Value.bool _) = Ending.returned (Value.bool (isKey s.toList))
       unfold isKey keysL
       simp only [List.any_cons, List.any_nil, Bool.or_false, Bool.false_or, Bool.true_or, *]
       rfl)
end Go.Proofs.YtegobakoflbnfaaDoor
