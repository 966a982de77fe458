import Derived.Test.YtalbiekleggkoaaSsState
namespace Go.Proofs.Ytalbiekleggkoaa
open Go.RowKit

def findBlock (n : Nat) : Code → Option Code
  | .block m c => if m == n then some (.block m c) else findBlock n c
  | .seq a b => match findBlock n a with
    | some c => some c
    | none => findBlock n b
  | .cond _ a b => match findBlock n a with
    | some c => some c
    | none => findBlock n b
  | .loop c => findBlock n c
  | .scope c => findBlock n c
  | _ => none
/-- The switch. -/
noncomputable def sw : Code := (Try.f3.body.bind (findBlock 2)).getD .skip
end Go.Proofs.Ytalbiekleggkoaa
