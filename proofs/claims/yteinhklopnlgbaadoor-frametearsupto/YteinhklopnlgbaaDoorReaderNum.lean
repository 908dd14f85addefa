/-
  The Reader's Num, by contract: whatever bytes are left.
-/
import Derived.Test.YteinhklopnlgbaaDoorReader
import Derived.Test.YteinhklopnlgbaaDoorNumR
namespace Go.Proofs.YteinhklopnlgbaaDoor
open Go.RowKit

/-- What a taking leaves. -/
def Rleft (w : World) (b : Nat) (v : Value) (w' : World) (zs : List Int) (e : Int) : Prop := ∃ v', Rd w' b v' zs e ∧ Rstep b w w' ∧ (v'.ownBlock = v.ownBlock ∨ v'.ownBlock = none)

end Go.Proofs.YteinhklopnlgbaaDoor
