/-
  The contract of sort.Search, laid at this program's own numbers.
-/
import Derived.Shelf.SlSorted.Search
import Derived.Test.YtcndjfpcddidhacDoorProg
import Derived.Below
namespace Go.Proofs
open Go.Shelf
def Tryd.search_ren : Go.Shelf.Ren := ⟨fun | 16 => 45 | n => n, fun | 3 => 3 | 35 => 26 | 4 => 4 | 38 => 107 | n => n, fun | n => n⟩
theorem Tryd.search : Go.Proofs.SlLaysO.n16 Tryd.prog Tryd.search_ren := {
  mixed := by kernel_rfl
  f16 := Tryd.func45.trans (congrArg some (by kernel_rfl))
  t3 := Tryd.underlying3
  a3 := Tryd.isAgg3
  z3 := Tryd.sizeOf3
  v3 := Tryd.zeroValue3
  t4 := Tryd.underlying4
  a4 := Tryd.isAgg4
  z4 := Tryd.sizeOf4
  v4 := Tryd.zeroValue4
  t35 := Tryd.underlying26
  a35 := Tryd.isAgg26
  z35 := Tryd.sizeOf26
  v35 := Tryd.zeroValue26
  t38 := Tryd.underlying107
  a38 := Tryd.isAgg107
  z38 := Tryd.sizeOf107
  v38 := Tryd.zeroValue107 }
end Go.Proofs
