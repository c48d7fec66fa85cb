/- What Go's library does at this program: the kit's generic contracts laid at this dump (shelf_lay_g, lay-plain.mjs). -/
import Derived.Shelf.SlIterI.Collect
import Derived.Ground.GgzProg
import Derived.Test.YtfogodbbgbnhkaaGreatDoorProg
import Derived.Shelf.SlGeneric
namespace Go.Proofs
open Go.Shelf
def Tryz.apseq_ren : Go.Shelf.Ren := ⟨fun | 11 => 226 | n => n, fun | 24 => 27 | 26 => 3 | 28 => 214 | 0 => 0 | 33 => 161 | 4 => 4 | n => n, fun | n => n⟩
theorem Tryz.apseq : Go.Proofs.SlLaysZI.n11 Tryz.prog Tryz.apseq_ren := {
  mixed := by kernel_rfl
  f11 := ⟨Tryz.f226.name, by decide, Tryz.func226.trans (congrArg some (by kernel_rfl))⟩
  t0 := Tryz.underlying0
  a0 := Tryz.isAgg0
  z0 := Tryz.sizeOf0
  v0 := Tryz.zeroValue0
  t24 := Tryz.underlying27
  a24 := Tryz.isAgg27
  z24 := Tryz.sizeOf27
  v24 := Tryz.zeroValue27
  t26 := Tryz.underlying3
  a26 := Tryz.isAgg3
  z26 := Tryz.sizeOf3
  v26 := Tryz.zeroValue3
  t28 := Tryz.underlying214
  a28 := Tryz.isAgg214
  z28 := Tryz.sizeOf214
  v28 := Tryz.zeroValue214
  i26 := by kernel_rfl }
end Go.Proofs
