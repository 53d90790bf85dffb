/-
  A strings.Builder's WriteString by the library's contract, laid by hand (the kit's laying leaves it out where the translation has no strings.Join).
-/
import Derived.Test.YtadjedoakenlkaaGreatDoorShelf
import Derived.Shelf.Strings.BuilderK
import Derived.Shelf.Strings.Builder1
import Derived.WalkKit
import Derived.Below
namespace Go.Proofs.YtadjedoakenlkaaGreatDoor.Bd
open Go.RowKit
def ren : Go.Shelf.Ren := ⟨fun | 166 => 39 | 240 => 54 | 276 => 78 | n => n, fun | 9 => 9 | 3 => 3 | 4 => 4 | 0 => 0 | 20 => 20 | 72 => 69 | 76 => 65 | 70 => 67 | 37 => 58 | 75 => 64 | 164 => 122 | 5 => 5 | 80 => 70 | n => n, fun | n => n⟩
theorem lays : Go.Proofs.Lays.n166 Tryz.prog ren := {
  mixed := by kernel_rfl
  f166 := Tryz.func39.trans (congrArg some (by kernel_rfl))
  f240 := Tryz.func54.trans (congrArg some (by kernel_rfl))
  f276 := Tryz.func78.trans (congrArg some (by kernel_rfl))
  t0 := Tryz.underlying0, a0 := Tryz.isAgg0, z0 := Tryz.sizeOf0, v0 := Tryz.zeroValue0
  t3 := Tryz.underlying3, a3 := Tryz.isAgg3, z3 := Tryz.sizeOf3, v3 := Tryz.zeroValue3
  t4 := Tryz.underlying4, a4 := Tryz.isAgg4, z4 := Tryz.sizeOf4, v4 := Tryz.zeroValue4
  t9 := Tryz.underlying9, a9 := Tryz.isAgg9, z9 := Tryz.sizeOf9, v9 := Tryz.zeroValue9
  t20 := Tryz.underlying20, a20 := Tryz.isAgg20, z20 := Tryz.sizeOf20, v20 := Tryz.zeroValue20
  t37 := Tryz.underlying58, a37 := Tryz.isAgg58, z37 := Tryz.sizeOf58, v37 := Tryz.zeroValue58
  t70 := Tryz.underlying67, a70 := Tryz.isAgg67, z70 := Tryz.sizeOf67, v70 := Tryz.zeroValue67
  t72 := Tryz.underlying69, a72 := Tryz.isAgg69, z72 := Tryz.sizeOf69, v72 := Tryz.zeroValue69
  t75 := Tryz.underlying64, a75 := Tryz.isAgg64, z75 := Tryz.sizeOf64, v75 := Tryz.zeroValue64
  t164 := Tryz.underlying122, a164 := Tryz.isAgg122, z164 := Tryz.sizeOf122, v164 := Tryz.zeroValue122 }
theorem extra : Builder.Extra Tryz.prog ren := {
  sizeBuilder := by kernel_rfl
  liesBuilder := by kernel_rfl
  t5 := Tryz.underlying5
  a5 := Tryz.isAgg5
  z5 := Tryz.sizeOf5
  v5 := Tryz.zeroValue5
  infoByte := by kernel_rfl
  cellsByte := by kernel_rfl
  sizeByte := by kernel_rfl
  neB5 := by decide }
theorem write (B b : Nat) (bs : List Value) (s : ByteArray) (w : World) (h : Lib.IsBuilder 69 5 B b bs w) (hlen : bs.length + s.size ≤ 140737488355328) (hBw : B ≤ w.heap.size) :
    Calls Tryz.prog 39 #[.pointer (some ⟨b, 0, none⟩), .string s] w fun e w' => e = .returned (.tuple #[.int .i64 s.size, .nilIface]) ∧ (Lib.BuilderAt 69 5 B b (.pointer (some ⟨b, 0, none⟩)) (bs ++ Lib.strCells s) w' ∧ Below B w w') :=
  Any.Builder_WriteString lays extra B b bs s w h hlen hBw
end Go.Proofs.YtadjedoakenlkaaGreatDoor.Bd
