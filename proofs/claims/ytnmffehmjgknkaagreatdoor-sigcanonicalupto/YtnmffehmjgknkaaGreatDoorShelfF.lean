/-
  Layings of the library's contracts at this program.
-/
import Derived.Shelf.Strings.FieldsFuncAny
import Derived.Test.YtnmffehmjgknkaaGreatDoorProg
namespace Go.Proofs
open Go.Shelf
def YtnmffehmjgknkaaGreatDoor.lays229_ren : Go.Shelf.Ren := ⟨fun | 229 => 158 | n => n, fun | 0 => 0 | 3 => 3 | 4 => 4 | 9 => 9 | 21 => 21 | 31 => 26 | 40 => 172 | 152 => 202 | 154 => 204 | n => n, fun | n => n⟩
theorem YtnmffehmjgknkaaGreatDoor.lays229 : Go.Proofs.Lays.n229 Tryz.prog YtnmffehmjgknkaaGreatDoor.lays229_ren := {
  mixed := by kernel_rfl
  f229 := Tryz.func158.trans (congrArg some (by kernel_rfl))
  t0 := Tryz.underlying0
  a0 := Tryz.isAgg0
  z0 := Tryz.sizeOf0
  v0 := Tryz.zeroValue0
  t3 := Tryz.underlying3
  a3 := Tryz.isAgg3
  z3 := Tryz.sizeOf3
  v3 := Tryz.zeroValue3
  t4 := Tryz.underlying4
  a4 := Tryz.isAgg4
  z4 := Tryz.sizeOf4
  v4 := Tryz.zeroValue4
  t9 := Tryz.underlying9
  a9 := Tryz.isAgg9
  z9 := Tryz.sizeOf9
  v9 := Tryz.zeroValue9
  t21 := Tryz.underlying21
  a21 := Tryz.isAgg21
  z21 := Tryz.sizeOf21
  v21 := Tryz.zeroValue21
  t31 := Tryz.underlying26
  a31 := Tryz.isAgg26
  z31 := Tryz.sizeOf26
  v31 := Tryz.zeroValue26
  t40 := Tryz.underlying172
  a40 := Tryz.isAgg172
  z40 := Tryz.sizeOf172
  v40 := Tryz.zeroValue172
  t152 := Tryz.underlying202
  a152 := Tryz.isAgg202
  z152 := Tryz.sizeOf202
  v152 := Tryz.zeroValue202
  t154 := Tryz.underlying204
  a154 := Tryz.isAgg204
  z154 := Tryz.sizeOf204
  v154 := Tryz.zeroValue204 }
open Go.RowKit Go.Lib in
theorem YtnmffehmjgknkaaGreatDoor.strings_FieldsFunc_runes (g : Nat) (lb : Array Value) (eg : ∀ args w, (callFunc g args).run Tryz.prog w = .ok (.enter g args) w) (p : Nat → Bool) (s : ByteArray) (w : World) (hs : s.size ≤ 4294967296) (hp : PredAtRunes Tryz.prog g lb p w) :
    Calls Tryz.prog 158 #[.string s, .func (.func g) #[] lb] w fun e w' => ∃ A, e = .returned (.slice (some ⟨A, 0, none⟩) (Lib.goFieldsP p s).length (Lib.goFieldsP p s).length) ∧ w.heap.size ≤ A ∧
      w'.ownsRow w.heap.size 9 1 (.slice (some ⟨A, 0, none⟩) (Lib.goFieldsP p s).length (Lib.goFieldsP p s).length) (Lib.goFieldsP p s).length ((Lib.goFieldsP p s).map Value.string) ∧ Below w.heap.size w w' := Any.strings_FieldsFunc_runes YtnmffehmjgknkaaGreatDoor.lays229 g lb eg p s w hs hp (by kernel_rfl) (by kernel_rfl)
end Go.Proofs
