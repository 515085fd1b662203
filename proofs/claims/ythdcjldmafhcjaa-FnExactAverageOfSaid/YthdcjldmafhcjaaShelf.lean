/-
  The tables of numbers by which the library's contracts speak of this translation.
-/
import Derived.Shelf.Lays
import Derived.Test.YthdcjldmafhcjaaProg
namespace Go.Proofs
open Go.Shelf
def Try.lays137_ren : Go.Shelf.Ren := ⟨fun | 137 => 108 | 217 => 118 | 266 => 122 | n => n, fun | 9 => 9 | 5 => 5 | 3 => 3 | n => n, fun | n => n⟩
theorem Try.lays137 : Go.Proofs.Lays.n137 Try.prog Try.lays137_ren := {
  mixed := by kernel_rfl
  f137 := Try.func108.trans (congrArg some (by kernel_rfl))
  f217 := Try.func118.trans (congrArg some (by kernel_rfl))
  f266 := Try.func122.trans (congrArg some (by kernel_rfl))
  t3 := Try.underlying3
  a3 := Try.isAgg3
  z3 := Try.sizeOf3
  v3 := Try.zeroValue3
  t5 := Try.underlying5
  a5 := Try.isAgg5
  z5 := Try.sizeOf5
  v5 := Try.zeroValue5
  t9 := Try.underlying9
  a9 := Try.isAgg9
  z9 := Try.sizeOf9
  v9 := Try.zeroValue9 }
def Try.lays150_ren : Go.Shelf.Ren := ⟨fun | 150 => 77 | 153 => 96 | 152 => 109 | 226 => 110 | 227 => 111 | 228 => 112 | 137 => 108 | 119 => 119 | 224 => 120 | 225 => 121 | 217 => 118 | 266 => 122 | n => n, fun | 9 => 9 | 4 => 4 | 3 => 3 | 5 => 5 | 21 => 21 | 117 => 108 | 116 => 107 | 0 => 0 | 46 => 89 | 124 => 115 | n => n, fun | n => n⟩
theorem Try.lays150 : Go.Proofs.Lays.n150 Try.prog Try.lays150_ren := {
  mixed := by kernel_rfl
  f119 := Try.func119.trans (congrArg some (by kernel_rfl))
  f137 := Try.func108.trans (congrArg some (by kernel_rfl))
  f150 := Try.func77.trans (congrArg some (by kernel_rfl))
  f152 := Try.func109.trans (congrArg some (by kernel_rfl))
  f153 := Try.func96.trans (congrArg some (by kernel_rfl))
  f217 := Try.func118.trans (congrArg some (by kernel_rfl))
  f224 := Try.func120.trans (congrArg some (by kernel_rfl))
  f225 := Try.func121.trans (congrArg some (by kernel_rfl))
  f226 := Try.func110.trans (congrArg some (by kernel_rfl))
  f227 := Try.func111.trans (congrArg some (by kernel_rfl))
  f228 := Try.func112.trans (congrArg some (by kernel_rfl))
  f266 := Try.func122.trans (congrArg some (by kernel_rfl))
  t0 := Try.underlying0
  a0 := Try.isAgg0
  z0 := Try.sizeOf0
  v0 := Try.zeroValue0
  t3 := Try.underlying3
  a3 := Try.isAgg3
  z3 := Try.sizeOf3
  v3 := Try.zeroValue3
  t4 := Try.underlying4
  a4 := Try.isAgg4
  z4 := Try.sizeOf4
  v4 := Try.zeroValue4
  t5 := Try.underlying5
  a5 := Try.isAgg5
  z5 := Try.sizeOf5
  v5 := Try.zeroValue5
  t9 := Try.underlying9
  a9 := Try.isAgg9
  z9 := Try.sizeOf9
  v9 := Try.zeroValue9
  t21 := Try.underlying21
  a21 := Try.isAgg21
  z21 := Try.sizeOf21
  v21 := Try.zeroValue21
  t46 := Try.underlying89
  a46 := Try.isAgg89
  z46 := Try.sizeOf89
  v46 := Try.zeroValue89
  t116 := Try.underlying107
  a116 := Try.isAgg107
  z116 := Try.sizeOf107
  t117 := Try.underlying108
  a117 := Try.isAgg108
  z117 := Try.sizeOf108
  v117 := Try.zeroValue108
  t124 := Try.underlying115
  a124 := Try.isAgg115
  z124 := Try.sizeOf115
  v124 := Try.zeroValue115 }
end Go.Proofs
