/-
  math/bits.TrailingZeros, by its table: the library's own walk, at this translation.
-/
import Derived.Test.YtphjaggiddjhgaaGreatDoorBase0
import Derived.Test.YtphjaggiddjhgaaGreatDoorBits
import Derived.Lib.TrailingZeros
import Derived.Lib.LaidTab
import Derived.Lib.SmallJoins
import Derived.LaidMore
import Derived.MakeChecks
import Derived.Shelf.Spec.TrailingZeros
namespace Go.Proofs.YtphjaggiddjhgaaGreatDoor
open Go.RowKit
set_option linter.unusedVariables false

theorem gTz : Tryz.prog.globalNamed "math/bits.deBruijn64tab" = some 1 := by kernel_rfl
theorem gTzType : (Tryz.prog.globals[1]?).map (·.type) = some 100 := by kernel_rfl
theorem cellsTz : Tryz.prog.cellsOf 100 = 64 := by kernel_rfl
theorem cellsTzByte : Tryz.prog.cellsOf 5 = 1 := by kernel_rfl

def tzInts : List Int := Lib.deBruijn64tab.map fun (k : Nat) => (k : Int)
/-- The table of the library reads as its initialiser lays it. -/
def Tz64 (W : World) : Prop := Lib.TabIs Tryz.prog W "math/bits.deBruijn64tab" .u8 tzInts

theorem tzTab {W : World} {r : List (String × DataW Unit)} (h : laidMet Tryz.prog (("math/bits.deBruijn64tab", Rows.laid_math_bits_deBruijn64tab) :: r) W) : Tz64 W := by
  have e : (Rows.laid_math_bits_deBruijn64tab : DataW Unit) = Lib.tabData .u8 tzInts := by kernel_rfl
  rw [e] at h
  exact Lib.tabIs_of_head gTz gTzType Tryz.underlying100 Tryz.underlying5 cellsTzByte cellsTz h

theorem Tz64.cell {W : World} (h : Tz64 W) (j : Nat) (hj : j < 64) : W.cell? ⟨1, j, none⟩ = some (.int .u8 ((Lib.deBruijn64tab.getD j 0 : Nat) : Int)) := by
  have h1 := Lib.TabIs.cell h gTz j hj
  rw [h1]
  have : j < Lib.deBruijn64tab.length := hj
  simp [tzInts, List.getD, List.getElem?_map, List.getElem?_eq_getElem this]

theorem Tz64.stays {w w' : World} {B : Nat} (h : Tz64 w) (hb : Below B w w') (hB : w.heap.size ≤ B) : Tz64 w' := Joins.tab_stays gTz h hb hB

theorem Tz.core (x k idx : Nat) (w : World) (hx0 : ((x : Int) == 0) = false)
    (key : IntKind.u64.wrap (Go.bits BinOp.and IntKind.u64 (x : Int) (IntKind.u64.wrap (-(x : Int))) * 285870213051353865) / 288230376151711744 = (idx : Int))
    (hi : idx < 64) (hk : k < 64) (hcell : w.cell? ⟨1, idx, none⟩ = some (.int .u8 (k : Int))) :
    Calls Tryz.prog 80 #[.int .u64 x] w fun e w' => e = .returned (.int .i64 k) ∧ w = w' := by
  go_enter Tryz.func80, Tryz.ntmps80
  go_wp2_with (simp only [key])
  go_ret
  exact ⟨rfl, rfl⟩

theorem Tz.zero (w : World) : Calls Tryz.prog 80 #[.int .u64 0] w fun e w' => e = .returned (.int .i64 64) ∧ w = w' := by
  go_enter Tryz.func80, Tryz.ntmps80
  go_wp2
  go_ret
  exact ⟨rfl, rfl⟩

theorem Tz.any64 (x : Nat) (hx : x < 18446744073709551616) (w : World) (hT : Tz64 w) :
    Calls Tryz.prog 80 #[.int .u64 x] w fun e w' => e = .returned (.int .i64 (Lib.ctz 64 x : Int)) ∧ w = w' := by
  by_cases hx0 : x = 0
  · subst hx0
    exact Tz.zero w
  · obtain ⟨hlow, hk⟩ := Lib.lowest_bit 64 x hx0 hx
    obtain ⟨hi, htab⟩ := Lib.deBruijn64_at _ hk
    have hcell := hT.cell _ hi
    rw [htab] at hcell
    exact Tz.core x _ _ w (by simp; omega) (tz64_key x _ hx hx0 hlow) hi hk hcell

theorem Tz.any (x : Nat) (hx : (x : Int) ≤ 9223372036854775807) (w : World) (hT : Tz64 w) :
    Calls Tryz.prog 63 #[.int .u64 x] w fun e w' => e = .returned (.int .i64 (Lib.ctz 64 x : Int)) ∧ w = w' := by
  have H := Lib.hid (Tz.any64 x (by omega))
  have HT := Lib.hid hT
  clear hT
  go_enter Tryz.func63, Tryz.ntmps63
  go_wp2_with fail
  refine (H.out _ HT.out).mono ?_
  rintro e w' ⟨rfl, rfl⟩
  go_wp2
  go_ret
  exact ⟨rfl, rfl⟩
end Go.Proofs.YtphjaggiddjhgaaGreatDoor
