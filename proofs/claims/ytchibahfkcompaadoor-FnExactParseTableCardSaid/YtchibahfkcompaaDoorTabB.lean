/-
  IsTable of the program and of its model: both answer 'Plain.isT'. The laws' copies of tables.
-/
import Derived.Test.YtchibahfkcompaaDoorTabA
import Derived.BigQuiet
import Derived.Deep.DeepCutAuto
import Derived.Deep.RegionWith
namespace Go.Proofs.YtchibahfkcompaaDoor
open Go.RowKit Plain
set_option linter.unusedVariables false

theorem inB_isT (n : Nat) (hn : n ≤ 5) (wd : Int) : inB wd 0 (fullN n) = isT n wd := by
  unfold inB isT
  congr 1
  simp only [Int.toNat_natCast, eq_iff_iff]
  omega
end Go.Proofs.YtchibahfkcompaaDoor
