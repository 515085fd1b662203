/-
  No cell of these rows narrows 'for every input' (looked for: loops, veiled, ifaces, maps, wideKeys, modest, calm, conditions, laid).
  DERIVED. THE GIVEN ROWS OF THIS SEAT. 9 by the template 'for every input the law returns true; each argument reads behind the call as it read before'; 0 by the template 'total and deterministic' (their statements: YtechkghnmgimbaaTotals.lean).
  GIVEN WITH THE SEED: the statements are not yours to turn. If you find one false, say at which input.
  Laid BY PROGRAM, IN A SANDBOX (cutbox-rows.mjs): the forced cells as the released guide's own fill.sh prints them over the translation 3ee659c6ce5edc2d… (all of the seat's roots in one cut). By AI agents, Wed Nov 11 2026. No macro, syntax, notation, axiom, sorry.
-/
import Derived.Test.YtechkghnmgimbaaChecked
import GoSem.Claim
import GoSem.ClaimJoined
import GoSem.ClaimMapViews
import Derived.JoinedTies
import Derived.KernelRfl
namespace Go.Proofs.Ytechkghnmgimbaa
/- THE CELL 'sum', in the pinned program and in every row, IS THE sha256 OF THE DUMP (.gsa) THAT YtechkghnmgimbaaProg.lean LOADS. Nothing in Lean hashes anything: it is a label: what it is worth is what the hold of that sum in a sandbox is worth. -/
noncomputable def Try.pinned : Pinned := { name := "ytechkghnmgimbaa", sum := "3ee659c6ce5edc2d457b0b15067b788f4bd38d1c2e3b4186195643cb5d994a08", checked := Try.checked }
namespace Rows
def none {H : Type} : Left H := { results := [], args := [] }

/-- 'laws.FnExactSpectrumOf': WHATEVER THE INPUT: true; the input reads as it did. -/
def fnExactSpectrumOfSpec : ChangeSpec := { name := "fnExactSpectrumOf", fn := fun _ => fun
  | [d] => { results := [.lit (.bool true)], args := [d] }
  | _ => none }
def fnExactSpectrumOfRow : OpenClaim := { program := "ytechkghnmgimbaa", sum := "3ee659c6ce5edc2d457b0b15067b788f4bd38d1c2e3b4186195643cb5d994a08", func := "loop.example/g03403/laws.FnExactSpectrumOf", spec := "fnExactSpectrumOf", inPlace := ["(*sync.WaitGroup).Add", "internal/race.ReleaseMerge", "internal/race.Disable", "internal/race.Enable", "internal/synctest.IsInBubble", "internal/synctest.Associate[sync.WaitGroup]", "sync.fatal", "sync/atomic.OrUint64", "sync/atomic.AddUint64", "internal/race.Read", "sync/atomic.LoadUint64", "sync/atomic.StoreUint64", "internal/synctest.Disassociate[sync.WaitGroup]", "sync.runtime_Semrelease", "(*sync.WaitGroup).Done", "(*sync.WaitGroup).Wait", "internal/race.Acquire", "internal/synctest.IsAssociated[sync.WaitGroup]", "sync/atomic.CompareAndSwapUint64", "internal/race.Write", "sync.runtime_SemacquireWaitGroup"], unfollowed := true, recurses := true, leaving := true, apart := false }
def FnExactSpectrumOfSaid : Prop := fnExactSpectrumOfRow.holds Try.pinned (OpenSpec.ofChange fnExactSpectrumOfSpec)

/-- ITS FALSE NEIGHBOUR: 'it returns false'. Refute it at one input. -/
def fnExactSpectrumOfWrong : ChangeSpec := { name := "fnExactSpectrumOf", fn := fun _ => fun
  | [d] => { results := [.lit (.bool false)], args := [d] }
  | _ => none }
def FnExactSpectrumOfWrongFalsely : Prop := fnExactSpectrumOfRow.holds Try.pinned (OpenSpec.ofChange fnExactSpectrumOfWrong)

/-- 'laws.FnExactNonlinearity': WHATEVER THE INPUT: true; the input reads as it did. -/
def fnExactNonlinearitySpec : ChangeSpec := { name := "fnExactNonlinearity", fn := fun _ => fun
  | [d] => { results := [.lit (.bool true)], args := [d] }
  | _ => none }
def fnExactNonlinearityRow : OpenClaim := { program := "ytechkghnmgimbaa", sum := "3ee659c6ce5edc2d457b0b15067b788f4bd38d1c2e3b4186195643cb5d994a08", func := "loop.example/g03403/laws.FnExactNonlinearity", spec := "fnExactNonlinearity", inPlace := ["(*sync.WaitGroup).Add", "internal/race.ReleaseMerge", "internal/race.Disable", "internal/race.Enable", "internal/synctest.IsInBubble", "internal/synctest.Associate[sync.WaitGroup]", "sync.fatal", "sync/atomic.OrUint64", "sync/atomic.AddUint64", "internal/race.Read", "sync/atomic.LoadUint64", "sync/atomic.StoreUint64", "internal/synctest.Disassociate[sync.WaitGroup]", "sync.runtime_Semrelease", "(*sync.WaitGroup).Done", "(*sync.WaitGroup).Wait", "internal/race.Acquire", "internal/synctest.IsAssociated[sync.WaitGroup]", "sync/atomic.CompareAndSwapUint64", "internal/race.Write", "sync.runtime_SemacquireWaitGroup"], unfollowed := true, recurses := true, leaving := true, apart := false }
def FnExactNonlinearitySaid : Prop := fnExactNonlinearityRow.holds Try.pinned (OpenSpec.ofChange fnExactNonlinearitySpec)

/-- ITS FALSE NEIGHBOUR: 'it returns false'. Refute it at one input. -/
def fnExactNonlinearityWrong : ChangeSpec := { name := "fnExactNonlinearity", fn := fun _ => fun
  | [d] => { results := [.lit (.bool false)], args := [d] }
  | _ => none }
def FnExactNonlinearityWrongFalsely : Prop := fnExactNonlinearityRow.holds Try.pinned (OpenSpec.ofChange fnExactNonlinearityWrong)

/-- 'laws.FnExactIsBent': WHATEVER THE INPUT: true; the input reads as it did. -/
def fnExactIsBentSpec : ChangeSpec := { name := "fnExactIsBent", fn := fun _ => fun
  | [d] => { results := [.lit (.bool true)], args := [d] }
  | _ => none }
def fnExactIsBentRow : OpenClaim := { program := "ytechkghnmgimbaa", sum := "3ee659c6ce5edc2d457b0b15067b788f4bd38d1c2e3b4186195643cb5d994a08", func := "loop.example/g03403/laws.FnExactIsBent", spec := "fnExactIsBent", inPlace := ["(*sync.WaitGroup).Add", "internal/race.ReleaseMerge", "internal/race.Disable", "internal/race.Enable", "internal/synctest.IsInBubble", "internal/synctest.Associate[sync.WaitGroup]", "sync.fatal", "sync/atomic.OrUint64", "sync/atomic.AddUint64", "internal/race.Read", "sync/atomic.LoadUint64", "sync/atomic.StoreUint64", "internal/synctest.Disassociate[sync.WaitGroup]", "sync.runtime_Semrelease", "(*sync.WaitGroup).Done", "(*sync.WaitGroup).Wait", "internal/race.Acquire", "internal/synctest.IsAssociated[sync.WaitGroup]", "sync/atomic.CompareAndSwapUint64", "internal/race.Write", "sync.runtime_SemacquireWaitGroup"], unfollowed := true, recurses := true, leaving := true, apart := false }
def FnExactIsBentSaid : Prop := fnExactIsBentRow.holds Try.pinned (OpenSpec.ofChange fnExactIsBentSpec)

/-- ITS FALSE NEIGHBOUR: 'it returns false'. Refute it at one input. -/
def fnExactIsBentWrong : ChangeSpec := { name := "fnExactIsBent", fn := fun _ => fun
  | [d] => { results := [.lit (.bool false)], args := [d] }
  | _ => none }
def FnExactIsBentWrongFalsely : Prop := fnExactIsBentRow.holds Try.pinned (OpenSpec.ofChange fnExactIsBentWrong)

/-- 'laws.FnExactDualOfBent': WHATEVER THE INPUT: true; the input reads as it did. -/
def fnExactDualOfBentSpec : ChangeSpec := { name := "fnExactDualOfBent", fn := fun _ => fun
  | [d] => { results := [.lit (.bool true)], args := [d] }
  | _ => none }
def fnExactDualOfBentRow : OpenClaim := { program := "ytechkghnmgimbaa", sum := "3ee659c6ce5edc2d457b0b15067b788f4bd38d1c2e3b4186195643cb5d994a08", func := "loop.example/g03403/laws.FnExactDualOfBent", spec := "fnExactDualOfBent", inPlace := ["(*sync.WaitGroup).Add", "internal/race.ReleaseMerge", "internal/race.Disable", "internal/race.Enable", "internal/synctest.IsInBubble", "internal/synctest.Associate[sync.WaitGroup]", "sync.fatal", "sync/atomic.OrUint64", "sync/atomic.AddUint64", "internal/race.Read", "sync/atomic.LoadUint64", "sync/atomic.StoreUint64", "internal/synctest.Disassociate[sync.WaitGroup]", "sync.runtime_Semrelease", "(*sync.WaitGroup).Done", "(*sync.WaitGroup).Wait", "internal/race.Acquire", "internal/synctest.IsAssociated[sync.WaitGroup]", "sync/atomic.CompareAndSwapUint64", "internal/race.Write", "sync.runtime_SemacquireWaitGroup"], unfollowed := true, recurses := true, leaving := true, apart := false }
def FnExactDualOfBentSaid : Prop := fnExactDualOfBentRow.holds Try.pinned (OpenSpec.ofChange fnExactDualOfBentSpec)

/-- ITS FALSE NEIGHBOUR: 'it returns false'. Refute it at one input. -/
def fnExactDualOfBentWrong : ChangeSpec := { name := "fnExactDualOfBent", fn := fun _ => fun
  | [d] => { results := [.lit (.bool false)], args := [d] }
  | _ => none }
def FnExactDualOfBentWrongFalsely : Prop := fnExactDualOfBentRow.holds Try.pinned (OpenSpec.ofChange fnExactDualOfBentWrong)

/-- 'laws.FnExactAutocorrelationOf': WHATEVER THE INPUT: true; the input reads as it did. -/
def fnExactAutocorrelationOfSpec : ChangeSpec := { name := "fnExactAutocorrelationOf", fn := fun _ => fun
  | [d] => { results := [.lit (.bool true)], args := [d] }
  | _ => none }
def fnExactAutocorrelationOfRow : OpenClaim := { program := "ytechkghnmgimbaa", sum := "3ee659c6ce5edc2d457b0b15067b788f4bd38d1c2e3b4186195643cb5d994a08", func := "loop.example/g03403/laws.FnExactAutocorrelationOf", spec := "fnExactAutocorrelationOf", inPlace := ["(*sync.WaitGroup).Add", "internal/race.ReleaseMerge", "internal/race.Disable", "internal/race.Enable", "internal/synctest.IsInBubble", "internal/synctest.Associate[sync.WaitGroup]", "sync.fatal", "sync/atomic.OrUint64", "sync/atomic.AddUint64", "internal/race.Read", "sync/atomic.LoadUint64", "sync/atomic.StoreUint64", "internal/synctest.Disassociate[sync.WaitGroup]", "sync.runtime_Semrelease", "(*sync.WaitGroup).Done", "(*sync.WaitGroup).Wait", "internal/race.Acquire", "internal/synctest.IsAssociated[sync.WaitGroup]", "sync/atomic.CompareAndSwapUint64", "internal/race.Write", "sync.runtime_SemacquireWaitGroup"], unfollowed := true, recurses := true, leaving := true, apart := false }
def FnExactAutocorrelationOfSaid : Prop := fnExactAutocorrelationOfRow.holds Try.pinned (OpenSpec.ofChange fnExactAutocorrelationOfSpec)

/-- ITS FALSE NEIGHBOUR: 'it returns false'. Refute it at one input. -/
def fnExactAutocorrelationOfWrong : ChangeSpec := { name := "fnExactAutocorrelationOf", fn := fun _ => fun
  | [d] => { results := [.lit (.bool false)], args := [d] }
  | _ => none }
def FnExactAutocorrelationOfWrongFalsely : Prop := fnExactAutocorrelationOfRow.holds Try.pinned (OpenSpec.ofChange fnExactAutocorrelationOfWrong)

/-- 'laws.FnExactCorrelationImmunity': WHATEVER THE INPUT: true; the input reads as it did. -/
def fnExactCorrelationImmunitySpec : ChangeSpec := { name := "fnExactCorrelationImmunity", fn := fun _ => fun
  | [d] => { results := [.lit (.bool true)], args := [d] }
  | _ => none }
def fnExactCorrelationImmunityRow : OpenClaim := { program := "ytechkghnmgimbaa", sum := "3ee659c6ce5edc2d457b0b15067b788f4bd38d1c2e3b4186195643cb5d994a08", func := "loop.example/g03403/laws.FnExactCorrelationImmunity", spec := "fnExactCorrelationImmunity", inPlace := ["(*sync.WaitGroup).Add", "internal/race.ReleaseMerge", "internal/race.Disable", "internal/race.Enable", "internal/synctest.IsInBubble", "internal/synctest.Associate[sync.WaitGroup]", "sync.fatal", "sync/atomic.OrUint64", "sync/atomic.AddUint64", "internal/race.Read", "sync/atomic.LoadUint64", "sync/atomic.StoreUint64", "internal/synctest.Disassociate[sync.WaitGroup]", "sync.runtime_Semrelease", "(*sync.WaitGroup).Done", "(*sync.WaitGroup).Wait", "internal/race.Acquire", "internal/synctest.IsAssociated[sync.WaitGroup]", "sync/atomic.CompareAndSwapUint64", "internal/race.Write", "sync.runtime_SemacquireWaitGroup"], unfollowed := true, recurses := true, leaving := true, apart := false }
def FnExactCorrelationImmunitySaid : Prop := fnExactCorrelationImmunityRow.holds Try.pinned (OpenSpec.ofChange fnExactCorrelationImmunitySpec)

/-- ITS FALSE NEIGHBOUR: 'it returns false'. Refute it at one input. -/
def fnExactCorrelationImmunityWrong : ChangeSpec := { name := "fnExactCorrelationImmunity", fn := fun _ => fun
  | [d] => { results := [.lit (.bool false)], args := [d] }
  | _ => none }
def FnExactCorrelationImmunityWrongFalsely : Prop := fnExactCorrelationImmunityRow.holds Try.pinned (OpenSpec.ofChange fnExactCorrelationImmunityWrong)

/-- 'laws.FnExactEnergyByLevel': WHATEVER THE INPUT: true; the input reads as it did. -/
def fnExactEnergyByLevelSpec : ChangeSpec := { name := "fnExactEnergyByLevel", fn := fun _ => fun
  | [d] => { results := [.lit (.bool true)], args := [d] }
  | _ => none }
def fnExactEnergyByLevelRow : OpenClaim := { program := "ytechkghnmgimbaa", sum := "3ee659c6ce5edc2d457b0b15067b788f4bd38d1c2e3b4186195643cb5d994a08", func := "loop.example/g03403/laws.FnExactEnergyByLevel", spec := "fnExactEnergyByLevel", inPlace := ["(*sync.WaitGroup).Add", "internal/race.ReleaseMerge", "internal/race.Disable", "internal/race.Enable", "internal/synctest.IsInBubble", "internal/synctest.Associate[sync.WaitGroup]", "sync.fatal", "sync/atomic.OrUint64", "sync/atomic.AddUint64", "internal/race.Read", "sync/atomic.LoadUint64", "sync/atomic.StoreUint64", "internal/synctest.Disassociate[sync.WaitGroup]", "sync.runtime_Semrelease", "(*sync.WaitGroup).Done", "(*sync.WaitGroup).Wait", "internal/race.Acquire", "internal/synctest.IsAssociated[sync.WaitGroup]", "sync/atomic.CompareAndSwapUint64", "internal/race.Write", "sync.runtime_SemacquireWaitGroup"], unfollowed := true, recurses := true, leaving := true, apart := false }
def FnExactEnergyByLevelSaid : Prop := fnExactEnergyByLevelRow.holds Try.pinned (OpenSpec.ofChange fnExactEnergyByLevelSpec)

/-- ITS FALSE NEIGHBOUR: 'it returns false'. Refute it at one input. -/
def fnExactEnergyByLevelWrong : ChangeSpec := { name := "fnExactEnergyByLevel", fn := fun _ => fun
  | [d] => { results := [.lit (.bool false)], args := [d] }
  | _ => none }
def FnExactEnergyByLevelWrongFalsely : Prop := fnExactEnergyByLevelRow.holds Try.pinned (OpenSpec.ofChange fnExactEnergyByLevelWrong)

/-- 'laws.FnExactPairsAtDistance': WHATEVER THE INPUT: true; the input reads as it did. -/
def fnExactPairsAtDistanceSpec : ChangeSpec := { name := "fnExactPairsAtDistance", fn := fun _ => fun
  | [d] => { results := [.lit (.bool true)], args := [d] }
  | _ => none }
def fnExactPairsAtDistanceRow : OpenClaim := { program := "ytechkghnmgimbaa", sum := "3ee659c6ce5edc2d457b0b15067b788f4bd38d1c2e3b4186195643cb5d994a08", func := "loop.example/g03403/laws.FnExactPairsAtDistance", spec := "fnExactPairsAtDistance", inPlace := ["sync/atomic.AddInt64", "(*sync.WaitGroup).Add", "internal/race.ReleaseMerge", "internal/race.Disable", "internal/race.Enable", "internal/synctest.IsInBubble", "internal/synctest.Associate[sync.WaitGroup]", "sync.fatal", "sync/atomic.OrUint64", "sync/atomic.AddUint64", "internal/race.Read", "sync/atomic.LoadUint64", "sync/atomic.StoreUint64", "internal/synctest.Disassociate[sync.WaitGroup]", "sync.runtime_Semrelease", "(*sync.WaitGroup).Done", "(*sync.WaitGroup).Wait", "internal/race.Acquire", "internal/synctest.IsAssociated[sync.WaitGroup]", "sync/atomic.CompareAndSwapUint64", "internal/race.Write", "sync.runtime_SemacquireWaitGroup", "sync/atomic.LoadInt64"], unfollowed := true, recurses := true, leaving := true, apart := false }
def FnExactPairsAtDistanceSaid : Prop := fnExactPairsAtDistanceRow.holds Try.pinned (OpenSpec.ofChange fnExactPairsAtDistanceSpec)

/-- ITS FALSE NEIGHBOUR: 'it returns false'. Refute it at one input. -/
def fnExactPairsAtDistanceWrong : ChangeSpec := { name := "fnExactPairsAtDistance", fn := fun _ => fun
  | [d] => { results := [.lit (.bool false)], args := [d] }
  | _ => none }
def FnExactPairsAtDistanceWrongFalsely : Prop := fnExactPairsAtDistanceRow.holds Try.pinned (OpenSpec.ofChange fnExactPairsAtDistanceWrong)

/-- 'laws.FnExactLinearStructures': WHATEVER THE INPUT: true; the input reads as it did. -/
def fnExactLinearStructuresSpec : ChangeSpec := { name := "fnExactLinearStructures", fn := fun _ => fun
  | [d] => { results := [.lit (.bool true)], args := [d] }
  | _ => none }
def fnExactLinearStructuresRow : OpenClaim := { program := "ytechkghnmgimbaa", sum := "3ee659c6ce5edc2d457b0b15067b788f4bd38d1c2e3b4186195643cb5d994a08", func := "loop.example/g03403/laws.FnExactLinearStructures", spec := "fnExactLinearStructures", inPlace := ["(*sync.WaitGroup).Add", "internal/race.ReleaseMerge", "internal/race.Disable", "internal/race.Enable", "internal/synctest.IsInBubble", "internal/synctest.Associate[sync.WaitGroup]", "sync.fatal", "sync/atomic.OrUint64", "sync/atomic.AddUint64", "internal/race.Read", "sync/atomic.LoadUint64", "sync/atomic.StoreUint64", "internal/synctest.Disassociate[sync.WaitGroup]", "sync.runtime_Semrelease", "(*sync.WaitGroup).Done", "(*sync.WaitGroup).Wait", "internal/race.Acquire", "internal/synctest.IsAssociated[sync.WaitGroup]", "sync/atomic.CompareAndSwapUint64", "internal/race.Write", "sync.runtime_SemacquireWaitGroup"], unfollowed := true, recurses := true, leaving := true, apart := false }
def FnExactLinearStructuresSaid : Prop := fnExactLinearStructuresRow.holds Try.pinned (OpenSpec.ofChange fnExactLinearStructuresSpec)

/-- ITS FALSE NEIGHBOUR: 'it returns false'. Refute it at one input. -/
def fnExactLinearStructuresWrong : ChangeSpec := { name := "fnExactLinearStructures", fn := fun _ => fun
  | [d] => { results := [.lit (.bool false)], args := [d] }
  | _ => none }
def FnExactLinearStructuresWrongFalsely : Prop := fnExactLinearStructuresRow.holds Try.pinned (OpenSpec.ofChange fnExactLinearStructuresWrong)

/- THE SECOND FORM. 'bulk': how many values and letters a reading holds, each counted each time it is reached (what is shared counts as often as it is met; a slice's spare places count too). A statement '..UptoSaid' is the law's where the arguments, and the package variables that the reading takes, are together of bulk at most 1048576: NARROWER than '..Said'. Prove '..Said' where nothing that the law and all that it calls make is longer than what came in: it says more and counts as full. Else prove '..UptoSaid'. A law counts once. -/
mutual
def uptoBulk {H : Type} : DataW H → Nat
  | .lit (.string bytes) => bytes.length + 1
  | .lit _ => 1
  | .nil => 1
  | .ptr d => uptoBulk d + 1
  | .slice elems spare => uptoBulkAll elems + uptoBulkAll spare + 1
  | .agg parts => uptoBulkAll parts + 1
  | .iface _ d => uptoBulk d + 1
  | .map entries => uptoBulkEntries entries + 1
  | .held _ => 1
def uptoBulkAll {H : Type} : List (DataW H) → Nat
  | [] => 0
  | d :: r => uptoBulk d + uptoBulkAll r
def uptoBulkEntries {H : Type} : List (Lit × DataW H) → Nat
  | [] => 0
  | x :: r => uptoBulkEntry x + uptoBulkEntries r
def uptoBulkEntry {H : Type} : Lit × DataW H → Nat
  | (.string bytes, d) => bytes.length + uptoBulk d + 1
  | (_, d) => uptoBulk d + 1
 end
def uptoSmall : (H : Type) → List (DataW H) → Bool := fun _ ds => decide (uptoBulkAll ds ≤ 1048576)
def OpenSpec.upto (s : _root_.Go.ChangeSpec) : _root_.Go.OpenSpec := { _root_.Go.OpenSpec.ofChange s with cond := some uptoSmall }

/-- 'laws.FnExactSpectrumOf', WHERE WHAT IT READS IS OF BULK AT MOST 1048576: true; the input reads as it did. -/
def fnExactSpectrumOfUptoRow : OpenClaim := { program := "ytechkghnmgimbaa", sum := "3ee659c6ce5edc2d457b0b15067b788f4bd38d1c2e3b4186195643cb5d994a08", func := "loop.example/g03403/laws.FnExactSpectrumOf", spec := "fnExactSpectrumOf", inPlace := ["(*sync.WaitGroup).Add", "internal/race.ReleaseMerge", "internal/race.Disable", "internal/race.Enable", "internal/synctest.IsInBubble", "internal/synctest.Associate[sync.WaitGroup]", "sync.fatal", "sync/atomic.OrUint64", "sync/atomic.AddUint64", "internal/race.Read", "sync/atomic.LoadUint64", "sync/atomic.StoreUint64", "internal/synctest.Disassociate[sync.WaitGroup]", "sync.runtime_Semrelease", "(*sync.WaitGroup).Done", "(*sync.WaitGroup).Wait", "internal/race.Acquire", "internal/synctest.IsAssociated[sync.WaitGroup]", "sync/atomic.CompareAndSwapUint64", "internal/race.Write", "sync.runtime_SemacquireWaitGroup"], unfollowed := true, recurses := true, leaving := true, apart := false, narrowed := true }
def FnExactSpectrumOfUptoSaid : Prop := fnExactSpectrumOfUptoRow.holds Try.pinned (OpenSpec.upto fnExactSpectrumOfSpec)

/-- 'laws.FnExactNonlinearity', WHERE WHAT IT READS IS OF BULK AT MOST 1048576: true; the input reads as it did. -/
def fnExactNonlinearityUptoRow : OpenClaim := { program := "ytechkghnmgimbaa", sum := "3ee659c6ce5edc2d457b0b15067b788f4bd38d1c2e3b4186195643cb5d994a08", func := "loop.example/g03403/laws.FnExactNonlinearity", spec := "fnExactNonlinearity", inPlace := ["(*sync.WaitGroup).Add", "internal/race.ReleaseMerge", "internal/race.Disable", "internal/race.Enable", "internal/synctest.IsInBubble", "internal/synctest.Associate[sync.WaitGroup]", "sync.fatal", "sync/atomic.OrUint64", "sync/atomic.AddUint64", "internal/race.Read", "sync/atomic.LoadUint64", "sync/atomic.StoreUint64", "internal/synctest.Disassociate[sync.WaitGroup]", "sync.runtime_Semrelease", "(*sync.WaitGroup).Done", "(*sync.WaitGroup).Wait", "internal/race.Acquire", "internal/synctest.IsAssociated[sync.WaitGroup]", "sync/atomic.CompareAndSwapUint64", "internal/race.Write", "sync.runtime_SemacquireWaitGroup"], unfollowed := true, recurses := true, leaving := true, apart := false, narrowed := true }
def FnExactNonlinearityUptoSaid : Prop := fnExactNonlinearityUptoRow.holds Try.pinned (OpenSpec.upto fnExactNonlinearitySpec)

/-- 'laws.FnExactIsBent', WHERE WHAT IT READS IS OF BULK AT MOST 1048576: true; the input reads as it did. -/
def fnExactIsBentUptoRow : OpenClaim := { program := "ytechkghnmgimbaa", sum := "3ee659c6ce5edc2d457b0b15067b788f4bd38d1c2e3b4186195643cb5d994a08", func := "loop.example/g03403/laws.FnExactIsBent", spec := "fnExactIsBent", inPlace := ["(*sync.WaitGroup).Add", "internal/race.ReleaseMerge", "internal/race.Disable", "internal/race.Enable", "internal/synctest.IsInBubble", "internal/synctest.Associate[sync.WaitGroup]", "sync.fatal", "sync/atomic.OrUint64", "sync/atomic.AddUint64", "internal/race.Read", "sync/atomic.LoadUint64", "sync/atomic.StoreUint64", "internal/synctest.Disassociate[sync.WaitGroup]", "sync.runtime_Semrelease", "(*sync.WaitGroup).Done", "(*sync.WaitGroup).Wait", "internal/race.Acquire", "internal/synctest.IsAssociated[sync.WaitGroup]", "sync/atomic.CompareAndSwapUint64", "internal/race.Write", "sync.runtime_SemacquireWaitGroup"], unfollowed := true, recurses := true, leaving := true, apart := false, narrowed := true }
def FnExactIsBentUptoSaid : Prop := fnExactIsBentUptoRow.holds Try.pinned (OpenSpec.upto fnExactIsBentSpec)

/-- 'laws.FnExactDualOfBent', WHERE WHAT IT READS IS OF BULK AT MOST 1048576: true; the input reads as it did. -/
def fnExactDualOfBentUptoRow : OpenClaim := { program := "ytechkghnmgimbaa", sum := "3ee659c6ce5edc2d457b0b15067b788f4bd38d1c2e3b4186195643cb5d994a08", func := "loop.example/g03403/laws.FnExactDualOfBent", spec := "fnExactDualOfBent", inPlace := ["(*sync.WaitGroup).Add", "internal/race.ReleaseMerge", "internal/race.Disable", "internal/race.Enable", "internal/synctest.IsInBubble", "internal/synctest.Associate[sync.WaitGroup]", "sync.fatal", "sync/atomic.OrUint64", "sync/atomic.AddUint64", "internal/race.Read", "sync/atomic.LoadUint64", "sync/atomic.StoreUint64", "internal/synctest.Disassociate[sync.WaitGroup]", "sync.runtime_Semrelease", "(*sync.WaitGroup).Done", "(*sync.WaitGroup).Wait", "internal/race.Acquire", "internal/synctest.IsAssociated[sync.WaitGroup]", "sync/atomic.CompareAndSwapUint64", "internal/race.Write", "sync.runtime_SemacquireWaitGroup"], unfollowed := true, recurses := true, leaving := true, apart := false, narrowed := true }
def FnExactDualOfBentUptoSaid : Prop := fnExactDualOfBentUptoRow.holds Try.pinned (OpenSpec.upto fnExactDualOfBentSpec)

/-- 'laws.FnExactAutocorrelationOf', WHERE WHAT IT READS IS OF BULK AT MOST 1048576: true; the input reads as it did. -/
def fnExactAutocorrelationOfUptoRow : OpenClaim := { program := "ytechkghnmgimbaa", sum := "3ee659c6ce5edc2d457b0b15067b788f4bd38d1c2e3b4186195643cb5d994a08", func := "loop.example/g03403/laws.FnExactAutocorrelationOf", spec := "fnExactAutocorrelationOf", inPlace := ["(*sync.WaitGroup).Add", "internal/race.ReleaseMerge", "internal/race.Disable", "internal/race.Enable", "internal/synctest.IsInBubble", "internal/synctest.Associate[sync.WaitGroup]", "sync.fatal", "sync/atomic.OrUint64", "sync/atomic.AddUint64", "internal/race.Read", "sync/atomic.LoadUint64", "sync/atomic.StoreUint64", "internal/synctest.Disassociate[sync.WaitGroup]", "sync.runtime_Semrelease", "(*sync.WaitGroup).Done", "(*sync.WaitGroup).Wait", "internal/race.Acquire", "internal/synctest.IsAssociated[sync.WaitGroup]", "sync/atomic.CompareAndSwapUint64", "internal/race.Write", "sync.runtime_SemacquireWaitGroup"], unfollowed := true, recurses := true, leaving := true, apart := false, narrowed := true }
def FnExactAutocorrelationOfUptoSaid : Prop := fnExactAutocorrelationOfUptoRow.holds Try.pinned (OpenSpec.upto fnExactAutocorrelationOfSpec)

/-- 'laws.FnExactCorrelationImmunity', WHERE WHAT IT READS IS OF BULK AT MOST 1048576: true; the input reads as it did. -/
def fnExactCorrelationImmunityUptoRow : OpenClaim := { program := "ytechkghnmgimbaa", sum := "3ee659c6ce5edc2d457b0b15067b788f4bd38d1c2e3b4186195643cb5d994a08", func := "loop.example/g03403/laws.FnExactCorrelationImmunity", spec := "fnExactCorrelationImmunity", inPlace := ["(*sync.WaitGroup).Add", "internal/race.ReleaseMerge", "internal/race.Disable", "internal/race.Enable", "internal/synctest.IsInBubble", "internal/synctest.Associate[sync.WaitGroup]", "sync.fatal", "sync/atomic.OrUint64", "sync/atomic.AddUint64", "internal/race.Read", "sync/atomic.LoadUint64", "sync/atomic.StoreUint64", "internal/synctest.Disassociate[sync.WaitGroup]", "sync.runtime_Semrelease", "(*sync.WaitGroup).Done", "(*sync.WaitGroup).Wait", "internal/race.Acquire", "internal/synctest.IsAssociated[sync.WaitGroup]", "sync/atomic.CompareAndSwapUint64", "internal/race.Write", "sync.runtime_SemacquireWaitGroup"], unfollowed := true, recurses := true, leaving := true, apart := false, narrowed := true }
def FnExactCorrelationImmunityUptoSaid : Prop := fnExactCorrelationImmunityUptoRow.holds Try.pinned (OpenSpec.upto fnExactCorrelationImmunitySpec)

/-- 'laws.FnExactEnergyByLevel', WHERE WHAT IT READS IS OF BULK AT MOST 1048576: true; the input reads as it did. -/
def fnExactEnergyByLevelUptoRow : OpenClaim := { program := "ytechkghnmgimbaa", sum := "3ee659c6ce5edc2d457b0b15067b788f4bd38d1c2e3b4186195643cb5d994a08", func := "loop.example/g03403/laws.FnExactEnergyByLevel", spec := "fnExactEnergyByLevel", inPlace := ["(*sync.WaitGroup).Add", "internal/race.ReleaseMerge", "internal/race.Disable", "internal/race.Enable", "internal/synctest.IsInBubble", "internal/synctest.Associate[sync.WaitGroup]", "sync.fatal", "sync/atomic.OrUint64", "sync/atomic.AddUint64", "internal/race.Read", "sync/atomic.LoadUint64", "sync/atomic.StoreUint64", "internal/synctest.Disassociate[sync.WaitGroup]", "sync.runtime_Semrelease", "(*sync.WaitGroup).Done", "(*sync.WaitGroup).Wait", "internal/race.Acquire", "internal/synctest.IsAssociated[sync.WaitGroup]", "sync/atomic.CompareAndSwapUint64", "internal/race.Write", "sync.runtime_SemacquireWaitGroup"], unfollowed := true, recurses := true, leaving := true, apart := false, narrowed := true }
def FnExactEnergyByLevelUptoSaid : Prop := fnExactEnergyByLevelUptoRow.holds Try.pinned (OpenSpec.upto fnExactEnergyByLevelSpec)

/-- 'laws.FnExactPairsAtDistance', WHERE WHAT IT READS IS OF BULK AT MOST 1048576: true; the input reads as it did. -/
def fnExactPairsAtDistanceUptoRow : OpenClaim := { program := "ytechkghnmgimbaa", sum := "3ee659c6ce5edc2d457b0b15067b788f4bd38d1c2e3b4186195643cb5d994a08", func := "loop.example/g03403/laws.FnExactPairsAtDistance", spec := "fnExactPairsAtDistance", inPlace := ["sync/atomic.AddInt64", "(*sync.WaitGroup).Add", "internal/race.ReleaseMerge", "internal/race.Disable", "internal/race.Enable", "internal/synctest.IsInBubble", "internal/synctest.Associate[sync.WaitGroup]", "sync.fatal", "sync/atomic.OrUint64", "sync/atomic.AddUint64", "internal/race.Read", "sync/atomic.LoadUint64", "sync/atomic.StoreUint64", "internal/synctest.Disassociate[sync.WaitGroup]", "sync.runtime_Semrelease", "(*sync.WaitGroup).Done", "(*sync.WaitGroup).Wait", "internal/race.Acquire", "internal/synctest.IsAssociated[sync.WaitGroup]", "sync/atomic.CompareAndSwapUint64", "internal/race.Write", "sync.runtime_SemacquireWaitGroup", "sync/atomic.LoadInt64"], unfollowed := true, recurses := true, leaving := true, apart := false, narrowed := true }
def FnExactPairsAtDistanceUptoSaid : Prop := fnExactPairsAtDistanceUptoRow.holds Try.pinned (OpenSpec.upto fnExactPairsAtDistanceSpec)

/-- 'laws.FnExactLinearStructures', WHERE WHAT IT READS IS OF BULK AT MOST 1048576: true; the input reads as it did. -/
def fnExactLinearStructuresUptoRow : OpenClaim := { program := "ytechkghnmgimbaa", sum := "3ee659c6ce5edc2d457b0b15067b788f4bd38d1c2e3b4186195643cb5d994a08", func := "loop.example/g03403/laws.FnExactLinearStructures", spec := "fnExactLinearStructures", inPlace := ["(*sync.WaitGroup).Add", "internal/race.ReleaseMerge", "internal/race.Disable", "internal/race.Enable", "internal/synctest.IsInBubble", "internal/synctest.Associate[sync.WaitGroup]", "sync.fatal", "sync/atomic.OrUint64", "sync/atomic.AddUint64", "internal/race.Read", "sync/atomic.LoadUint64", "sync/atomic.StoreUint64", "internal/synctest.Disassociate[sync.WaitGroup]", "sync.runtime_Semrelease", "(*sync.WaitGroup).Done", "(*sync.WaitGroup).Wait", "internal/race.Acquire", "internal/synctest.IsAssociated[sync.WaitGroup]", "sync/atomic.CompareAndSwapUint64", "internal/race.Write", "sync.runtime_SemacquireWaitGroup"], unfollowed := true, recurses := true, leaving := true, apart := false, narrowed := true }
def FnExactLinearStructuresUptoSaid : Prop := fnExactLinearStructuresUptoRow.holds Try.pinned (OpenSpec.upto fnExactLinearStructuresSpec)

end Rows
end Go.Proofs.Ytechkghnmgimbaa
