/-
  The twin of the program: what starts goroutines, and what is not tame, refuses; the special functions have bodies of their own.
-/
import Derived.Test.YtechkghnmgimbaaTqS
import Derived.KernelRfl
namespace Go.Proofs
open Go.Veiled
noncomputable def Tq.mend (i : Nat) (f : Func) : Func := if i = 14 then { f with body := some Tq.body14 } else if i = 26 then { f with body := some Tq.body26 } else match f.body with | some c => if codeOk Try.prog c then f else { f with body := some (.refuse "no") } | none => { f with body := some (.refuse "no") }
noncomputable def Tq.fs : Array Func := Try.prog.funcs.mapIdx Tq.mend
noncomputable def Tq.prog : Program := Program.mk Try.prog.toTables Tq.fs
@[simp] theorem Tq.call10 : ∀ (args : Array Value) (w : World), Sem.run Tq.prog (callFunc 10 args) w = Result.ok (Next.enter 10 args) w := by intros; kernel_rfl
@[simp] theorem Tq.call11 : ∀ (args : Array Value) (w : World), Sem.run Tq.prog (callFunc 11 args) w = Result.ok (Next.enter 11 args) w := by intros; kernel_rfl
@[simp] theorem Tq.call12 : ∀ (args : Array Value) (w : World), Sem.run Tq.prog (callFunc 12 args) w = Result.ok (Next.enter 12 args) w := by intros; kernel_rfl
@[simp] theorem Tq.call13 : ∀ (args : Array Value) (w : World), Sem.run Tq.prog (callFunc 13 args) w = Result.ok (Next.enter 13 args) w := by intros; kernel_rfl
@[simp] theorem Tq.call14 : ∀ (args : Array Value) (w : World), Sem.run Tq.prog (callFunc 14 args) w = Result.ok (Next.enter 14 args) w := by intros; kernel_rfl
@[simp] theorem Tq.call15 : ∀ (args : Array Value) (w : World), Sem.run Tq.prog (callFunc 15 args) w = Result.ok (Next.enter 15 args) w := by intros; kernel_rfl
@[simp] theorem Tq.call16 : ∀ (args : Array Value) (w : World), Sem.run Tq.prog (callFunc 16 args) w = Result.ok (Next.enter 16 args) w := by intros; kernel_rfl
@[simp] theorem Tq.call17 : ∀ (args : Array Value) (w : World), Sem.run Tq.prog (callFunc 17 args) w = Result.ok (Next.enter 17 args) w := by intros; kernel_rfl
@[simp] theorem Tq.call18 : ∀ (args : Array Value) (w : World), Sem.run Tq.prog (callFunc 18 args) w = Result.ok (Next.enter 18 args) w := by intros; kernel_rfl
@[simp] theorem Tq.call19 : ∀ (args : Array Value) (w : World), Sem.run Tq.prog (callFunc 19 args) w = Result.ok (Next.enter 19 args) w := by intros; kernel_rfl
@[simp] theorem Tq.call2 : ∀ (args : Array Value) (w : World), Sem.run Tq.prog (callFunc 2 args) w = Result.ok (Next.enter 2 args) w := by intros; kernel_rfl
@[simp] theorem Tq.call20 : ∀ (args : Array Value) (w : World), Sem.run Tq.prog (callFunc 20 args) w = Result.ok (Next.enter 20 args) w := by intros; kernel_rfl
@[simp] theorem Tq.call21 : ∀ (args : Array Value) (w : World), Sem.run Tq.prog (callFunc 21 args) w = Result.ok (Next.enter 21 args) w := by intros; kernel_rfl
@[simp] theorem Tq.call22 : ∀ (args : Array Value) (w : World), Sem.run Tq.prog (callFunc 22 args) w = Result.ok (Next.enter 22 args) w := by intros; kernel_rfl
@[simp] theorem Tq.call23 : ∀ (args : Array Value) (w : World), Sem.run Tq.prog (callFunc 23 args) w = Result.ok (Next.enter 23 args) w := by intros; kernel_rfl
@[simp] theorem Tq.call24 : ∀ (args : Array Value) (w : World), Sem.run Tq.prog (callFunc 24 args) w = Result.ok (Next.enter 24 args) w := by intros; kernel_rfl
@[simp] theorem Tq.call25 : ∀ (args : Array Value) (w : World), Sem.run Tq.prog (callFunc 25 args) w = Result.ok (Next.enter 25 args) w := by intros; kernel_rfl
@[simp] theorem Tq.call26 : ∀ (args : Array Value) (w : World), Sem.run Tq.prog (callFunc 26 args) w = Result.ok (Next.enter 26 args) w := by intros; kernel_rfl
@[simp] theorem Tq.call27 : ∀ (args : Array Value) (w : World), Sem.run Tq.prog (callFunc 27 args) w = Result.ok (Next.enter 27 args) w := by intros; kernel_rfl
@[simp] theorem Tq.call28 : ∀ (args : Array Value) (w : World), Sem.run Tq.prog (callFunc 28 args) w = Result.ok (Next.enter 28 args) w := by intros; kernel_rfl
@[simp] theorem Tq.call29 : ∀ (args : Array Value) (w : World), Sem.run Tq.prog (callFunc 29 args) w = Result.ok (Next.enter 29 args) w := by intros; kernel_rfl
@[simp] theorem Tq.call3 : ∀ (args : Array Value) (w : World), Sem.run Tq.prog (callFunc 3 args) w = Result.ok (Next.enter 3 args) w := by intros; kernel_rfl
@[simp] theorem Tq.call30 : ∀ (args : Array Value) (w : World), Sem.run Tq.prog (callFunc 30 args) w = Result.ok (Next.enter 30 args) w := by intros; kernel_rfl
@[simp] theorem Tq.call31 : ∀ (args : Array Value) (w : World), Sem.run Tq.prog (callFunc 31 args) w = Result.ok (Next.enter 31 args) w := by intros; kernel_rfl
@[simp] theorem Tq.call32 : ∀ (args : Array Value) (w : World), Sem.run Tq.prog (callFunc 32 args) w = Result.ok (Next.enter 32 args) w := by intros; kernel_rfl
@[simp] theorem Tq.call33 : ∀ (args : Array Value) (w : World), Sem.run Tq.prog (callFunc 33 args) w = Result.ok (Next.enter 33 args) w := by intros; kernel_rfl
@[simp] theorem Tq.call34 : ∀ (args : Array Value) (w : World), Sem.run Tq.prog (callFunc 34 args) w = Result.ok (Next.enter 34 args) w := by intros; kernel_rfl
@[simp] theorem Tq.call35 : ∀ (args : Array Value) (w : World), Sem.run Tq.prog (callFunc 35 args) w = Result.ok (Next.enter 35 args) w := by intros; kernel_rfl
@[simp] theorem Tq.call36 : ∀ (args : Array Value) (w : World), Sem.run Tq.prog (callFunc 36 args) w = Result.ok (Next.enter 36 args) w := by intros; kernel_rfl
@[simp] theorem Tq.call37 : ∀ (args : Array Value) (w : World), Sem.run Tq.prog (callFunc 37 args) w = Result.ok (Next.enter 37 args) w := by intros; kernel_rfl
@[simp] theorem Tq.call38 : ∀ (args : Array Value) (w : World), Sem.run Tq.prog (callFunc 38 args) w = Result.ok (Next.enter 38 args) w := by intros; kernel_rfl
@[simp] theorem Tq.call39 : ∀ (args : Array Value) (w : World), Sem.run Tq.prog (callFunc 39 args) w = Result.ok (Next.enter 39 args) w := by intros; kernel_rfl
@[simp] theorem Tq.call4 : ∀ (args : Array Value) (w : World), Sem.run Tq.prog (callFunc 4 args) w = Result.ok (Next.enter 4 args) w := by intros; kernel_rfl
@[simp] theorem Tq.call40 : ∀ (args : Array Value) (w : World), Sem.run Tq.prog (callFunc 40 args) w = Result.ok (Next.enter 40 args) w := by intros; kernel_rfl
@[simp] theorem Tq.call41 : ∀ (args : Array Value) (w : World), Sem.run Tq.prog (callFunc 41 args) w = Result.ok (Next.enter 41 args) w := by intros; kernel_rfl
@[simp] theorem Tq.call42 : ∀ (args : Array Value) (w : World), Sem.run Tq.prog (callFunc 42 args) w = Result.ok (Next.enter 42 args) w := by intros; kernel_rfl
@[simp] theorem Tq.call43 : ∀ (args : Array Value) (w : World), Sem.run Tq.prog (callFunc 43 args) w = Result.ok (Next.enter 43 args) w := by intros; kernel_rfl
@[simp] theorem Tq.call44 : ∀ (args : Array Value) (w : World), Sem.run Tq.prog (callFunc 44 args) w = Result.ok (Next.enter 44 args) w := by intros; kernel_rfl
@[simp] theorem Tq.call45 : ∀ (args : Array Value) (w : World), Sem.run Tq.prog (callFunc 45 args) w = Result.ok (Next.enter 45 args) w := by intros; kernel_rfl
@[simp] theorem Tq.call46 : ∀ (args : Array Value) (w : World), Sem.run Tq.prog (callFunc 46 args) w = Result.ok (Next.enter 46 args) w := by intros; kernel_rfl
@[simp] theorem Tq.call47 : ∀ (args : Array Value) (w : World), Sem.run Tq.prog (callFunc 47 args) w = Result.ok (Next.enter 47 args) w := by intros; kernel_rfl
@[simp] theorem Tq.call48 : ∀ (args : Array Value) (w : World), Sem.run Tq.prog (callFunc 48 args) w = Result.ok (Next.enter 48 args) w := by intros; kernel_rfl
@[simp] theorem Tq.call49 : ∀ (args : Array Value) (w : World), Sem.run Tq.prog (callFunc 49 args) w = Result.ok (Next.enter 49 args) w := by intros; kernel_rfl
@[simp] theorem Tq.call5 : ∀ (args : Array Value) (w : World), Sem.run Tq.prog (callFunc 5 args) w = Result.ok (Next.enter 5 args) w := by intros; kernel_rfl
@[simp] theorem Tq.call50 : ∀ (args : Array Value) (w : World), Sem.run Tq.prog (callFunc 50 args) w = Result.ok (Next.enter 50 args) w := by intros; kernel_rfl
@[simp] theorem Tq.call51 : ∀ (args : Array Value) (w : World), Sem.run Tq.prog (callFunc 51 args) w = Result.ok (Next.enter 51 args) w := by intros; kernel_rfl
@[simp] theorem Tq.call52 : ∀ (args : Array Value) (w : World), Sem.run Tq.prog (callFunc 52 args) w = Result.ok (Next.enter 52 args) w := by intros; kernel_rfl
@[simp] theorem Tq.call53 : ∀ (args : Array Value) (w : World), Sem.run Tq.prog (callFunc 53 args) w = Result.ok (Next.enter 53 args) w := by intros; kernel_rfl
@[simp] theorem Tq.call54 : ∀ (args : Array Value) (w : World), Sem.run Tq.prog (callFunc 54 args) w = Result.ok (Next.enter 54 args) w := by intros; kernel_rfl
@[simp] theorem Tq.call55 : ∀ (args : Array Value) (w : World), Sem.run Tq.prog (callFunc 55 args) w = Result.ok (Next.enter 55 args) w := by intros; kernel_rfl
@[simp] theorem Tq.call56 : ∀ (args : Array Value) (w : World), Sem.run Tq.prog (callFunc 56 args) w = Result.ok (Next.enter 56 args) w := by intros; kernel_rfl
@[simp] theorem Tq.call57 : ∀ (args : Array Value) (w : World), Sem.run Tq.prog (callFunc 57 args) w = Result.ok (Next.enter 57 args) w := by intros; kernel_rfl
@[simp] theorem Tq.call58 : ∀ (args : Array Value) (w : World), Sem.run Tq.prog (callFunc 58 args) w = Result.ok (Next.enter 58 args) w := by intros; kernel_rfl
@[simp] theorem Tq.call59 : ∀ (args : Array Value) (w : World), Sem.run Tq.prog (callFunc 59 args) w = Result.ok (Next.enter 59 args) w := by intros; kernel_rfl
@[simp] theorem Tq.call6 : ∀ (args : Array Value) (w : World), Sem.run Tq.prog (callFunc 6 args) w = Result.ok (Next.enter 6 args) w := by intros; kernel_rfl
@[simp] theorem Tq.call60 : ∀ (args : Array Value) (w : World), Sem.run Tq.prog (callFunc 60 args) w = Result.ok (Next.enter 60 args) w := by intros; kernel_rfl
@[simp] theorem Tq.call61 : ∀ (args : Array Value) (w : World), Sem.run Tq.prog (callFunc 61 args) w = Result.ok (Next.enter 61 args) w := by intros; kernel_rfl
@[simp] theorem Tq.call62 : ∀ (args : Array Value) (w : World), Sem.run Tq.prog (callFunc 62 args) w = Result.ok (Next.enter 62 args) w := by intros; kernel_rfl
@[simp] theorem Tq.call63 : ∀ (args : Array Value) (w : World), Sem.run Tq.prog (callFunc 63 args) w = Result.ok (Next.enter 63 args) w := by intros; kernel_rfl
@[simp] theorem Tq.call65 : ∀ (args : Array Value) (w : World), Sem.run Tq.prog (callFunc 65 args) w = Result.ok (Next.enter 65 args) w := by intros; kernel_rfl
@[simp] theorem Tq.call66 : ∀ (args : Array Value) (w : World), Sem.run Tq.prog (callFunc 66 args) w = Result.ok (Next.enter 66 args) w := by intros; kernel_rfl
@[simp] theorem Tq.call67 : ∀ (args : Array Value) (w : World), Sem.run Tq.prog (callFunc 67 args) w = Result.ok (Next.enter 67 args) w := by intros; kernel_rfl
@[simp] theorem Tq.call68 : ∀ (args : Array Value) (w : World), Sem.run Tq.prog (callFunc 68 args) w = Result.ok (Next.enter 68 args) w := by intros; kernel_rfl
@[simp] theorem Tq.call69 : ∀ (args : Array Value) (w : World), Sem.run Tq.prog (callFunc 69 args) w = Result.ok (Next.enter 69 args) w := by intros; kernel_rfl
@[simp] theorem Tq.call7 : ∀ (args : Array Value) (w : World), Sem.run Tq.prog (callFunc 7 args) w = Result.ok (Next.enter 7 args) w := by intros; kernel_rfl
@[simp] theorem Tq.call76 : ∀ (args : Array Value) (w : World), Sem.run Tq.prog (callFunc 76 args) w = Result.ok (Next.enter 76 args) w := by intros; kernel_rfl
@[simp] theorem Tq.call77 : ∀ (args : Array Value) (w : World), Sem.run Tq.prog (callFunc 77 args) w = Result.ok (Next.enter 77 args) w := by intros; kernel_rfl
@[simp] theorem Tq.call79 : ∀ (args : Array Value) (w : World), Sem.run Tq.prog (callFunc 79 args) w = Result.ok (Next.enter 79 args) w := by intros; kernel_rfl
@[simp] theorem Tq.call8 : ∀ (args : Array Value) (w : World), Sem.run Tq.prog (callFunc 8 args) w = Result.ok (Next.enter 8 args) w := by intros; kernel_rfl
@[simp] theorem Tq.call80 : ∀ (args : Array Value) (w : World), Sem.run Tq.prog (callFunc 80 args) w = Result.ok (Next.enter 80 args) w := by intros; kernel_rfl
@[simp] theorem Tq.call85 : ∀ (args : Array Value) (w : World), Sem.run Tq.prog (callFunc 85 args) w = Result.ok (Next.enter 85 args) w := by intros; kernel_rfl
@[simp] theorem Tq.call9 : ∀ (args : Array Value) (w : World), Sem.run Tq.prog (callFunc 9 args) w = Result.ok (Next.enter 9 args) w := by intros; kernel_rfl
@[simp] theorem Tq.eqGuardType100 : Tq.prog.eqGuardType Tq.prog.depth 100 = false := by kernel_rfl
@[simp] theorem Tq.eqGuardType101 : Tq.prog.eqGuardType Tq.prog.depth 101 = false := by kernel_rfl
@[simp] theorem Tq.eqGuardType102 : Tq.prog.eqGuardType Tq.prog.depth 102 = false := by kernel_rfl
@[simp] theorem Tq.eqGuardType110 : Tq.prog.eqGuardType Tq.prog.depth 110 = false := by kernel_rfl
@[simp] theorem Tq.eqGuardType111 : Tq.prog.eqGuardType Tq.prog.depth 111 = false := by kernel_rfl
@[simp] theorem Tq.eqGuardType13 : Tq.prog.eqGuardType Tq.prog.depth 13 = false := by kernel_rfl
@[simp] theorem Tq.eqGuardType14 : Tq.prog.eqGuardType Tq.prog.depth 14 = false := by kernel_rfl
@[simp] theorem Tq.eqGuardType18 : Tq.prog.eqGuardType Tq.prog.depth 18 = false := by kernel_rfl
@[simp] theorem Tq.eqGuardType19 : Tq.prog.eqGuardType Tq.prog.depth 19 = false := by kernel_rfl
@[simp] theorem Tq.eqGuardType22 : Tq.prog.eqGuardType Tq.prog.depth 22 = false := by kernel_rfl
@[simp] theorem Tq.eqGuardType23 : Tq.prog.eqGuardType Tq.prog.depth 23 = false := by kernel_rfl
@[simp] theorem Tq.eqGuardType26 : Tq.prog.eqGuardType Tq.prog.depth 26 = false := by kernel_rfl
@[simp] theorem Tq.eqGuardType45 : Tq.prog.eqGuardType Tq.prog.depth 45 = false := by kernel_rfl
@[simp] theorem Tq.eqGuardType46 : Tq.prog.eqGuardType Tq.prog.depth 46 = false := by kernel_rfl
@[simp] theorem Tq.eqGuardType49 : Tq.prog.eqGuardType Tq.prog.depth 49 = false := by kernel_rfl
@[simp] theorem Tq.eqGuardType50 : Tq.prog.eqGuardType Tq.prog.depth 50 = false := by kernel_rfl
@[simp] theorem Tq.eqGuardType51 : Tq.prog.eqGuardType Tq.prog.depth 51 = false := by kernel_rfl
@[simp] theorem Tq.eqGuardType52 : Tq.prog.eqGuardType Tq.prog.depth 52 = false := by kernel_rfl
@[simp] theorem Tq.eqGuardType53 : Tq.prog.eqGuardType Tq.prog.depth 53 = false := by kernel_rfl
@[simp] theorem Tq.eqGuardType60 : Tq.prog.eqGuardType Tq.prog.depth 60 = false := by kernel_rfl
@[simp] theorem Tq.eqGuardType61 : Tq.prog.eqGuardType Tq.prog.depth 61 = false := by kernel_rfl
@[simp] theorem Tq.eqGuardType62 : Tq.prog.eqGuardType Tq.prog.depth 62 = false := by kernel_rfl
@[simp] theorem Tq.eqGuardType64 : Tq.prog.eqGuardType Tq.prog.depth 64 = false := by kernel_rfl
@[simp] theorem Tq.eqGuardType65 : Tq.prog.eqGuardType Tq.prog.depth 65 = false := by kernel_rfl
@[simp] theorem Tq.eqGuardType7 : Tq.prog.eqGuardType Tq.prog.depth 7 = false := by kernel_rfl
@[simp] theorem Tq.eqGuardType8 : Tq.prog.eqGuardType Tq.prog.depth 8 = false := by kernel_rfl
@[simp] theorem Tq.eqGuardType98 : Tq.prog.eqGuardType Tq.prog.depth 98 = false := by kernel_rfl
@[simp] theorem Tq.eqGuardType99 : Tq.prog.eqGuardType Tq.prog.depth 99 = false := by kernel_rfl
noncomputable abbrev Tq.f0 : Func := { Try.f0 with body := some (.refuse "no") }
@[simp] theorem Tq.func0 : Tq.prog.funcs[0]? = some Tq.f0 := by kernel_rfl
noncomputable abbrev Tq.f1 : Func := { Try.f1 with body := some (.refuse "no") }
@[simp] theorem Tq.func1 : Tq.prog.funcs[1]? = some Tq.f1 := by kernel_rfl
noncomputable abbrev Tq.f10 : Func := Try.f10
@[simp] theorem Tq.func10 : Tq.prog.funcs[10]? = some Tq.f10 := by kernel_rfl
noncomputable abbrev Tq.f100 : Func := { Try.f100 with body := some (.refuse "no") }
@[simp] theorem Tq.func100 : Tq.prog.funcs[100]? = some Tq.f100 := by kernel_rfl
noncomputable abbrev Tq.f101 : Func := { Try.f101 with body := some (.refuse "no") }
@[simp] theorem Tq.func101 : Tq.prog.funcs[101]? = some Tq.f101 := by kernel_rfl
noncomputable abbrev Tq.f102 : Func := { Try.f102 with body := some (.refuse "no") }
@[simp] theorem Tq.func102 : Tq.prog.funcs[102]? = some Tq.f102 := by kernel_rfl
noncomputable abbrev Tq.f103 : Func := { Try.f103 with body := some (.refuse "no") }
@[simp] theorem Tq.func103 : Tq.prog.funcs[103]? = some Tq.f103 := by kernel_rfl
noncomputable abbrev Tq.f104 : Func := { Try.f104 with body := some (.refuse "no") }
@[simp] theorem Tq.func104 : Tq.prog.funcs[104]? = some Tq.f104 := by kernel_rfl
noncomputable abbrev Tq.f105 : Func := { Try.f105 with body := some (.refuse "no") }
@[simp] theorem Tq.func105 : Tq.prog.funcs[105]? = some Tq.f105 := by kernel_rfl
noncomputable abbrev Tq.f106 : Func := { Try.f106 with body := some (.refuse "no") }
@[simp] theorem Tq.func106 : Tq.prog.funcs[106]? = some Tq.f106 := by kernel_rfl
noncomputable abbrev Tq.f107 : Func := { Try.f107 with body := some (.refuse "no") }
@[simp] theorem Tq.func107 : Tq.prog.funcs[107]? = some Tq.f107 := by kernel_rfl
noncomputable abbrev Tq.f108 : Func := { Try.f108 with body := some (.refuse "no") }
@[simp] theorem Tq.func108 : Tq.prog.funcs[108]? = some Tq.f108 := by kernel_rfl
noncomputable abbrev Tq.f109 : Func := { Try.f109 with body := some (.refuse "no") }
@[simp] theorem Tq.func109 : Tq.prog.funcs[109]? = some Tq.f109 := by kernel_rfl
noncomputable abbrev Tq.f11 : Func := Try.f11
@[simp] theorem Tq.func11 : Tq.prog.funcs[11]? = some Tq.f11 := by kernel_rfl
noncomputable abbrev Tq.f110 : Func := { Try.f110 with body := some (.refuse "no") }
@[simp] theorem Tq.func110 : Tq.prog.funcs[110]? = some Tq.f110 := by kernel_rfl
noncomputable abbrev Tq.f12 : Func := Try.f12
@[simp] theorem Tq.func12 : Tq.prog.funcs[12]? = some Tq.f12 := by kernel_rfl
noncomputable abbrev Tq.f13 : Func := Try.f13
@[simp] theorem Tq.func13 : Tq.prog.funcs[13]? = some Tq.f13 := by kernel_rfl
noncomputable abbrev Tq.f14 : Func := { Try.f14 with body := some Tq.body14 }
@[simp] theorem Tq.func14 : Tq.prog.funcs[14]? = some Tq.f14 := by kernel_rfl
noncomputable abbrev Tq.f15 : Func := Try.f15
@[simp] theorem Tq.func15 : Tq.prog.funcs[15]? = some Tq.f15 := by kernel_rfl
noncomputable abbrev Tq.f16 : Func := Try.f16
@[simp] theorem Tq.func16 : Tq.prog.funcs[16]? = some Tq.f16 := by kernel_rfl
noncomputable abbrev Tq.f17 : Func := Try.f17
@[simp] theorem Tq.func17 : Tq.prog.funcs[17]? = some Tq.f17 := by kernel_rfl
noncomputable abbrev Tq.f18 : Func := Try.f18
@[simp] theorem Tq.func18 : Tq.prog.funcs[18]? = some Tq.f18 := by kernel_rfl
noncomputable abbrev Tq.f19 : Func := Try.f19
@[simp] theorem Tq.func19 : Tq.prog.funcs[19]? = some Tq.f19 := by kernel_rfl
noncomputable abbrev Tq.f2 : Func := Try.f2
@[simp] theorem Tq.func2 : Tq.prog.funcs[2]? = some Tq.f2 := by kernel_rfl
noncomputable abbrev Tq.f20 : Func := Try.f20
@[simp] theorem Tq.func20 : Tq.prog.funcs[20]? = some Tq.f20 := by kernel_rfl
noncomputable abbrev Tq.f21 : Func := Try.f21
@[simp] theorem Tq.func21 : Tq.prog.funcs[21]? = some Tq.f21 := by kernel_rfl
noncomputable abbrev Tq.f22 : Func := Try.f22
@[simp] theorem Tq.func22 : Tq.prog.funcs[22]? = some Tq.f22 := by kernel_rfl
noncomputable abbrev Tq.f23 : Func := Try.f23
@[simp] theorem Tq.func23 : Tq.prog.funcs[23]? = some Tq.f23 := by kernel_rfl
noncomputable abbrev Tq.f24 : Func := Try.f24
@[simp] theorem Tq.func24 : Tq.prog.funcs[24]? = some Tq.f24 := by kernel_rfl
noncomputable abbrev Tq.f25 : Func := Try.f25
@[simp] theorem Tq.func25 : Tq.prog.funcs[25]? = some Tq.f25 := by kernel_rfl
noncomputable abbrev Tq.f26 : Func := { Try.f26 with body := some Tq.body26 }
@[simp] theorem Tq.func26 : Tq.prog.funcs[26]? = some Tq.f26 := by kernel_rfl
noncomputable abbrev Tq.f27 : Func := Try.f27
@[simp] theorem Tq.func27 : Tq.prog.funcs[27]? = some Tq.f27 := by kernel_rfl
noncomputable abbrev Tq.f28 : Func := Try.f28
@[simp] theorem Tq.func28 : Tq.prog.funcs[28]? = some Tq.f28 := by kernel_rfl
noncomputable abbrev Tq.f29 : Func := Try.f29
@[simp] theorem Tq.func29 : Tq.prog.funcs[29]? = some Tq.f29 := by kernel_rfl
noncomputable abbrev Tq.f3 : Func := Try.f3
@[simp] theorem Tq.func3 : Tq.prog.funcs[3]? = some Tq.f3 := by kernel_rfl
noncomputable abbrev Tq.f30 : Func := Try.f30
@[simp] theorem Tq.func30 : Tq.prog.funcs[30]? = some Tq.f30 := by kernel_rfl
noncomputable abbrev Tq.f31 : Func := Try.f31
@[simp] theorem Tq.func31 : Tq.prog.funcs[31]? = some Tq.f31 := by kernel_rfl
noncomputable abbrev Tq.f32 : Func := Try.f32
@[simp] theorem Tq.func32 : Tq.prog.funcs[32]? = some Tq.f32 := by kernel_rfl
noncomputable abbrev Tq.f33 : Func := Try.f33
@[simp] theorem Tq.func33 : Tq.prog.funcs[33]? = some Tq.f33 := by kernel_rfl
noncomputable abbrev Tq.f34 : Func := Try.f34
@[simp] theorem Tq.func34 : Tq.prog.funcs[34]? = some Tq.f34 := by kernel_rfl
noncomputable abbrev Tq.f35 : Func := Try.f35
@[simp] theorem Tq.func35 : Tq.prog.funcs[35]? = some Tq.f35 := by kernel_rfl
noncomputable abbrev Tq.f36 : Func := Try.f36
@[simp] theorem Tq.func36 : Tq.prog.funcs[36]? = some Tq.f36 := by kernel_rfl
noncomputable abbrev Tq.f37 : Func := Try.f37
@[simp] theorem Tq.func37 : Tq.prog.funcs[37]? = some Tq.f37 := by kernel_rfl
noncomputable abbrev Tq.f38 : Func := Try.f38
@[simp] theorem Tq.func38 : Tq.prog.funcs[38]? = some Tq.f38 := by kernel_rfl
noncomputable abbrev Tq.f39 : Func := Try.f39
@[simp] theorem Tq.func39 : Tq.prog.funcs[39]? = some Tq.f39 := by kernel_rfl
noncomputable abbrev Tq.f4 : Func := Try.f4
@[simp] theorem Tq.func4 : Tq.prog.funcs[4]? = some Tq.f4 := by kernel_rfl
noncomputable abbrev Tq.f40 : Func := Try.f40
@[simp] theorem Tq.func40 : Tq.prog.funcs[40]? = some Tq.f40 := by kernel_rfl
noncomputable abbrev Tq.f41 : Func := Try.f41
@[simp] theorem Tq.func41 : Tq.prog.funcs[41]? = some Tq.f41 := by kernel_rfl
noncomputable abbrev Tq.f42 : Func := Try.f42
@[simp] theorem Tq.func42 : Tq.prog.funcs[42]? = some Tq.f42 := by kernel_rfl
noncomputable abbrev Tq.f43 : Func := Try.f43
@[simp] theorem Tq.func43 : Tq.prog.funcs[43]? = some Tq.f43 := by kernel_rfl
noncomputable abbrev Tq.f44 : Func := Try.f44
@[simp] theorem Tq.func44 : Tq.prog.funcs[44]? = some Tq.f44 := by kernel_rfl
noncomputable abbrev Tq.f45 : Func := Try.f45
@[simp] theorem Tq.func45 : Tq.prog.funcs[45]? = some Tq.f45 := by kernel_rfl
noncomputable abbrev Tq.f46 : Func := Try.f46
@[simp] theorem Tq.func46 : Tq.prog.funcs[46]? = some Tq.f46 := by kernel_rfl
noncomputable abbrev Tq.f47 : Func := Try.f47
@[simp] theorem Tq.func47 : Tq.prog.funcs[47]? = some Tq.f47 := by kernel_rfl
noncomputable abbrev Tq.f48 : Func := Try.f48
@[simp] theorem Tq.func48 : Tq.prog.funcs[48]? = some Tq.f48 := by kernel_rfl
noncomputable abbrev Tq.f49 : Func := { Try.f49 with body := some (.refuse "no") }
@[simp] theorem Tq.func49 : Tq.prog.funcs[49]? = some Tq.f49 := by kernel_rfl
noncomputable abbrev Tq.f5 : Func := Try.f5
@[simp] theorem Tq.func5 : Tq.prog.funcs[5]? = some Tq.f5 := by kernel_rfl
noncomputable abbrev Tq.f50 : Func := Try.f50
@[simp] theorem Tq.func50 : Tq.prog.funcs[50]? = some Tq.f50 := by kernel_rfl
noncomputable abbrev Tq.f51 : Func := { Try.f51 with body := some (.refuse "no") }
@[simp] theorem Tq.func51 : Tq.prog.funcs[51]? = some Tq.f51 := by kernel_rfl
noncomputable abbrev Tq.f52 : Func := Try.f52
@[simp] theorem Tq.func52 : Tq.prog.funcs[52]? = some Tq.f52 := by kernel_rfl
noncomputable abbrev Tq.f53 : Func := Try.f53
@[simp] theorem Tq.func53 : Tq.prog.funcs[53]? = some Tq.f53 := by kernel_rfl
noncomputable abbrev Tq.f54 : Func := Try.f54
@[simp] theorem Tq.func54 : Tq.prog.funcs[54]? = some Tq.f54 := by kernel_rfl
noncomputable abbrev Tq.f55 : Func := Try.f55
@[simp] theorem Tq.func55 : Tq.prog.funcs[55]? = some Tq.f55 := by kernel_rfl
noncomputable abbrev Tq.f56 : Func := Try.f56
@[simp] theorem Tq.func56 : Tq.prog.funcs[56]? = some Tq.f56 := by kernel_rfl
noncomputable abbrev Tq.f57 : Func := Try.f57
@[simp] theorem Tq.func57 : Tq.prog.funcs[57]? = some Tq.f57 := by kernel_rfl
noncomputable abbrev Tq.f58 : Func := Try.f58
@[simp] theorem Tq.func58 : Tq.prog.funcs[58]? = some Tq.f58 := by kernel_rfl
noncomputable abbrev Tq.f59 : Func := { Try.f59 with body := some (.refuse "no") }
@[simp] theorem Tq.func59 : Tq.prog.funcs[59]? = some Tq.f59 := by kernel_rfl
noncomputable abbrev Tq.f6 : Func := Try.f6
@[simp] theorem Tq.func6 : Tq.prog.funcs[6]? = some Tq.f6 := by kernel_rfl
noncomputable abbrev Tq.f60 : Func := { Try.f60 with body := some (.refuse "no") }
@[simp] theorem Tq.func60 : Tq.prog.funcs[60]? = some Tq.f60 := by kernel_rfl
noncomputable abbrev Tq.f61 : Func := Try.f61
@[simp] theorem Tq.func61 : Tq.prog.funcs[61]? = some Tq.f61 := by kernel_rfl
noncomputable abbrev Tq.f62 : Func := { Try.f62 with body := some (.refuse "no") }
@[simp] theorem Tq.func62 : Tq.prog.funcs[62]? = some Tq.f62 := by kernel_rfl
noncomputable abbrev Tq.f63 : Func := { Try.f63 with body := some (.refuse "no") }
@[simp] theorem Tq.func63 : Tq.prog.funcs[63]? = some Tq.f63 := by kernel_rfl
noncomputable abbrev Tq.f64 : Func := { Try.f64 with body := some (.refuse "no") }
@[simp] theorem Tq.func64 : Tq.prog.funcs[64]? = some Tq.f64 := by kernel_rfl
noncomputable abbrev Tq.f65 : Func := Try.f65
@[simp] theorem Tq.func65 : Tq.prog.funcs[65]? = some Tq.f65 := by kernel_rfl
noncomputable abbrev Tq.f66 : Func := Try.f66
@[simp] theorem Tq.func66 : Tq.prog.funcs[66]? = some Tq.f66 := by kernel_rfl
noncomputable abbrev Tq.f67 : Func := Try.f67
@[simp] theorem Tq.func67 : Tq.prog.funcs[67]? = some Tq.f67 := by kernel_rfl
noncomputable abbrev Tq.f68 : Func := Try.f68
@[simp] theorem Tq.func68 : Tq.prog.funcs[68]? = some Tq.f68 := by kernel_rfl
noncomputable abbrev Tq.f69 : Func := Try.f69
@[simp] theorem Tq.func69 : Tq.prog.funcs[69]? = some Tq.f69 := by kernel_rfl
noncomputable abbrev Tq.f7 : Func := Try.f7
@[simp] theorem Tq.func7 : Tq.prog.funcs[7]? = some Tq.f7 := by kernel_rfl
noncomputable abbrev Tq.f70 : Func := { Try.f70 with body := some (.refuse "no") }
@[simp] theorem Tq.func70 : Tq.prog.funcs[70]? = some Tq.f70 := by kernel_rfl
noncomputable abbrev Tq.f71 : Func := { Try.f71 with body := some (.refuse "no") }
@[simp] theorem Tq.func71 : Tq.prog.funcs[71]? = some Tq.f71 := by kernel_rfl
noncomputable abbrev Tq.f72 : Func := { Try.f72 with body := some (.refuse "no") }
@[simp] theorem Tq.func72 : Tq.prog.funcs[72]? = some Tq.f72 := by kernel_rfl
noncomputable abbrev Tq.f73 : Func := { Try.f73 with body := some (.refuse "no") }
@[simp] theorem Tq.func73 : Tq.prog.funcs[73]? = some Tq.f73 := by kernel_rfl
noncomputable abbrev Tq.f74 : Func := { Try.f74 with body := some (.refuse "no") }
@[simp] theorem Tq.func74 : Tq.prog.funcs[74]? = some Tq.f74 := by kernel_rfl
noncomputable abbrev Tq.f75 : Func := { Try.f75 with body := some (.refuse "no") }
@[simp] theorem Tq.func75 : Tq.prog.funcs[75]? = some Tq.f75 := by kernel_rfl
noncomputable abbrev Tq.f76 : Func := { Try.f76 with body := some (.refuse "no") }
@[simp] theorem Tq.func76 : Tq.prog.funcs[76]? = some Tq.f76 := by kernel_rfl
noncomputable abbrev Tq.f77 : Func := { Try.f77 with body := some (.refuse "no") }
@[simp] theorem Tq.func77 : Tq.prog.funcs[77]? = some Tq.f77 := by kernel_rfl
noncomputable abbrev Tq.f78 : Func := { Try.f78 with body := some (.refuse "no") }
@[simp] theorem Tq.func78 : Tq.prog.funcs[78]? = some Tq.f78 := by kernel_rfl
noncomputable abbrev Tq.f79 : Func := { Try.f79 with body := some (.refuse "no") }
@[simp] theorem Tq.func79 : Tq.prog.funcs[79]? = some Tq.f79 := by kernel_rfl
noncomputable abbrev Tq.f8 : Func := Try.f8
@[simp] theorem Tq.func8 : Tq.prog.funcs[8]? = some Tq.f8 := by kernel_rfl
noncomputable abbrev Tq.f80 : Func := { Try.f80 with body := some (.refuse "no") }
@[simp] theorem Tq.func80 : Tq.prog.funcs[80]? = some Tq.f80 := by kernel_rfl
noncomputable abbrev Tq.f81 : Func := { Try.f81 with body := some (.refuse "no") }
@[simp] theorem Tq.func81 : Tq.prog.funcs[81]? = some Tq.f81 := by kernel_rfl
noncomputable abbrev Tq.f82 : Func := { Try.f82 with body := some (.refuse "no") }
@[simp] theorem Tq.func82 : Tq.prog.funcs[82]? = some Tq.f82 := by kernel_rfl
noncomputable abbrev Tq.f83 : Func := { Try.f83 with body := some (.refuse "no") }
@[simp] theorem Tq.func83 : Tq.prog.funcs[83]? = some Tq.f83 := by kernel_rfl
noncomputable abbrev Tq.f84 : Func := { Try.f84 with body := some (.refuse "no") }
@[simp] theorem Tq.func84 : Tq.prog.funcs[84]? = some Tq.f84 := by kernel_rfl
noncomputable abbrev Tq.f85 : Func := { Try.f85 with body := some (.refuse "no") }
@[simp] theorem Tq.func85 : Tq.prog.funcs[85]? = some Tq.f85 := by kernel_rfl
noncomputable abbrev Tq.f86 : Func := { Try.f86 with body := some (.refuse "no") }
@[simp] theorem Tq.func86 : Tq.prog.funcs[86]? = some Tq.f86 := by kernel_rfl
noncomputable abbrev Tq.f87 : Func := { Try.f87 with body := some (.refuse "no") }
@[simp] theorem Tq.func87 : Tq.prog.funcs[87]? = some Tq.f87 := by kernel_rfl
noncomputable abbrev Tq.f88 : Func := { Try.f88 with body := some (.refuse "no") }
@[simp] theorem Tq.func88 : Tq.prog.funcs[88]? = some Tq.f88 := by kernel_rfl
noncomputable abbrev Tq.f89 : Func := { Try.f89 with body := some (.refuse "no") }
@[simp] theorem Tq.func89 : Tq.prog.funcs[89]? = some Tq.f89 := by kernel_rfl
noncomputable abbrev Tq.f9 : Func := Try.f9
@[simp] theorem Tq.func9 : Tq.prog.funcs[9]? = some Tq.f9 := by kernel_rfl
noncomputable abbrev Tq.f90 : Func := { Try.f90 with body := some (.refuse "no") }
@[simp] theorem Tq.func90 : Tq.prog.funcs[90]? = some Tq.f90 := by kernel_rfl
noncomputable abbrev Tq.f91 : Func := { Try.f91 with body := some (.refuse "no") }
@[simp] theorem Tq.func91 : Tq.prog.funcs[91]? = some Tq.f91 := by kernel_rfl
noncomputable abbrev Tq.f92 : Func := { Try.f92 with body := some (.refuse "no") }
@[simp] theorem Tq.func92 : Tq.prog.funcs[92]? = some Tq.f92 := by kernel_rfl
noncomputable abbrev Tq.f93 : Func := { Try.f93 with body := some (.refuse "no") }
@[simp] theorem Tq.func93 : Tq.prog.funcs[93]? = some Tq.f93 := by kernel_rfl
noncomputable abbrev Tq.f94 : Func := { Try.f94 with body := some (.refuse "no") }
@[simp] theorem Tq.func94 : Tq.prog.funcs[94]? = some Tq.f94 := by kernel_rfl
noncomputable abbrev Tq.f95 : Func := { Try.f95 with body := some (.refuse "no") }
@[simp] theorem Tq.func95 : Tq.prog.funcs[95]? = some Tq.f95 := by kernel_rfl
noncomputable abbrev Tq.f96 : Func := { Try.f96 with body := some (.refuse "no") }
@[simp] theorem Tq.func96 : Tq.prog.funcs[96]? = some Tq.f96 := by kernel_rfl
noncomputable abbrev Tq.f97 : Func := { Try.f97 with body := some (.refuse "no") }
@[simp] theorem Tq.func97 : Tq.prog.funcs[97]? = some Tq.f97 := by kernel_rfl
noncomputable abbrev Tq.f98 : Func := { Try.f98 with body := some (.refuse "no") }
@[simp] theorem Tq.func98 : Tq.prog.funcs[98]? = some Tq.f98 := by kernel_rfl
noncomputable abbrev Tq.f99 : Func := { Try.f99 with body := some (.refuse "no") }
@[simp] theorem Tq.func99 : Tq.prog.funcs[99]? = some Tq.f99 := by kernel_rfl
@[simp] theorem Tq.globals_size : Tq.prog.globals.size = 0 := by kernel_rfl
@[simp] theorem Tq.inits_eq : Tq.prog.inits = #[2] := by kernel_rfl
@[simp] theorem Tq.isAgg0 : ∀ (w : World), Sem.run Tq.prog (isAgg 0) w = Result.ok false w := by intros; kernel_rfl
@[simp] theorem Tq.isAgg1 : ∀ (w : World), Sem.run Tq.prog (isAgg 1) w = Result.ok false w := by intros; kernel_rfl
@[simp] theorem Tq.isAgg10 : ∀ (w : World), Sem.run Tq.prog (isAgg 10) w = Result.ok false w := by intros; kernel_rfl
@[simp] theorem Tq.isAgg100 : ∀ (w : World), Sem.run Tq.prog (isAgg 100) w = Result.ok true w := by intros; kernel_rfl
@[simp] theorem Tq.isAgg101 : ∀ (w : World), Sem.run Tq.prog (isAgg 101) w = Result.ok true w := by intros; kernel_rfl
@[simp] theorem Tq.isAgg102 : ∀ (w : World), Sem.run Tq.prog (isAgg 102) w = Result.ok true w := by intros; kernel_rfl
@[simp] theorem Tq.isAgg103 : ∀ (w : World), Sem.run Tq.prog (isAgg 103) w = Result.ok false w := by intros; kernel_rfl
@[simp] theorem Tq.isAgg104 : ∀ (w : World), Sem.run Tq.prog (isAgg 104) w = Result.ok false w := by intros; kernel_rfl
@[simp] theorem Tq.isAgg105 : ∀ (w : World), Sem.run Tq.prog (isAgg 105) w = Result.ok false w := by intros; kernel_rfl
@[simp] theorem Tq.isAgg106 : ∀ (w : World), Sem.run Tq.prog (isAgg 106) w = Result.ok false w := by intros; kernel_rfl
@[simp] theorem Tq.isAgg107 : ∀ (w : World), Sem.run Tq.prog (isAgg 107) w = Result.ok false w := by intros; kernel_rfl
@[simp] theorem Tq.isAgg108 : ∀ (w : World), Sem.run Tq.prog (isAgg 108) w = Result.ok false w := by intros; kernel_rfl
@[simp] theorem Tq.isAgg109 : ∀ (w : World), Sem.run Tq.prog (isAgg 109) w = Result.ok false w := by intros; kernel_rfl
@[simp] theorem Tq.isAgg11 : ∀ (w : World), Sem.run Tq.prog (isAgg 11) w = Result.ok false w := by intros; kernel_rfl
@[simp] theorem Tq.isAgg110 : ∀ (w : World), Sem.run Tq.prog (isAgg 110) w = Result.ok true w := by intros; kernel_rfl
@[simp] theorem Tq.isAgg111 : ∀ (w : World), Sem.run Tq.prog (isAgg 111) w = Result.ok true w := by intros; kernel_rfl
@[simp] theorem Tq.isAgg12 : ∀ (w : World), Sem.run Tq.prog (isAgg 12) w = Result.ok false w := by intros; kernel_rfl
@[simp] theorem Tq.isAgg13 : ∀ (w : World), Sem.run Tq.prog (isAgg 13) w = Result.ok true w := by intros; kernel_rfl
@[simp] theorem Tq.isAgg14 : ∀ (w : World), Sem.run Tq.prog (isAgg 14) w = Result.ok true w := by intros; kernel_rfl
@[simp] theorem Tq.isAgg15 : ∀ (w : World), Sem.run Tq.prog (isAgg 15) w = Result.ok false w := by intros; kernel_rfl
@[simp] theorem Tq.isAgg16 : ∀ (w : World), Sem.run Tq.prog (isAgg 16) w = Result.ok false w := by intros; kernel_rfl
@[simp] theorem Tq.isAgg17 : ∀ (w : World), Sem.run Tq.prog (isAgg 17) w = Result.ok false w := by intros; kernel_rfl
@[simp] theorem Tq.isAgg18 : ∀ (w : World), Sem.run Tq.prog (isAgg 18) w = Result.ok true w := by intros; kernel_rfl
@[simp] theorem Tq.isAgg19 : ∀ (w : World), Sem.run Tq.prog (isAgg 19) w = Result.ok true w := by intros; kernel_rfl
@[simp] theorem Tq.isAgg2 : ∀ (w : World), Sem.run Tq.prog (isAgg 2) w = Result.ok false w := by intros; kernel_rfl
@[simp] theorem Tq.isAgg20 : ∀ (w : World), Sem.run Tq.prog (isAgg 20) w = Result.ok false w := by intros; kernel_rfl
@[simp] theorem Tq.isAgg21 : ∀ (w : World), Sem.run Tq.prog (isAgg 21) w = Result.ok false w := by intros; kernel_rfl
@[simp] theorem Tq.isAgg22 : ∀ (w : World), Sem.run Tq.prog (isAgg 22) w = Result.ok true w := by intros; kernel_rfl
@[simp] theorem Tq.isAgg23 : ∀ (w : World), Sem.run Tq.prog (isAgg 23) w = Result.ok true w := by intros; kernel_rfl
@[simp] theorem Tq.isAgg24 : ∀ (w : World), Sem.run Tq.prog (isAgg 24) w = Result.ok false w := by intros; kernel_rfl
@[simp] theorem Tq.isAgg25 : ∀ (w : World), Sem.run Tq.prog (isAgg 25) w = Result.ok false w := by intros; kernel_rfl
@[simp] theorem Tq.isAgg26 : ∀ (w : World), Sem.run Tq.prog (isAgg 26) w = Result.ok true w := by intros; kernel_rfl
@[simp] theorem Tq.isAgg27 : ∀ (w : World), Sem.run Tq.prog (isAgg 27) w = Result.ok false w := by intros; kernel_rfl
@[simp] theorem Tq.isAgg28 : ∀ (w : World), Sem.run Tq.prog (isAgg 28) w = Result.ok false w := by intros; kernel_rfl
@[simp] theorem Tq.isAgg29 : ∀ (w : World), Sem.run Tq.prog (isAgg 29) w = Result.ok false w := by intros; kernel_rfl
@[simp] theorem Tq.isAgg3 : ∀ (w : World), Sem.run Tq.prog (isAgg 3) w = Result.ok false w := by intros; kernel_rfl
@[simp] theorem Tq.isAgg30 : ∀ (w : World), Sem.run Tq.prog (isAgg 30) w = Result.ok false w := by intros; kernel_rfl
@[simp] theorem Tq.isAgg31 : ∀ (w : World), Sem.run Tq.prog (isAgg 31) w = Result.ok false w := by intros; kernel_rfl
@[simp] theorem Tq.isAgg32 : ∀ (w : World), Sem.run Tq.prog (isAgg 32) w = Result.ok false w := by intros; kernel_rfl
@[simp] theorem Tq.isAgg33 : ∀ (w : World), Sem.run Tq.prog (isAgg 33) w = Result.ok false w := by intros; kernel_rfl
@[simp] theorem Tq.isAgg34 : ∀ (w : World), Sem.run Tq.prog (isAgg 34) w = Result.ok false w := by intros; kernel_rfl
@[simp] theorem Tq.isAgg35 : ∀ (w : World), Sem.run Tq.prog (isAgg 35) w = Result.ok false w := by intros; kernel_rfl
@[simp] theorem Tq.isAgg36 : ∀ (w : World), Sem.run Tq.prog (isAgg 36) w = Result.ok false w := by intros; kernel_rfl
@[simp] theorem Tq.isAgg37 : ∀ (w : World), Sem.run Tq.prog (isAgg 37) w = Result.ok false w := by intros; kernel_rfl
@[simp] theorem Tq.isAgg38 : ∀ (w : World), Sem.run Tq.prog (isAgg 38) w = Result.ok false w := by intros; kernel_rfl
@[simp] theorem Tq.isAgg39 : ∀ (w : World), Sem.run Tq.prog (isAgg 39) w = Result.ok false w := by intros; kernel_rfl
@[simp] theorem Tq.isAgg4 : ∀ (w : World), Sem.run Tq.prog (isAgg 4) w = Result.ok false w := by intros; kernel_rfl
@[simp] theorem Tq.isAgg40 : ∀ (w : World), Sem.run Tq.prog (isAgg 40) w = Result.ok false w := by intros; kernel_rfl
@[simp] theorem Tq.isAgg41 : ∀ (w : World), Sem.run Tq.prog (isAgg 41) w = Result.ok false w := by intros; kernel_rfl
@[simp] theorem Tq.isAgg42 : ∀ (w : World), Sem.run Tq.prog (isAgg 42) w = Result.ok false w := by intros; kernel_rfl
@[simp] theorem Tq.isAgg43 : ∀ (w : World), Sem.run Tq.prog (isAgg 43) w = Result.ok false w := by intros; kernel_rfl
@[simp] theorem Tq.isAgg44 : ∀ (w : World), Sem.run Tq.prog (isAgg 44) w = Result.ok false w := by intros; kernel_rfl
@[simp] theorem Tq.isAgg45 : ∀ (w : World), Sem.run Tq.prog (isAgg 45) w = Result.ok true w := by intros; kernel_rfl
@[simp] theorem Tq.isAgg46 : ∀ (w : World), Sem.run Tq.prog (isAgg 46) w = Result.ok true w := by intros; kernel_rfl
@[simp] theorem Tq.isAgg47 : ∀ (w : World), Sem.run Tq.prog (isAgg 47) w = Result.ok false w := by intros; kernel_rfl
@[simp] theorem Tq.isAgg48 : ∀ (w : World), Sem.run Tq.prog (isAgg 48) w = Result.ok false w := by intros; kernel_rfl
@[simp] theorem Tq.isAgg49 : ∀ (w : World), Sem.run Tq.prog (isAgg 49) w = Result.ok true w := by intros; kernel_rfl
@[simp] theorem Tq.isAgg5 : ∀ (w : World), Sem.run Tq.prog (isAgg 5) w = Result.ok false w := by intros; kernel_rfl
@[simp] theorem Tq.isAgg50 : ∀ (w : World), Sem.run Tq.prog (isAgg 50) w = Result.ok true w := by intros; kernel_rfl
@[simp] theorem Tq.isAgg51 : ∀ (w : World), Sem.run Tq.prog (isAgg 51) w = Result.ok true w := by intros; kernel_rfl
@[simp] theorem Tq.isAgg52 : ∀ (w : World), Sem.run Tq.prog (isAgg 52) w = Result.ok true w := by intros; kernel_rfl
@[simp] theorem Tq.isAgg53 : ∀ (w : World), Sem.run Tq.prog (isAgg 53) w = Result.ok true w := by intros; kernel_rfl
@[simp] theorem Tq.isAgg54 : ∀ (w : World), Sem.run Tq.prog (isAgg 54) w = Result.ok false w := by intros; kernel_rfl
@[simp] theorem Tq.isAgg55 : ∀ (w : World), Sem.run Tq.prog (isAgg 55) w = Result.ok false w := by intros; kernel_rfl
@[simp] theorem Tq.isAgg56 : ∀ (w : World), Sem.run Tq.prog (isAgg 56) w = Result.ok false w := by intros; kernel_rfl
@[simp] theorem Tq.isAgg57 : ∀ (w : World), Sem.run Tq.prog (isAgg 57) w = Result.ok false w := by intros; kernel_rfl
@[simp] theorem Tq.isAgg58 : ∀ (w : World), Sem.run Tq.prog (isAgg 58) w = Result.ok false w := by intros; kernel_rfl
@[simp] theorem Tq.isAgg59 : ∀ (w : World), Sem.run Tq.prog (isAgg 59) w = Result.ok false w := by intros; kernel_rfl
@[simp] theorem Tq.isAgg6 : ∀ (w : World), Sem.run Tq.prog (isAgg 6) w = Result.ok false w := by intros; kernel_rfl
@[simp] theorem Tq.isAgg60 : ∀ (w : World), Sem.run Tq.prog (isAgg 60) w = Result.ok true w := by intros; kernel_rfl
@[simp] theorem Tq.isAgg61 : ∀ (w : World), Sem.run Tq.prog (isAgg 61) w = Result.ok true w := by intros; kernel_rfl
@[simp] theorem Tq.isAgg62 : ∀ (w : World), Sem.run Tq.prog (isAgg 62) w = Result.ok true w := by intros; kernel_rfl
@[simp] theorem Tq.isAgg63 : ∀ (w : World), Sem.run Tq.prog (isAgg 63) w = Result.ok false w := by intros; kernel_rfl
@[simp] theorem Tq.isAgg64 : ∀ (w : World), Sem.run Tq.prog (isAgg 64) w = Result.ok true w := by intros; kernel_rfl
@[simp] theorem Tq.isAgg65 : ∀ (w : World), Sem.run Tq.prog (isAgg 65) w = Result.ok true w := by intros; kernel_rfl
@[simp] theorem Tq.isAgg66 : ∀ (w : World), Sem.run Tq.prog (isAgg 66) w = Result.ok false w := by intros; kernel_rfl
@[simp] theorem Tq.isAgg67 : ∀ (w : World), Sem.run Tq.prog (isAgg 67) w = Result.ok false w := by intros; kernel_rfl
@[simp] theorem Tq.isAgg68 : ∀ (w : World), Sem.run Tq.prog (isAgg 68) w = Result.ok false w := by intros; kernel_rfl
@[simp] theorem Tq.isAgg69 : ∀ (w : World), Sem.run Tq.prog (isAgg 69) w = Result.ok false w := by intros; kernel_rfl
@[simp] theorem Tq.isAgg7 : ∀ (w : World), Sem.run Tq.prog (isAgg 7) w = Result.ok true w := by intros; kernel_rfl
@[simp] theorem Tq.isAgg70 : ∀ (w : World), Sem.run Tq.prog (isAgg 70) w = Result.ok false w := by intros; kernel_rfl
@[simp] theorem Tq.isAgg71 : ∀ (w : World), Sem.run Tq.prog (isAgg 71) w = Result.ok false w := by intros; kernel_rfl
@[simp] theorem Tq.isAgg72 : ∀ (w : World), Sem.run Tq.prog (isAgg 72) w = Result.ok false w := by intros; kernel_rfl
@[simp] theorem Tq.isAgg73 : ∀ (w : World), Sem.run Tq.prog (isAgg 73) w = Result.ok false w := by intros; kernel_rfl
@[simp] theorem Tq.isAgg74 : ∀ (w : World), Sem.run Tq.prog (isAgg 74) w = Result.ok false w := by intros; kernel_rfl
@[simp] theorem Tq.isAgg75 : ∀ (w : World), Sem.run Tq.prog (isAgg 75) w = Result.ok false w := by intros; kernel_rfl
@[simp] theorem Tq.isAgg76 : ∀ (w : World), Sem.run Tq.prog (isAgg 76) w = Result.ok false w := by intros; kernel_rfl
@[simp] theorem Tq.isAgg77 : ∀ (w : World), Sem.run Tq.prog (isAgg 77) w = Result.ok false w := by intros; kernel_rfl
@[simp] theorem Tq.isAgg78 : ∀ (w : World), Sem.run Tq.prog (isAgg 78) w = Result.ok false w := by intros; kernel_rfl
@[simp] theorem Tq.isAgg79 : ∀ (w : World), Sem.run Tq.prog (isAgg 79) w = Result.ok false w := by intros; kernel_rfl
@[simp] theorem Tq.isAgg8 : ∀ (w : World), Sem.run Tq.prog (isAgg 8) w = Result.ok true w := by intros; kernel_rfl
@[simp] theorem Tq.isAgg80 : ∀ (w : World), Sem.run Tq.prog (isAgg 80) w = Result.ok false w := by intros; kernel_rfl
@[simp] theorem Tq.isAgg81 : ∀ (w : World), Sem.run Tq.prog (isAgg 81) w = Result.ok false w := by intros; kernel_rfl
@[simp] theorem Tq.isAgg82 : ∀ (w : World), Sem.run Tq.prog (isAgg 82) w = Result.ok false w := by intros; kernel_rfl
@[simp] theorem Tq.isAgg83 : ∀ (w : World), Sem.run Tq.prog (isAgg 83) w = Result.ok false w := by intros; kernel_rfl
@[simp] theorem Tq.isAgg84 : ∀ (w : World), Sem.run Tq.prog (isAgg 84) w = Result.ok false w := by intros; kernel_rfl
@[simp] theorem Tq.isAgg85 : ∀ (w : World), Sem.run Tq.prog (isAgg 85) w = Result.ok false w := by intros; kernel_rfl
@[simp] theorem Tq.isAgg86 : ∀ (w : World), Sem.run Tq.prog (isAgg 86) w = Result.ok false w := by intros; kernel_rfl
@[simp] theorem Tq.isAgg87 : ∀ (w : World), Sem.run Tq.prog (isAgg 87) w = Result.ok false w := by intros; kernel_rfl
@[simp] theorem Tq.isAgg88 : ∀ (w : World), Sem.run Tq.prog (isAgg 88) w = Result.ok false w := by intros; kernel_rfl
@[simp] theorem Tq.isAgg89 : ∀ (w : World), Sem.run Tq.prog (isAgg 89) w = Result.ok false w := by intros; kernel_rfl
@[simp] theorem Tq.isAgg9 : ∀ (w : World), Sem.run Tq.prog (isAgg 9) w = Result.ok false w := by intros; kernel_rfl
@[simp] theorem Tq.isAgg90 : ∀ (w : World), Sem.run Tq.prog (isAgg 90) w = Result.ok false w := by intros; kernel_rfl
@[simp] theorem Tq.isAgg91 : ∀ (w : World), Sem.run Tq.prog (isAgg 91) w = Result.ok false w := by intros; kernel_rfl
@[simp] theorem Tq.isAgg92 : ∀ (w : World), Sem.run Tq.prog (isAgg 92) w = Result.ok false w := by intros; kernel_rfl
@[simp] theorem Tq.isAgg93 : ∀ (w : World), Sem.run Tq.prog (isAgg 93) w = Result.ok false w := by intros; kernel_rfl
@[simp] theorem Tq.isAgg94 : ∀ (w : World), Sem.run Tq.prog (isAgg 94) w = Result.ok false w := by intros; kernel_rfl
@[simp] theorem Tq.isAgg95 : ∀ (w : World), Sem.run Tq.prog (isAgg 95) w = Result.ok false w := by intros; kernel_rfl
@[simp] theorem Tq.isAgg96 : ∀ (w : World), Sem.run Tq.prog (isAgg 96) w = Result.ok false w := by intros; kernel_rfl
@[simp] theorem Tq.isAgg97 : ∀ (w : World), Sem.run Tq.prog (isAgg 97) w = Result.ok false w := by intros; kernel_rfl
@[simp] theorem Tq.isAgg98 : ∀ (w : World), Sem.run Tq.prog (isAgg 98) w = Result.ok true w := by intros; kernel_rfl
@[simp] theorem Tq.isAgg99 : ∀ (w : World), Sem.run Tq.prog (isAgg 99) w = Result.ok true w := by intros; kernel_rfl
@[simp] theorem Tq.main_eq : Tq.prog.main = 0 := by kernel_rfl
@[simp] theorem Tq.rt_eq : Tq.prog.rt =   { boundsError := 8, errorString := 10, plainError := 11, errorAddressString := 14, typeAssertionError := 15,     panicNilError := 16, unhashableTypeError := 19, string := 9, any := 20, int := 3, bool := 4, rune := 21, byte := 5 } := by kernel_rfl
@[simp] theorem Tq.runUnderlying0 : ∀ (w : World), Sem.run Tq.prog (underlying 0) w = Result.ok (TypeDesc.tuple #[]) w := by intros; kernel_rfl
@[simp] theorem Tq.runUnderlying1 : ∀ (w : World), Sem.run Tq.prog (underlying 1) w = Result.ok (TypeDesc.func #[] #[] false) w := by intros; kernel_rfl
@[simp] theorem Tq.runUnderlying10 : ∀ (w : World), Sem.run Tq.prog (underlying 10) w = Result.ok TypeDesc.string w := by intros; kernel_rfl
@[simp] theorem Tq.runUnderlying100 : ∀ (w : World), Sem.run Tq.prog (underlying 100) w = Result.ok (TypeDesc.array 0 16) w := by intros; kernel_rfl
@[simp] theorem Tq.runUnderlying101 : ∀ (w : World),   Sem.run Tq.prog (underlying 101) w =     Result.ok       (TypeDesc.struct         #[{ name := "_", type := 100, offset := 0, embedded := false, tag := "", pkgPath := "runtime",             byteOffset := 0 }])       w := by intros; kernel_rfl
@[simp] theorem Tq.runUnderlying102 : ∀ (w : World),   Sem.run Tq.prog (underlying 102) w =     Result.ok       (TypeDesc.struct         #[{ name := "_", type := 100, offset := 0, embedded := false, tag := "", pkgPath := "runtime",             byteOffset := 0 }])       w := by intros; kernel_rfl
@[simp] theorem Tq.runUnderlying103 : ∀ (w : World), Sem.run Tq.prog (underlying 103) w = Result.ok (TypeDesc.func #[] #[3] false) w := by intros; kernel_rfl
@[simp] theorem Tq.runUnderlying104 : ∀ (w : World), Sem.run Tq.prog (underlying 104) w = Result.ok (TypeDesc.int IntKind.u8) w := by intros; kernel_rfl
@[simp] theorem Tq.runUnderlying105 : ∀ (w : World), Sem.run Tq.prog (underlying 105) w = Result.ok (TypeDesc.int IntKind.u8) w := by intros; kernel_rfl
@[simp] theorem Tq.runUnderlying106 : ∀ (w : World), Sem.run Tq.prog (underlying 106) w = Result.ok (TypeDesc.func #[76, 76] #[4] false) w := by intros; kernel_rfl
@[simp] theorem Tq.runUnderlying107 : ∀ (w : World), Sem.run Tq.prog (underlying 107) w = Result.ok (TypeDesc.pointer 5) w := by intros; kernel_rfl
@[simp] theorem Tq.runUnderlying108 : ∀ (w : World), Sem.run Tq.prog (underlying 108) w = Result.ok (TypeDesc.int IntKind.i32) w := by intros; kernel_rfl
@[simp] theorem Tq.runUnderlying109 : ∀ (w : World), Sem.run Tq.prog (underlying 109) w = Result.ok (TypeDesc.int IntKind.i32) w := by intros; kernel_rfl
@[simp] theorem Tq.runUnderlying11 : ∀ (w : World), Sem.run Tq.prog (underlying 11) w = Result.ok TypeDesc.string w := by intros; kernel_rfl
@[simp] theorem Tq.runUnderlying110 : ∀ (w : World),   Sem.run Tq.prog (underlying 110) w =     Result.ok       (TypeDesc.struct         #[{ name := "Size_", type := 12, offset := 0, embedded := false, tag := "", pkgPath := "", byteOffset := 0 },           { name := "PtrBytes", type := 12, offset := 1, embedded := false, tag := "", pkgPath := "", byteOffset := 8 },           { name := "Hash", type := 63, offset := 2, embedded := false, tag := "", pkgPath := "", byteOffset := 16 },           { name := "TFlag", type := 104, offset := 3, embedded := false, tag := "", pkgPath := "", byteOffset := 20 },           { name := "Align_", type := 5, offset := 4, embedded := false, tag := "", pkgPath := "", byteOffset := 21 },           { name := "FieldAlign_", type := 5, offset := 5, embedded := false, tag := "", pkgPath := "",             byteOffset := 22 },           { name := "Kind_", type := 105, offset := 6, embedded := false, tag := "", pkgPath := "", byteOffset := 23 },           { name := "Equal", type := 106, offset := 7, embedded := false, tag := "", pkgPath := "", byteOffset := 24 },           { name := "GCData", type := 107, offset := 8, embedded := false, tag := "", pkgPath := "", byteOffset := 32 },           { name := "Str", type := 108, offset := 9, embedded := false, tag := "", pkgPath := "", byteOffset := 40 },           { name := "PtrToThis", type := 109, offset := 10, embedded := false, tag := "", pkgPath := "",             byteOffset := 44 }])       w := by intros; kernel_rfl
@[simp] theorem Tq.runUnderlying111 : ∀ (w : World),   Sem.run Tq.prog (underlying 111) w =     Result.ok       (TypeDesc.struct         #[{ name := "Size_", type := 12, offset := 0, embedded := false, tag := "", pkgPath := "", byteOffset := 0 },           { name := "PtrBytes", type := 12, offset := 1, embedded := false, tag := "", pkgPath := "", byteOffset := 8 },           { name := "Hash", type := 63, offset := 2, embedded := false, tag := "", pkgPath := "", byteOffset := 16 },           { name := "TFlag", type := 104, offset := 3, embedded := false, tag := "", pkgPath := "", byteOffset := 20 },           { name := "Align_", type := 5, offset := 4, embedded := false, tag := "", pkgPath := "", byteOffset := 21 },           { name := "FieldAlign_", type := 5, offset := 5, embedded := false, tag := "", pkgPath := "",             byteOffset := 22 },           { name := "Kind_", type := 105, offset := 6, embedded := false, tag := "", pkgPath := "", byteOffset := 23 },           { name := "Equal", type := 106, offset := 7, embedded := false, tag := "", pkgPath := "", byteOffset := 24 },           { name := "GCData", type := 107, offset := 8, embedded := false, tag := "", pkgPath := "", byteOffset := 32 },           { name := "Str", type := 108, offset := 9, embedded := false, tag := "", pkgPath := "", byteOffset := 40 },           { name := "PtrToThis", type := 109, offset := 10, embedded := false, tag := "", pkgPath := "",             byteOffset := 44 }])       w := by intros; kernel_rfl
@[simp] theorem Tq.runUnderlying12 : ∀ (w : World), Sem.run Tq.prog (underlying 12) w = Result.ok (TypeDesc.int IntKind.u64) w := by intros; kernel_rfl
@[simp] theorem Tq.runUnderlying13 : ∀ (w : World),   Sem.run Tq.prog (underlying 13) w =     Result.ok       (TypeDesc.struct         #[{ name := "msg", type := 9, offset := 0, embedded := false, tag := "", pkgPath := "runtime",             byteOffset := 0 },           { name := "addr", type := 12, offset := 1, embedded := false, tag := "", pkgPath := "runtime",             byteOffset := 16 }])       w := by intros; kernel_rfl
@[simp] theorem Tq.runUnderlying14 : ∀ (w : World),   Sem.run Tq.prog (underlying 14) w =     Result.ok       (TypeDesc.struct         #[{ name := "msg", type := 9, offset := 0, embedded := false, tag := "", pkgPath := "runtime",             byteOffset := 0 },           { name := "addr", type := 12, offset := 1, embedded := false, tag := "", pkgPath := "runtime",             byteOffset := 16 }])       w := by intros; kernel_rfl
@[simp] theorem Tq.runUnderlying15 : ∀ (w : World), Sem.run Tq.prog (underlying 15) w = Result.ok (TypeDesc.pointer 99) w := by intros; kernel_rfl
@[simp] theorem Tq.runUnderlying16 : ∀ (w : World), Sem.run Tq.prog (underlying 16) w = Result.ok (TypeDesc.pointer 102) w := by intros; kernel_rfl
@[simp] theorem Tq.runUnderlying17 : ∀ (w : World), Sem.run Tq.prog (underlying 17) w = Result.ok (TypeDesc.pointer 111) w := by intros; kernel_rfl
@[simp] theorem Tq.runUnderlying18 : ∀ (w : World),   Sem.run Tq.prog (underlying 18) w =     Result.ok       (TypeDesc.struct         #[{ name := "typ", type := 17, offset := 0, embedded := false, tag := "", pkgPath := "internal/runtime/maps",             byteOffset := 0 }])       w := by intros; kernel_rfl
@[simp] theorem Tq.runUnderlying19 : ∀ (w : World),   Sem.run Tq.prog (underlying 19) w =     Result.ok       (TypeDesc.struct         #[{ name := "typ", type := 17, offset := 0, embedded := false, tag := "", pkgPath := "internal/runtime/maps",             byteOffset := 0 }])       w := by intros; kernel_rfl
@[simp] theorem Tq.runUnderlying2 : ∀ (w : World), Sem.run Tq.prog (underlying 2) w = Result.ok (TypeDesc.int IntKind.i64) w := by intros; kernel_rfl
@[simp] theorem Tq.runUnderlying20 : ∀ (w : World), Sem.run Tq.prog (underlying 20) w = Result.ok (TypeDesc.interface #[]) w := by intros; kernel_rfl
@[simp] theorem Tq.runUnderlying21 : ∀ (w : World), Sem.run Tq.prog (underlying 21) w = Result.ok (TypeDesc.int IntKind.i32) w := by intros; kernel_rfl
@[simp] theorem Tq.runUnderlying22 : ∀ (w : World),   Sem.run Tq.prog (underlying 22) w =     Result.ok       (TypeDesc.struct         #[{ name := "Bits", type := 3, offset := 0, embedded := false, tag := "", pkgPath := "", byteOffset := 0 },           { name := "Word", type := 3, offset := 1, embedded := false, tag := "", pkgPath := "", byteOffset := 8 }])       w := by intros; kernel_rfl
@[simp] theorem Tq.runUnderlying23 : ∀ (w : World),   Sem.run Tq.prog (underlying 23) w =     Result.ok       (TypeDesc.struct         #[{ name := "Bits", type := 3, offset := 0, embedded := false, tag := "", pkgPath := "", byteOffset := 0 },           { name := "Word", type := 3, offset := 1, embedded := false, tag := "", pkgPath := "", byteOffset := 8 }])       w := by intros; kernel_rfl
@[simp] theorem Tq.runUnderlying24 : ∀ (w : World), Sem.run Tq.prog (underlying 24) w = Result.ok (TypeDesc.slice 3) w := by intros; kernel_rfl
@[simp] theorem Tq.runUnderlying25 : ∀ (w : World), Sem.run Tq.prog (underlying 25) w = Result.ok (TypeDesc.func #[26] #[24] false) w := by intros; kernel_rfl
@[simp] theorem Tq.runUnderlying26 : ∀ (w : World),   Sem.run Tq.prog (underlying 26) w =     Result.ok       (TypeDesc.struct         #[{ name := "Bits", type := 3, offset := 0, embedded := false, tag := "", pkgPath := "", byteOffset := 0 },           { name := "Word", type := 3, offset := 1, embedded := false, tag := "", pkgPath := "", byteOffset := 8 }])       w := by intros; kernel_rfl
@[simp] theorem Tq.runUnderlying27 : ∀ (w : World), Sem.run Tq.prog (underlying 27) w = Result.ok (TypeDesc.func #[23] #[26] false) w := by intros; kernel_rfl
@[simp] theorem Tq.runUnderlying28 : ∀ (w : World), Sem.run Tq.prog (underlying 28) w = Result.ok (TypeDesc.func #[24, 24] #[4] false) w := by intros; kernel_rfl
@[simp] theorem Tq.runUnderlying29 : ∀ (w : World), Sem.run Tq.prog (underlying 29) w = Result.ok (TypeDesc.func #[24, 3] #[3] false) w := by intros; kernel_rfl
@[simp] theorem Tq.runUnderlying3 : ∀ (w : World), Sem.run Tq.prog (underlying 3) w = Result.ok (TypeDesc.int IntKind.i64) w := by intros; kernel_rfl
@[simp] theorem Tq.runUnderlying30 : ∀ (w : World), Sem.run Tq.prog (underlying 30) w = Result.ok (TypeDesc.func #[23] #[4] false) w := by intros; kernel_rfl
@[simp] theorem Tq.runUnderlying31 : ∀ (w : World), Sem.run Tq.prog (underlying 31) w = Result.ok (TypeDesc.func #[26] #[3] false) w := by intros; kernel_rfl
@[simp] theorem Tq.runUnderlying32 : ∀ (w : World), Sem.run Tq.prog (underlying 32) w = Result.ok (TypeDesc.func #[26] #[4] false) w := by intros; kernel_rfl
@[simp] theorem Tq.runUnderlying33 : ∀ (w : World), Sem.run Tq.prog (underlying 33) w = Result.ok (TypeDesc.tuple #[26, 4]) w := by intros; kernel_rfl
@[simp] theorem Tq.runUnderlying34 : ∀ (w : World), Sem.run Tq.prog (underlying 34) w = Result.ok (TypeDesc.func #[26] #[26, 4] false) w := by intros; kernel_rfl
@[simp] theorem Tq.runUnderlying35 : ∀ (w : World), Sem.run Tq.prog (underlying 35) w = Result.ok (TypeDesc.func #[26, 26] #[4] false) w := by intros; kernel_rfl
@[simp] theorem Tq.runUnderlying36 : ∀ (w : World), Sem.run Tq.prog (underlying 36) w = Result.ok (TypeDesc.tuple #[24, 4]) w := by intros; kernel_rfl
@[simp] theorem Tq.runUnderlying37 : ∀ (w : World), Sem.run Tq.prog (underlying 37) w = Result.ok (TypeDesc.func #[26] #[24, 4] false) w := by intros; kernel_rfl
@[simp] theorem Tq.runUnderlying38 : ∀ (w : World), Sem.run Tq.prog (underlying 38) w = Result.ok (TypeDesc.func #[3] #[3] false) w := by intros; kernel_rfl
@[simp] theorem Tq.runUnderlying39 : ∀ (w : World), Sem.run Tq.prog (underlying 39) w = Result.ok (TypeDesc.int IntKind.u64) w := by intros; kernel_rfl
@[simp] theorem Tq.runUnderlying4 : ∀ (w : World), Sem.run Tq.prog (underlying 4) w = Result.ok TypeDesc.bool w := by intros; kernel_rfl
@[simp] theorem Tq.runUnderlying40 : ∀ (w : World), Sem.run Tq.prog (underlying 40) w = Result.ok (TypeDesc.int IntKind.u64) w := by intros; kernel_rfl
@[simp] theorem Tq.runUnderlying41 : ∀ (w : World), Sem.run Tq.prog (underlying 41) w = Result.ok (TypeDesc.func #[3, 42] #[24] false) w := by intros; kernel_rfl
@[simp] theorem Tq.runUnderlying42 : ∀ (w : World), Sem.run Tq.prog (underlying 42) w = Result.ok (TypeDesc.func #[3, 3] #[3] false) w := by intros; kernel_rfl
@[simp] theorem Tq.runUnderlying43 : ∀ (w : World), Sem.run Tq.prog (underlying 43) w = Result.ok (TypeDesc.func #[3, 24] #[26] false) w := by intros; kernel_rfl
@[simp] theorem Tq.runUnderlying44 : ∀ (w : World), Sem.run Tq.prog (underlying 44) w = Result.ok (TypeDesc.slice 53) w := by intros; kernel_rfl
@[simp] theorem Tq.runUnderlying45 : ∀ (w : World),   Sem.run Tq.prog (underlying 45) w =     Result.ok       (TypeDesc.struct         #[{ name := "values", type := 40, offset := 0, embedded := false, tag := "",             pkgPath := "loop.example/g03403/impl", byteOffset := 0 },           { name := "pairs", type := 44, offset := 1, embedded := false, tag := "",             pkgPath := "loop.example/g03403/impl", byteOffset := 8 }])       w := by intros; kernel_rfl
@[simp] theorem Tq.runUnderlying46 : ∀ (w : World),   Sem.run Tq.prog (underlying 46) w =     Result.ok       (TypeDesc.struct         #[{ name := "values", type := 40, offset := 0, embedded := false, tag := "",             pkgPath := "loop.example/g03403/impl", byteOffset := 0 },           { name := "pairs", type := 44, offset := 1, embedded := false, tag := "",             pkgPath := "loop.example/g03403/impl", byteOffset := 8 }])       w := by intros; kernel_rfl
@[simp] theorem Tq.runUnderlying47 : ∀ (w : World), Sem.run Tq.prog (underlying 47) w = Result.ok (TypeDesc.func #[3, 48] #[] false) w := by intros; kernel_rfl
@[simp] theorem Tq.runUnderlying48 : ∀ (w : World), Sem.run Tq.prog (underlying 48) w = Result.ok (TypeDesc.func #[3] #[] false) w := by intros; kernel_rfl
@[simp] theorem Tq.runUnderlying49 : ∀ (w : World), Sem.run Tq.prog (underlying 49) w = Result.ok (TypeDesc.struct #[]) w := by intros; kernel_rfl
@[simp] theorem Tq.runUnderlying5 : ∀ (w : World), Sem.run Tq.prog (underlying 5) w = Result.ok (TypeDesc.int IntKind.u8) w := by intros; kernel_rfl
@[simp] theorem Tq.runUnderlying50 : ∀ (w : World), Sem.run Tq.prog (underlying 50) w = Result.ok (TypeDesc.struct #[]) w := by intros; kernel_rfl
@[simp] theorem Tq.runUnderlying51 : ∀ (w : World), Sem.run Tq.prog (underlying 51) w = Result.ok (TypeDesc.struct #[]) w := by intros; kernel_rfl
@[simp] theorem Tq.runUnderlying52 : ∀ (w : World),   Sem.run Tq.prog (underlying 52) w =     Result.ok       (TypeDesc.struct         #[{ name := "_", type := 50, offset := 0, embedded := false, tag := "", pkgPath := "sync/atomic",             byteOffset := 0 },           { name := "_", type := 51, offset := 0, embedded := false, tag := "", pkgPath := "sync/atomic",             byteOffset := 0 },           { name := "v", type := 2, offset := 0, embedded := false, tag := "", pkgPath := "sync/atomic",             byteOffset := 0 }])       w := by intros; kernel_rfl
@[simp] theorem Tq.runUnderlying53 : ∀ (w : World),   Sem.run Tq.prog (underlying 53) w =     Result.ok       (TypeDesc.struct         #[{ name := "_", type := 50, offset := 0, embedded := false, tag := "", pkgPath := "sync/atomic",             byteOffset := 0 },           { name := "_", type := 51, offset := 0, embedded := false, tag := "", pkgPath := "sync/atomic",             byteOffset := 0 },           { name := "v", type := 2, offset := 0, embedded := false, tag := "", pkgPath := "sync/atomic",             byteOffset := 0 }])       w := by intros; kernel_rfl
@[simp] theorem Tq.runUnderlying54 : ∀ (w : World), Sem.run Tq.prog (underlying 54) w = Result.ok (TypeDesc.func #[] #[2] false) w := by intros; kernel_rfl
@[simp] theorem Tq.runUnderlying55 : ∀ (w : World), Sem.run Tq.prog (underlying 55) w = Result.ok (TypeDesc.func #[3, 3, 3] #[4] false) w := by intros; kernel_rfl
@[simp] theorem Tq.runUnderlying56 : ∀ (w : World), Sem.run Tq.prog (underlying 56) w = Result.ok (TypeDesc.int IntKind.u64) w := by intros; kernel_rfl
@[simp] theorem Tq.runUnderlying57 : ∀ (w : World), Sem.run Tq.prog (underlying 57) w = Result.ok (TypeDesc.func #[3] #[4] false) w := by intros; kernel_rfl
@[simp] theorem Tq.runUnderlying58 : ∀ (w : World), Sem.run Tq.prog (underlying 58) w = Result.ok (TypeDesc.func #[3, 38] #[26] false) w := by intros; kernel_rfl
@[simp] theorem Tq.runUnderlying59 : ∀ (w : World), Sem.run Tq.prog (underlying 59) w = Result.ok (TypeDesc.func #[56] #[3] false) w := by intros; kernel_rfl
@[simp] theorem Tq.runUnderlying6 : ∀ (w : World), Sem.run Tq.prog (underlying 6) w = Result.ok (TypeDesc.int IntKind.u8) w := by intros; kernel_rfl
@[simp] theorem Tq.runUnderlying60 : ∀ (w : World), Sem.run Tq.prog (underlying 60) w = Result.ok (TypeDesc.struct #[]) w := by intros; kernel_rfl
@[simp] theorem Tq.runUnderlying61 : ∀ (w : World),   Sem.run Tq.prog (underlying 61) w =     Result.ok       (TypeDesc.struct         #[{ name := "_", type := 50, offset := 0, embedded := false, tag := "", pkgPath := "sync/atomic",             byteOffset := 0 },           { name := "_", type := 51, offset := 0, embedded := false, tag := "", pkgPath := "sync/atomic",             byteOffset := 0 },           { name := "v", type := 39, offset := 0, embedded := false, tag := "", pkgPath := "sync/atomic",             byteOffset := 0 }])       w := by intros; kernel_rfl
@[simp] theorem Tq.runUnderlying62 : ∀ (w : World),   Sem.run Tq.prog (underlying 62) w =     Result.ok       (TypeDesc.struct         #[{ name := "_", type := 50, offset := 0, embedded := false, tag := "", pkgPath := "sync/atomic",             byteOffset := 0 },           { name := "_", type := 51, offset := 0, embedded := false, tag := "", pkgPath := "sync/atomic",             byteOffset := 0 },           { name := "v", type := 39, offset := 0, embedded := false, tag := "", pkgPath := "sync/atomic",             byteOffset := 0 }])       w := by intros; kernel_rfl
@[simp] theorem Tq.runUnderlying63 : ∀ (w : World), Sem.run Tq.prog (underlying 63) w = Result.ok (TypeDesc.int IntKind.u32) w := by intros; kernel_rfl
@[simp] theorem Tq.runUnderlying64 : ∀ (w : World),   Sem.run Tq.prog (underlying 64) w =     Result.ok       (TypeDesc.struct         #[{ name := "noCopy", type := 60, offset := 0, embedded := false, tag := "", pkgPath := "sync",             byteOffset := 0 },           { name := "state", type := 62, offset := 0, embedded := false, tag := "", pkgPath := "sync",             byteOffset := 0 },           { name := "sema", type := 63, offset := 1, embedded := false, tag := "", pkgPath := "sync",             byteOffset := 8 }])       w := by intros; kernel_rfl
@[simp] theorem Tq.runUnderlying65 : ∀ (w : World),   Sem.run Tq.prog (underlying 65) w =     Result.ok       (TypeDesc.struct         #[{ name := "noCopy", type := 60, offset := 0, embedded := false, tag := "", pkgPath := "sync",             byteOffset := 0 },           { name := "state", type := 62, offset := 0, embedded := false, tag := "", pkgPath := "sync",             byteOffset := 0 },           { name := "sema", type := 63, offset := 1, embedded := false, tag := "", pkgPath := "sync",             byteOffset := 8 }])       w := by intros; kernel_rfl
@[simp] theorem Tq.runUnderlying66 : ∀ (w : World), Sem.run Tq.prog (underlying 66) w = Result.ok (TypeDesc.func #[2] #[2] false) w := by intros; kernel_rfl
@[simp] theorem Tq.runUnderlying67 : ∀ (w : World), Sem.run Tq.prog (underlying 67) w = Result.ok (TypeDesc.pointer 53) w := by intros; kernel_rfl
@[simp] theorem Tq.runUnderlying68 : ∀ (w : World), Sem.run Tq.prog (underlying 68) w = Result.ok (TypeDesc.func #[69] #[2] false) w := by intros; kernel_rfl
@[simp] theorem Tq.runUnderlying69 : ∀ (w : World), Sem.run Tq.prog (underlying 69) w = Result.ok (TypeDesc.pointer 2) w := by intros; kernel_rfl
@[simp] theorem Tq.runUnderlying7 : ∀ (w : World),   Sem.run Tq.prog (underlying 7) w =     Result.ok       (TypeDesc.struct         #[{ name := "x", type := 2, offset := 0, embedded := false, tag := "", pkgPath := "runtime", byteOffset := 0 },           { name := "y", type := 3, offset := 1, embedded := false, tag := "", pkgPath := "runtime", byteOffset := 8 },           { name := "signed", type := 4, offset := 2, embedded := false, tag := "", pkgPath := "runtime",             byteOffset := 16 },           { name := "code", type := 6, offset := 3, embedded := false, tag := "", pkgPath := "runtime",             byteOffset := 17 }])       w := by intros; kernel_rfl
@[simp] theorem Tq.runUnderlying70 : ∀ (w : World), Sem.run Tq.prog (underlying 70) w = Result.ok (TypeDesc.func #[3] #[40] false) w := by intros; kernel_rfl
@[simp] theorem Tq.runUnderlying71 : ∀ (w : World), Sem.run Tq.prog (underlying 71) w = Result.ok (TypeDesc.func #[3] #[26] false) w := by intros; kernel_rfl
@[simp] theorem Tq.runUnderlying72 : ∀ (w : World), Sem.run Tq.prog (underlying 72) w = Result.ok (TypeDesc.func #[63] #[3] false) w := by intros; kernel_rfl
@[simp] theorem Tq.runUnderlying73 : ∀ (w : World), Sem.run Tq.prog (underlying 73) w = Result.ok (TypeDesc.func #[39] #[3] false) w := by intros; kernel_rfl
@[simp] theorem Tq.runUnderlying74 : ∀ (w : World), Sem.run Tq.prog (underlying 74) w = Result.ok (TypeDesc.pointer 65) w := by intros; kernel_rfl
@[simp] theorem Tq.runUnderlying75 : ∀ (w : World), Sem.run Tq.prog (underlying 75) w = Result.ok (TypeDesc.func #[76] #[] false) w := by intros; kernel_rfl
@[simp] theorem Tq.runUnderlying76 : ∀ (w : World), Sem.run Tq.prog (underlying 76) w = Result.ok TypeDesc.unsafePointer w := by intros; kernel_rfl
@[simp] theorem Tq.runUnderlying77 : ∀ (w : World), Sem.run Tq.prog (underlying 77) w = Result.ok (TypeDesc.func #[] #[4] false) w := by intros; kernel_rfl
@[simp] theorem Tq.runUnderlying78 : ∀ (w : World), Sem.run Tq.prog (underlying 78) w = Result.ok (TypeDesc.int IntKind.i64) w := by intros; kernel_rfl
@[simp] theorem Tq.runUnderlying79 : ∀ (w : World), Sem.run Tq.prog (underlying 79) w = Result.ok (TypeDesc.func #[74] #[78] false) w := by intros; kernel_rfl
@[simp] theorem Tq.runUnderlying8 : ∀ (w : World),   Sem.run Tq.prog (underlying 8) w =     Result.ok       (TypeDesc.struct         #[{ name := "x", type := 2, offset := 0, embedded := false, tag := "", pkgPath := "runtime", byteOffset := 0 },           { name := "y", type := 3, offset := 1, embedded := false, tag := "", pkgPath := "runtime", byteOffset := 8 },           { name := "signed", type := 4, offset := 2, embedded := false, tag := "", pkgPath := "runtime",             byteOffset := 16 },           { name := "code", type := 6, offset := 3, embedded := false, tag := "", pkgPath := "runtime",             byteOffset := 17 }])       w := by intros; kernel_rfl
@[simp] theorem Tq.runUnderlying80 : ∀ (w : World), Sem.run Tq.prog (underlying 80) w = Result.ok (TypeDesc.func #[9] #[] false) w := by intros; kernel_rfl
@[simp] theorem Tq.runUnderlying81 : ∀ (w : World), Sem.run Tq.prog (underlying 81) w = Result.ok (TypeDesc.func #[39] #[39] false) w := by intros; kernel_rfl
@[simp] theorem Tq.runUnderlying82 : ∀ (w : World), Sem.run Tq.prog (underlying 82) w = Result.ok (TypeDesc.pointer 63) w := by intros; kernel_rfl
@[simp] theorem Tq.runUnderlying83 : ∀ (w : World), Sem.run Tq.prog (underlying 83) w = Result.ok (TypeDesc.func #[] #[39] false) w := by intros; kernel_rfl
@[simp] theorem Tq.runUnderlying84 : ∀ (w : World), Sem.run Tq.prog (underlying 84) w = Result.ok (TypeDesc.func #[39] #[] false) w := by intros; kernel_rfl
@[simp] theorem Tq.runUnderlying85 : ∀ (w : World), Sem.run Tq.prog (underlying 85) w = Result.ok (TypeDesc.func #[74] #[] false) w := by intros; kernel_rfl
@[simp] theorem Tq.runUnderlying86 : ∀ (w : World), Sem.run Tq.prog (underlying 86) w = Result.ok (TypeDesc.func #[82, 4, 3] #[] false) w := by intros; kernel_rfl
@[simp] theorem Tq.runUnderlying87 : ∀ (w : World), Sem.run Tq.prog (underlying 87) w = Result.ok (TypeDesc.func #[74] #[4] false) w := by intros; kernel_rfl
@[simp] theorem Tq.runUnderlying88 : ∀ (w : World), Sem.run Tq.prog (underlying 88) w = Result.ok (TypeDesc.func #[39, 39] #[4] false) w := by intros; kernel_rfl
@[simp] theorem Tq.runUnderlying89 : ∀ (w : World), Sem.run Tq.prog (underlying 89) w = Result.ok (TypeDesc.func #[82, 4] #[] false) w := by intros; kernel_rfl
@[simp] theorem Tq.runUnderlying9 : ∀ (w : World), Sem.run Tq.prog (underlying 9) w = Result.ok TypeDesc.string w := by intros; kernel_rfl
@[simp] theorem Tq.runUnderlying90 : ∀ (w : World), Sem.run Tq.prog (underlying 90) w = Result.ok (TypeDesc.func #[69, 2] #[2] false) w := by intros; kernel_rfl
@[simp] theorem Tq.runUnderlying91 : ∀ (w : World), Sem.run Tq.prog (underlying 91) w = Result.ok (TypeDesc.pointer 62) w := by intros; kernel_rfl
@[simp] theorem Tq.runUnderlying92 : ∀ (w : World), Sem.run Tq.prog (underlying 92) w = Result.ok (TypeDesc.func #[93, 39] #[39] false) w := by intros; kernel_rfl
@[simp] theorem Tq.runUnderlying93 : ∀ (w : World), Sem.run Tq.prog (underlying 93) w = Result.ok (TypeDesc.pointer 39) w := by intros; kernel_rfl
@[simp] theorem Tq.runUnderlying94 : ∀ (w : World), Sem.run Tq.prog (underlying 94) w = Result.ok (TypeDesc.func #[93] #[39] false) w := by intros; kernel_rfl
@[simp] theorem Tq.runUnderlying95 : ∀ (w : World), Sem.run Tq.prog (underlying 95) w = Result.ok (TypeDesc.func #[93, 39] #[] false) w := by intros; kernel_rfl
@[simp] theorem Tq.runUnderlying96 : ∀ (w : World), Sem.run Tq.prog (underlying 96) w = Result.ok (TypeDesc.func #[93, 39, 39] #[4] false) w := by intros; kernel_rfl
@[simp] theorem Tq.runUnderlying97 : ∀ (w : World), Sem.run Tq.prog (underlying 97) w = Result.ok (TypeDesc.func #[] #[9] false) w := by intros; kernel_rfl
@[simp] theorem Tq.runUnderlying98 : ∀ (w : World),   Sem.run Tq.prog (underlying 98) w =     Result.ok       (TypeDesc.struct         #[{ name := "_interface", type := 17, offset := 0, embedded := false, tag := "", pkgPath := "runtime",             byteOffset := 0 },           { name := "concrete", type := 17, offset := 1, embedded := false, tag := "", pkgPath := "runtime",             byteOffset := 8 },           { name := "asserted", type := 17, offset := 2, embedded := false, tag := "", pkgPath := "runtime",             byteOffset := 16 },           { name := "missingMethod", type := 9, offset := 3, embedded := false, tag := "", pkgPath := "runtime",             byteOffset := 24 }])       w := by intros; kernel_rfl
@[simp] theorem Tq.runUnderlying99 : ∀ (w : World),   Sem.run Tq.prog (underlying 99) w =     Result.ok       (TypeDesc.struct         #[{ name := "_interface", type := 17, offset := 0, embedded := false, tag := "", pkgPath := "runtime",             byteOffset := 0 },           { name := "concrete", type := 17, offset := 1, embedded := false, tag := "", pkgPath := "runtime",             byteOffset := 8 },           { name := "asserted", type := 17, offset := 2, embedded := false, tag := "", pkgPath := "runtime",             byteOffset := 16 },           { name := "missingMethod", type := 9, offset := 3, embedded := false, tag := "", pkgPath := "runtime",             byteOffset := 24 }])       w := by intros; kernel_rfl
@[simp] theorem Tq.sizeOf0 : ∀ (w : World), Sem.run Tq.prog (Go.sizeOf 0) w = Result.ok 1 w := by intros; kernel_rfl
@[simp] theorem Tq.sizeOf1 : ∀ (w : World), Sem.run Tq.prog (Go.sizeOf 1) w = Result.ok 1 w := by intros; kernel_rfl
@[simp] theorem Tq.sizeOf10 : ∀ (w : World), Sem.run Tq.prog (Go.sizeOf 10) w = Result.ok 1 w := by intros; kernel_rfl
@[simp] theorem Tq.sizeOf100 : ∀ (w : World), Sem.run Tq.prog (Go.sizeOf 100) w = Result.ok 0 w := by intros; kernel_rfl
@[simp] theorem Tq.sizeOf101 : ∀ (w : World), Sem.run Tq.prog (Go.sizeOf 101) w = Result.ok 0 w := by intros; kernel_rfl
@[simp] theorem Tq.sizeOf102 : ∀ (w : World), Sem.run Tq.prog (Go.sizeOf 102) w = Result.ok 0 w := by intros; kernel_rfl
@[simp] theorem Tq.sizeOf103 : ∀ (w : World), Sem.run Tq.prog (Go.sizeOf 103) w = Result.ok 1 w := by intros; kernel_rfl
@[simp] theorem Tq.sizeOf104 : ∀ (w : World), Sem.run Tq.prog (Go.sizeOf 104) w = Result.ok 1 w := by intros; kernel_rfl
@[simp] theorem Tq.sizeOf105 : ∀ (w : World), Sem.run Tq.prog (Go.sizeOf 105) w = Result.ok 1 w := by intros; kernel_rfl
@[simp] theorem Tq.sizeOf106 : ∀ (w : World), Sem.run Tq.prog (Go.sizeOf 106) w = Result.ok 1 w := by intros; kernel_rfl
@[simp] theorem Tq.sizeOf107 : ∀ (w : World), Sem.run Tq.prog (Go.sizeOf 107) w = Result.ok 1 w := by intros; kernel_rfl
@[simp] theorem Tq.sizeOf108 : ∀ (w : World), Sem.run Tq.prog (Go.sizeOf 108) w = Result.ok 1 w := by intros; kernel_rfl
@[simp] theorem Tq.sizeOf109 : ∀ (w : World), Sem.run Tq.prog (Go.sizeOf 109) w = Result.ok 1 w := by intros; kernel_rfl
@[simp] theorem Tq.sizeOf11 : ∀ (w : World), Sem.run Tq.prog (Go.sizeOf 11) w = Result.ok 1 w := by intros; kernel_rfl
@[simp] theorem Tq.sizeOf110 : ∀ (w : World), Sem.run Tq.prog (Go.sizeOf 110) w = Result.ok 11 w := by intros; kernel_rfl
@[simp] theorem Tq.sizeOf111 : ∀ (w : World), Sem.run Tq.prog (Go.sizeOf 111) w = Result.ok 11 w := by intros; kernel_rfl
@[simp] theorem Tq.sizeOf12 : ∀ (w : World), Sem.run Tq.prog (Go.sizeOf 12) w = Result.ok 1 w := by intros; kernel_rfl
@[simp] theorem Tq.sizeOf13 : ∀ (w : World), Sem.run Tq.prog (Go.sizeOf 13) w = Result.ok 2 w := by intros; kernel_rfl
@[simp] theorem Tq.sizeOf14 : ∀ (w : World), Sem.run Tq.prog (Go.sizeOf 14) w = Result.ok 2 w := by intros; kernel_rfl
@[simp] theorem Tq.sizeOf15 : ∀ (w : World), Sem.run Tq.prog (Go.sizeOf 15) w = Result.ok 1 w := by intros; kernel_rfl
@[simp] theorem Tq.sizeOf16 : ∀ (w : World), Sem.run Tq.prog (Go.sizeOf 16) w = Result.ok 1 w := by intros; kernel_rfl
@[simp] theorem Tq.sizeOf17 : ∀ (w : World), Sem.run Tq.prog (Go.sizeOf 17) w = Result.ok 1 w := by intros; kernel_rfl
@[simp] theorem Tq.sizeOf18 : ∀ (w : World), Sem.run Tq.prog (Go.sizeOf 18) w = Result.ok 1 w := by intros; kernel_rfl
@[simp] theorem Tq.sizeOf19 : ∀ (w : World), Sem.run Tq.prog (Go.sizeOf 19) w = Result.ok 1 w := by intros; kernel_rfl
@[simp] theorem Tq.sizeOf2 : ∀ (w : World), Sem.run Tq.prog (Go.sizeOf 2) w = Result.ok 1 w := by intros; kernel_rfl
@[simp] theorem Tq.sizeOf20 : ∀ (w : World), Sem.run Tq.prog (Go.sizeOf 20) w = Result.ok 1 w := by intros; kernel_rfl
@[simp] theorem Tq.sizeOf21 : ∀ (w : World), Sem.run Tq.prog (Go.sizeOf 21) w = Result.ok 1 w := by intros; kernel_rfl
@[simp] theorem Tq.sizeOf22 : ∀ (w : World), Sem.run Tq.prog (Go.sizeOf 22) w = Result.ok 2 w := by intros; kernel_rfl
@[simp] theorem Tq.sizeOf23 : ∀ (w : World), Sem.run Tq.prog (Go.sizeOf 23) w = Result.ok 2 w := by intros; kernel_rfl
@[simp] theorem Tq.sizeOf24 : ∀ (w : World), Sem.run Tq.prog (Go.sizeOf 24) w = Result.ok 1 w := by intros; kernel_rfl
@[simp] theorem Tq.sizeOf25 : ∀ (w : World), Sem.run Tq.prog (Go.sizeOf 25) w = Result.ok 1 w := by intros; kernel_rfl
@[simp] theorem Tq.sizeOf26 : ∀ (w : World), Sem.run Tq.prog (Go.sizeOf 26) w = Result.ok 2 w := by intros; kernel_rfl
@[simp] theorem Tq.sizeOf27 : ∀ (w : World), Sem.run Tq.prog (Go.sizeOf 27) w = Result.ok 1 w := by intros; kernel_rfl
@[simp] theorem Tq.sizeOf28 : ∀ (w : World), Sem.run Tq.prog (Go.sizeOf 28) w = Result.ok 1 w := by intros; kernel_rfl
@[simp] theorem Tq.sizeOf29 : ∀ (w : World), Sem.run Tq.prog (Go.sizeOf 29) w = Result.ok 1 w := by intros; kernel_rfl
@[simp] theorem Tq.sizeOf3 : ∀ (w : World), Sem.run Tq.prog (Go.sizeOf 3) w = Result.ok 1 w := by intros; kernel_rfl
@[simp] theorem Tq.sizeOf30 : ∀ (w : World), Sem.run Tq.prog (Go.sizeOf 30) w = Result.ok 1 w := by intros; kernel_rfl
@[simp] theorem Tq.sizeOf31 : ∀ (w : World), Sem.run Tq.prog (Go.sizeOf 31) w = Result.ok 1 w := by intros; kernel_rfl
@[simp] theorem Tq.sizeOf32 : ∀ (w : World), Sem.run Tq.prog (Go.sizeOf 32) w = Result.ok 1 w := by intros; kernel_rfl
@[simp] theorem Tq.sizeOf33 : ∀ (w : World), Sem.run Tq.prog (Go.sizeOf 33) w = Result.ok 1 w := by intros; kernel_rfl
@[simp] theorem Tq.sizeOf34 : ∀ (w : World), Sem.run Tq.prog (Go.sizeOf 34) w = Result.ok 1 w := by intros; kernel_rfl
@[simp] theorem Tq.sizeOf35 : ∀ (w : World), Sem.run Tq.prog (Go.sizeOf 35) w = Result.ok 1 w := by intros; kernel_rfl
@[simp] theorem Tq.sizeOf36 : ∀ (w : World), Sem.run Tq.prog (Go.sizeOf 36) w = Result.ok 1 w := by intros; kernel_rfl
@[simp] theorem Tq.sizeOf37 : ∀ (w : World), Sem.run Tq.prog (Go.sizeOf 37) w = Result.ok 1 w := by intros; kernel_rfl
@[simp] theorem Tq.sizeOf38 : ∀ (w : World), Sem.run Tq.prog (Go.sizeOf 38) w = Result.ok 1 w := by intros; kernel_rfl
@[simp] theorem Tq.sizeOf39 : ∀ (w : World), Sem.run Tq.prog (Go.sizeOf 39) w = Result.ok 1 w := by intros; kernel_rfl
@[simp] theorem Tq.sizeOf4 : ∀ (w : World), Sem.run Tq.prog (Go.sizeOf 4) w = Result.ok 1 w := by intros; kernel_rfl
@[simp] theorem Tq.sizeOf40 : ∀ (w : World), Sem.run Tq.prog (Go.sizeOf 40) w = Result.ok 1 w := by intros; kernel_rfl
@[simp] theorem Tq.sizeOf41 : ∀ (w : World), Sem.run Tq.prog (Go.sizeOf 41) w = Result.ok 1 w := by intros; kernel_rfl
@[simp] theorem Tq.sizeOf42 : ∀ (w : World), Sem.run Tq.prog (Go.sizeOf 42) w = Result.ok 1 w := by intros; kernel_rfl
@[simp] theorem Tq.sizeOf43 : ∀ (w : World), Sem.run Tq.prog (Go.sizeOf 43) w = Result.ok 1 w := by intros; kernel_rfl
@[simp] theorem Tq.sizeOf44 : ∀ (w : World), Sem.run Tq.prog (Go.sizeOf 44) w = Result.ok 1 w := by intros; kernel_rfl
@[simp] theorem Tq.sizeOf45 : ∀ (w : World), Sem.run Tq.prog (Go.sizeOf 45) w = Result.ok 2 w := by intros; kernel_rfl
@[simp] theorem Tq.sizeOf46 : ∀ (w : World), Sem.run Tq.prog (Go.sizeOf 46) w = Result.ok 2 w := by intros; kernel_rfl
@[simp] theorem Tq.sizeOf47 : ∀ (w : World), Sem.run Tq.prog (Go.sizeOf 47) w = Result.ok 1 w := by intros; kernel_rfl
@[simp] theorem Tq.sizeOf48 : ∀ (w : World), Sem.run Tq.prog (Go.sizeOf 48) w = Result.ok 1 w := by intros; kernel_rfl
@[simp] theorem Tq.sizeOf49 : ∀ (w : World), Sem.run Tq.prog (Go.sizeOf 49) w = Result.ok 0 w := by intros; kernel_rfl
@[simp] theorem Tq.sizeOf5 : ∀ (w : World), Sem.run Tq.prog (Go.sizeOf 5) w = Result.ok 1 w := by intros; kernel_rfl
@[simp] theorem Tq.sizeOf50 : ∀ (w : World), Sem.run Tq.prog (Go.sizeOf 50) w = Result.ok 0 w := by intros; kernel_rfl
@[simp] theorem Tq.sizeOf51 : ∀ (w : World), Sem.run Tq.prog (Go.sizeOf 51) w = Result.ok 0 w := by intros; kernel_rfl
@[simp] theorem Tq.sizeOf52 : ∀ (w : World), Sem.run Tq.prog (Go.sizeOf 52) w = Result.ok 1 w := by intros; kernel_rfl
@[simp] theorem Tq.sizeOf53 : ∀ (w : World), Sem.run Tq.prog (Go.sizeOf 53) w = Result.ok 1 w := by intros; kernel_rfl
@[simp] theorem Tq.sizeOf54 : ∀ (w : World), Sem.run Tq.prog (Go.sizeOf 54) w = Result.ok 1 w := by intros; kernel_rfl
@[simp] theorem Tq.sizeOf55 : ∀ (w : World), Sem.run Tq.prog (Go.sizeOf 55) w = Result.ok 1 w := by intros; kernel_rfl
@[simp] theorem Tq.sizeOf56 : ∀ (w : World), Sem.run Tq.prog (Go.sizeOf 56) w = Result.ok 1 w := by intros; kernel_rfl
@[simp] theorem Tq.sizeOf57 : ∀ (w : World), Sem.run Tq.prog (Go.sizeOf 57) w = Result.ok 1 w := by intros; kernel_rfl
@[simp] theorem Tq.sizeOf58 : ∀ (w : World), Sem.run Tq.prog (Go.sizeOf 58) w = Result.ok 1 w := by intros; kernel_rfl
@[simp] theorem Tq.sizeOf59 : ∀ (w : World), Sem.run Tq.prog (Go.sizeOf 59) w = Result.ok 1 w := by intros; kernel_rfl
@[simp] theorem Tq.sizeOf6 : ∀ (w : World), Sem.run Tq.prog (Go.sizeOf 6) w = Result.ok 1 w := by intros; kernel_rfl
@[simp] theorem Tq.sizeOf60 : ∀ (w : World), Sem.run Tq.prog (Go.sizeOf 60) w = Result.ok 0 w := by intros; kernel_rfl
@[simp] theorem Tq.sizeOf61 : ∀ (w : World), Sem.run Tq.prog (Go.sizeOf 61) w = Result.ok 1 w := by intros; kernel_rfl
@[simp] theorem Tq.sizeOf62 : ∀ (w : World), Sem.run Tq.prog (Go.sizeOf 62) w = Result.ok 1 w := by intros; kernel_rfl
@[simp] theorem Tq.sizeOf63 : ∀ (w : World), Sem.run Tq.prog (Go.sizeOf 63) w = Result.ok 1 w := by intros; kernel_rfl
@[simp] theorem Tq.sizeOf64 : ∀ (w : World), Sem.run Tq.prog (Go.sizeOf 64) w = Result.ok 2 w := by intros; kernel_rfl
@[simp] theorem Tq.sizeOf65 : ∀ (w : World), Sem.run Tq.prog (Go.sizeOf 65) w = Result.ok 2 w := by intros; kernel_rfl
@[simp] theorem Tq.sizeOf66 : ∀ (w : World), Sem.run Tq.prog (Go.sizeOf 66) w = Result.ok 1 w := by intros; kernel_rfl
@[simp] theorem Tq.sizeOf67 : ∀ (w : World), Sem.run Tq.prog (Go.sizeOf 67) w = Result.ok 1 w := by intros; kernel_rfl
@[simp] theorem Tq.sizeOf68 : ∀ (w : World), Sem.run Tq.prog (Go.sizeOf 68) w = Result.ok 1 w := by intros; kernel_rfl
@[simp] theorem Tq.sizeOf69 : ∀ (w : World), Sem.run Tq.prog (Go.sizeOf 69) w = Result.ok 1 w := by intros; kernel_rfl
@[simp] theorem Tq.sizeOf7 : ∀ (w : World), Sem.run Tq.prog (Go.sizeOf 7) w = Result.ok 4 w := by intros; kernel_rfl
@[simp] theorem Tq.sizeOf70 : ∀ (w : World), Sem.run Tq.prog (Go.sizeOf 70) w = Result.ok 1 w := by intros; kernel_rfl
@[simp] theorem Tq.sizeOf71 : ∀ (w : World), Sem.run Tq.prog (Go.sizeOf 71) w = Result.ok 1 w := by intros; kernel_rfl
@[simp] theorem Tq.sizeOf72 : ∀ (w : World), Sem.run Tq.prog (Go.sizeOf 72) w = Result.ok 1 w := by intros; kernel_rfl
@[simp] theorem Tq.sizeOf73 : ∀ (w : World), Sem.run Tq.prog (Go.sizeOf 73) w = Result.ok 1 w := by intros; kernel_rfl
@[simp] theorem Tq.sizeOf74 : ∀ (w : World), Sem.run Tq.prog (Go.sizeOf 74) w = Result.ok 1 w := by intros; kernel_rfl
@[simp] theorem Tq.sizeOf75 : ∀ (w : World), Sem.run Tq.prog (Go.sizeOf 75) w = Result.ok 1 w := by intros; kernel_rfl
@[simp] theorem Tq.sizeOf76 : ∀ (w : World), Sem.run Tq.prog (Go.sizeOf 76) w = Result.ok 1 w := by intros; kernel_rfl
@[simp] theorem Tq.sizeOf77 : ∀ (w : World), Sem.run Tq.prog (Go.sizeOf 77) w = Result.ok 1 w := by intros; kernel_rfl
@[simp] theorem Tq.sizeOf78 : ∀ (w : World), Sem.run Tq.prog (Go.sizeOf 78) w = Result.ok 1 w := by intros; kernel_rfl
@[simp] theorem Tq.sizeOf79 : ∀ (w : World), Sem.run Tq.prog (Go.sizeOf 79) w = Result.ok 1 w := by intros; kernel_rfl
@[simp] theorem Tq.sizeOf8 : ∀ (w : World), Sem.run Tq.prog (Go.sizeOf 8) w = Result.ok 4 w := by intros; kernel_rfl
@[simp] theorem Tq.sizeOf80 : ∀ (w : World), Sem.run Tq.prog (Go.sizeOf 80) w = Result.ok 1 w := by intros; kernel_rfl
@[simp] theorem Tq.sizeOf81 : ∀ (w : World), Sem.run Tq.prog (Go.sizeOf 81) w = Result.ok 1 w := by intros; kernel_rfl
@[simp] theorem Tq.sizeOf82 : ∀ (w : World), Sem.run Tq.prog (Go.sizeOf 82) w = Result.ok 1 w := by intros; kernel_rfl
@[simp] theorem Tq.sizeOf83 : ∀ (w : World), Sem.run Tq.prog (Go.sizeOf 83) w = Result.ok 1 w := by intros; kernel_rfl
@[simp] theorem Tq.sizeOf84 : ∀ (w : World), Sem.run Tq.prog (Go.sizeOf 84) w = Result.ok 1 w := by intros; kernel_rfl
@[simp] theorem Tq.sizeOf85 : ∀ (w : World), Sem.run Tq.prog (Go.sizeOf 85) w = Result.ok 1 w := by intros; kernel_rfl
@[simp] theorem Tq.sizeOf86 : ∀ (w : World), Sem.run Tq.prog (Go.sizeOf 86) w = Result.ok 1 w := by intros; kernel_rfl
@[simp] theorem Tq.sizeOf87 : ∀ (w : World), Sem.run Tq.prog (Go.sizeOf 87) w = Result.ok 1 w := by intros; kernel_rfl
@[simp] theorem Tq.sizeOf88 : ∀ (w : World), Sem.run Tq.prog (Go.sizeOf 88) w = Result.ok 1 w := by intros; kernel_rfl
@[simp] theorem Tq.sizeOf89 : ∀ (w : World), Sem.run Tq.prog (Go.sizeOf 89) w = Result.ok 1 w := by intros; kernel_rfl
@[simp] theorem Tq.sizeOf9 : ∀ (w : World), Sem.run Tq.prog (Go.sizeOf 9) w = Result.ok 1 w := by intros; kernel_rfl
@[simp] theorem Tq.sizeOf90 : ∀ (w : World), Sem.run Tq.prog (Go.sizeOf 90) w = Result.ok 1 w := by intros; kernel_rfl
@[simp] theorem Tq.sizeOf91 : ∀ (w : World), Sem.run Tq.prog (Go.sizeOf 91) w = Result.ok 1 w := by intros; kernel_rfl
@[simp] theorem Tq.sizeOf92 : ∀ (w : World), Sem.run Tq.prog (Go.sizeOf 92) w = Result.ok 1 w := by intros; kernel_rfl
@[simp] theorem Tq.sizeOf93 : ∀ (w : World), Sem.run Tq.prog (Go.sizeOf 93) w = Result.ok 1 w := by intros; kernel_rfl
@[simp] theorem Tq.sizeOf94 : ∀ (w : World), Sem.run Tq.prog (Go.sizeOf 94) w = Result.ok 1 w := by intros; kernel_rfl
@[simp] theorem Tq.sizeOf95 : ∀ (w : World), Sem.run Tq.prog (Go.sizeOf 95) w = Result.ok 1 w := by intros; kernel_rfl
@[simp] theorem Tq.sizeOf96 : ∀ (w : World), Sem.run Tq.prog (Go.sizeOf 96) w = Result.ok 1 w := by intros; kernel_rfl
@[simp] theorem Tq.sizeOf97 : ∀ (w : World), Sem.run Tq.prog (Go.sizeOf 97) w = Result.ok 1 w := by intros; kernel_rfl
@[simp] theorem Tq.sizeOf98 : ∀ (w : World), Sem.run Tq.prog (Go.sizeOf 98) w = Result.ok 4 w := by intros; kernel_rfl
@[simp] theorem Tq.sizeOf99 : ∀ (w : World), Sem.run Tq.prog (Go.sizeOf 99) w = Result.ok 4 w := by intros; kernel_rfl
@[simp] theorem Tq.stoodInHeld101 : Tq.prog.stoodInHeld 101 = true := by kernel_rfl
@[simp] theorem Tq.stoodInHeld102 : Tq.prog.stoodInHeld 102 = true := by kernel_rfl
@[simp] theorem Tq.stoodInHeld110 : Tq.prog.stoodInHeld 110 = true := by kernel_rfl
@[simp] theorem Tq.stoodInHeld111 : Tq.prog.stoodInHeld 111 = true := by kernel_rfl
@[simp] theorem Tq.stoodInHeld13 : Tq.prog.stoodInHeld 13 = true := by kernel_rfl
@[simp] theorem Tq.stoodInHeld14 : Tq.prog.stoodInHeld 14 = true := by kernel_rfl
@[simp] theorem Tq.stoodInHeld18 : Tq.prog.stoodInHeld 18 = true := by kernel_rfl
@[simp] theorem Tq.stoodInHeld19 : Tq.prog.stoodInHeld 19 = true := by kernel_rfl
@[simp] theorem Tq.stoodInHeld22 : Tq.prog.stoodInHeld 22 = false := by kernel_rfl
@[simp] theorem Tq.stoodInHeld23 : Tq.prog.stoodInHeld 23 = false := by kernel_rfl
@[simp] theorem Tq.stoodInHeld26 : Tq.prog.stoodInHeld 26 = false := by kernel_rfl
@[simp] theorem Tq.stoodInHeld45 : Tq.prog.stoodInHeld 45 = false := by kernel_rfl
@[simp] theorem Tq.stoodInHeld46 : Tq.prog.stoodInHeld 46 = false := by kernel_rfl
@[simp] theorem Tq.stoodInHeld49 : Tq.prog.stoodInHeld 49 = false := by kernel_rfl
@[simp] theorem Tq.stoodInHeld50 : Tq.prog.stoodInHeld 50 = false := by kernel_rfl
@[simp] theorem Tq.stoodInHeld51 : Tq.prog.stoodInHeld 51 = false := by kernel_rfl
@[simp] theorem Tq.stoodInHeld52 : Tq.prog.stoodInHeld 52 = false := by kernel_rfl
@[simp] theorem Tq.stoodInHeld53 : Tq.prog.stoodInHeld 53 = false := by kernel_rfl
@[simp] theorem Tq.stoodInHeld60 : Tq.prog.stoodInHeld 60 = false := by kernel_rfl
@[simp] theorem Tq.stoodInHeld61 : Tq.prog.stoodInHeld 61 = false := by kernel_rfl
@[simp] theorem Tq.stoodInHeld62 : Tq.prog.stoodInHeld 62 = false := by kernel_rfl
@[simp] theorem Tq.stoodInHeld64 : Tq.prog.stoodInHeld 64 = false := by kernel_rfl
@[simp] theorem Tq.stoodInHeld65 : Tq.prog.stoodInHeld 65 = false := by kernel_rfl
@[simp] theorem Tq.stoodInHeld7 : Tq.prog.stoodInHeld 7 = false := by kernel_rfl
@[simp] theorem Tq.stoodInHeld8 : Tq.prog.stoodInHeld 8 = false := by kernel_rfl
@[simp] theorem Tq.stoodInHeld98 : Tq.prog.stoodInHeld 98 = true := by kernel_rfl
@[simp] theorem Tq.stoodInHeld99 : Tq.prog.stoodInHeld 99 = true := by kernel_rfl
@[simp] theorem Tq.type0 : Tq.prog.types[0]? = some Try.t0 := by kernel_rfl
@[simp] theorem Tq.type1 : Tq.prog.types[1]? = some Try.t1 := by kernel_rfl
@[simp] theorem Tq.type10 : Tq.prog.types[10]? = some Try.t10 := by kernel_rfl
@[simp] theorem Tq.type100 : Tq.prog.types[100]? = some Try.t100 := by kernel_rfl
@[simp] theorem Tq.type101 : Tq.prog.types[101]? = some Try.t101 := by kernel_rfl
@[simp] theorem Tq.type102 : Tq.prog.types[102]? = some Try.t102 := by kernel_rfl
@[simp] theorem Tq.type103 : Tq.prog.types[103]? = some Try.t103 := by kernel_rfl
@[simp] theorem Tq.type104 : Tq.prog.types[104]? = some Try.t104 := by kernel_rfl
@[simp] theorem Tq.type105 : Tq.prog.types[105]? = some Try.t105 := by kernel_rfl
@[simp] theorem Tq.type106 : Tq.prog.types[106]? = some Try.t106 := by kernel_rfl
@[simp] theorem Tq.type107 : Tq.prog.types[107]? = some Try.t107 := by kernel_rfl
@[simp] theorem Tq.type108 : Tq.prog.types[108]? = some Try.t108 := by kernel_rfl
@[simp] theorem Tq.type109 : Tq.prog.types[109]? = some Try.t109 := by kernel_rfl
@[simp] theorem Tq.type11 : Tq.prog.types[11]? = some Try.t11 := by kernel_rfl
@[simp] theorem Tq.type110 : Tq.prog.types[110]? = some Try.t110 := by kernel_rfl
@[simp] theorem Tq.type111 : Tq.prog.types[111]? = some Try.t111 := by kernel_rfl
@[simp] theorem Tq.type12 : Tq.prog.types[12]? = some Try.t12 := by kernel_rfl
@[simp] theorem Tq.type13 : Tq.prog.types[13]? = some Try.t13 := by kernel_rfl
@[simp] theorem Tq.type14 : Tq.prog.types[14]? = some Try.t14 := by kernel_rfl
@[simp] theorem Tq.type15 : Tq.prog.types[15]? = some Try.t15 := by kernel_rfl
@[simp] theorem Tq.type16 : Tq.prog.types[16]? = some Try.t16 := by kernel_rfl
@[simp] theorem Tq.type17 : Tq.prog.types[17]? = some Try.t17 := by kernel_rfl
@[simp] theorem Tq.type18 : Tq.prog.types[18]? = some Try.t18 := by kernel_rfl
@[simp] theorem Tq.type19 : Tq.prog.types[19]? = some Try.t19 := by kernel_rfl
@[simp] theorem Tq.type2 : Tq.prog.types[2]? = some Try.t2 := by kernel_rfl
@[simp] theorem Tq.type20 : Tq.prog.types[20]? = some Try.t20 := by kernel_rfl
@[simp] theorem Tq.type21 : Tq.prog.types[21]? = some Try.t21 := by kernel_rfl
@[simp] theorem Tq.type22 : Tq.prog.types[22]? = some Try.t22 := by kernel_rfl
@[simp] theorem Tq.type23 : Tq.prog.types[23]? = some Try.t23 := by kernel_rfl
@[simp] theorem Tq.type24 : Tq.prog.types[24]? = some Try.t24 := by kernel_rfl
@[simp] theorem Tq.type25 : Tq.prog.types[25]? = some Try.t25 := by kernel_rfl
@[simp] theorem Tq.type26 : Tq.prog.types[26]? = some Try.t26 := by kernel_rfl
@[simp] theorem Tq.type27 : Tq.prog.types[27]? = some Try.t27 := by kernel_rfl
@[simp] theorem Tq.type28 : Tq.prog.types[28]? = some Try.t28 := by kernel_rfl
@[simp] theorem Tq.type29 : Tq.prog.types[29]? = some Try.t29 := by kernel_rfl
@[simp] theorem Tq.type3 : Tq.prog.types[3]? = some Try.t3 := by kernel_rfl
@[simp] theorem Tq.type30 : Tq.prog.types[30]? = some Try.t30 := by kernel_rfl
@[simp] theorem Tq.type31 : Tq.prog.types[31]? = some Try.t31 := by kernel_rfl
@[simp] theorem Tq.type32 : Tq.prog.types[32]? = some Try.t32 := by kernel_rfl
@[simp] theorem Tq.type33 : Tq.prog.types[33]? = some Try.t33 := by kernel_rfl
@[simp] theorem Tq.type34 : Tq.prog.types[34]? = some Try.t34 := by kernel_rfl
@[simp] theorem Tq.type35 : Tq.prog.types[35]? = some Try.t35 := by kernel_rfl
@[simp] theorem Tq.type36 : Tq.prog.types[36]? = some Try.t36 := by kernel_rfl
@[simp] theorem Tq.type37 : Tq.prog.types[37]? = some Try.t37 := by kernel_rfl
@[simp] theorem Tq.type38 : Tq.prog.types[38]? = some Try.t38 := by kernel_rfl
@[simp] theorem Tq.type39 : Tq.prog.types[39]? = some Try.t39 := by kernel_rfl
@[simp] theorem Tq.type4 : Tq.prog.types[4]? = some Try.t4 := by kernel_rfl
@[simp] theorem Tq.type40 : Tq.prog.types[40]? = some Try.t40 := by kernel_rfl
@[simp] theorem Tq.type41 : Tq.prog.types[41]? = some Try.t41 := by kernel_rfl
@[simp] theorem Tq.type42 : Tq.prog.types[42]? = some Try.t42 := by kernel_rfl
@[simp] theorem Tq.type43 : Tq.prog.types[43]? = some Try.t43 := by kernel_rfl
@[simp] theorem Tq.type44 : Tq.prog.types[44]? = some Try.t44 := by kernel_rfl
@[simp] theorem Tq.type45 : Tq.prog.types[45]? = some Try.t45 := by kernel_rfl
@[simp] theorem Tq.type46 : Tq.prog.types[46]? = some Try.t46 := by kernel_rfl
@[simp] theorem Tq.type47 : Tq.prog.types[47]? = some Try.t47 := by kernel_rfl
@[simp] theorem Tq.type48 : Tq.prog.types[48]? = some Try.t48 := by kernel_rfl
@[simp] theorem Tq.type49 : Tq.prog.types[49]? = some Try.t49 := by kernel_rfl
@[simp] theorem Tq.type5 : Tq.prog.types[5]? = some Try.t5 := by kernel_rfl
@[simp] theorem Tq.type50 : Tq.prog.types[50]? = some Try.t50 := by kernel_rfl
@[simp] theorem Tq.type51 : Tq.prog.types[51]? = some Try.t51 := by kernel_rfl
@[simp] theorem Tq.type52 : Tq.prog.types[52]? = some Try.t52 := by kernel_rfl
@[simp] theorem Tq.type53 : Tq.prog.types[53]? = some Try.t53 := by kernel_rfl
@[simp] theorem Tq.type54 : Tq.prog.types[54]? = some Try.t54 := by kernel_rfl
@[simp] theorem Tq.type55 : Tq.prog.types[55]? = some Try.t55 := by kernel_rfl
@[simp] theorem Tq.type56 : Tq.prog.types[56]? = some Try.t56 := by kernel_rfl
@[simp] theorem Tq.type57 : Tq.prog.types[57]? = some Try.t57 := by kernel_rfl
@[simp] theorem Tq.type58 : Tq.prog.types[58]? = some Try.t58 := by kernel_rfl
@[simp] theorem Tq.type59 : Tq.prog.types[59]? = some Try.t59 := by kernel_rfl
@[simp] theorem Tq.type6 : Tq.prog.types[6]? = some Try.t6 := by kernel_rfl
@[simp] theorem Tq.type60 : Tq.prog.types[60]? = some Try.t60 := by kernel_rfl
@[simp] theorem Tq.type61 : Tq.prog.types[61]? = some Try.t61 := by kernel_rfl
@[simp] theorem Tq.type62 : Tq.prog.types[62]? = some Try.t62 := by kernel_rfl
@[simp] theorem Tq.type63 : Tq.prog.types[63]? = some Try.t63 := by kernel_rfl
@[simp] theorem Tq.type64 : Tq.prog.types[64]? = some Try.t64 := by kernel_rfl
@[simp] theorem Tq.type65 : Tq.prog.types[65]? = some Try.t65 := by kernel_rfl
@[simp] theorem Tq.type66 : Tq.prog.types[66]? = some Try.t66 := by kernel_rfl
@[simp] theorem Tq.type67 : Tq.prog.types[67]? = some Try.t67 := by kernel_rfl
@[simp] theorem Tq.type68 : Tq.prog.types[68]? = some Try.t68 := by kernel_rfl
@[simp] theorem Tq.type69 : Tq.prog.types[69]? = some Try.t69 := by kernel_rfl
@[simp] theorem Tq.type7 : Tq.prog.types[7]? = some Try.t7 := by kernel_rfl
@[simp] theorem Tq.type70 : Tq.prog.types[70]? = some Try.t70 := by kernel_rfl
@[simp] theorem Tq.type71 : Tq.prog.types[71]? = some Try.t71 := by kernel_rfl
@[simp] theorem Tq.type72 : Tq.prog.types[72]? = some Try.t72 := by kernel_rfl
@[simp] theorem Tq.type73 : Tq.prog.types[73]? = some Try.t73 := by kernel_rfl
@[simp] theorem Tq.type74 : Tq.prog.types[74]? = some Try.t74 := by kernel_rfl
@[simp] theorem Tq.type75 : Tq.prog.types[75]? = some Try.t75 := by kernel_rfl
@[simp] theorem Tq.type76 : Tq.prog.types[76]? = some Try.t76 := by kernel_rfl
@[simp] theorem Tq.type77 : Tq.prog.types[77]? = some Try.t77 := by kernel_rfl
@[simp] theorem Tq.type78 : Tq.prog.types[78]? = some Try.t78 := by kernel_rfl
@[simp] theorem Tq.type79 : Tq.prog.types[79]? = some Try.t79 := by kernel_rfl
@[simp] theorem Tq.type8 : Tq.prog.types[8]? = some Try.t8 := by kernel_rfl
@[simp] theorem Tq.type80 : Tq.prog.types[80]? = some Try.t80 := by kernel_rfl
@[simp] theorem Tq.type81 : Tq.prog.types[81]? = some Try.t81 := by kernel_rfl
@[simp] theorem Tq.type82 : Tq.prog.types[82]? = some Try.t82 := by kernel_rfl
@[simp] theorem Tq.type83 : Tq.prog.types[83]? = some Try.t83 := by kernel_rfl
@[simp] theorem Tq.type84 : Tq.prog.types[84]? = some Try.t84 := by kernel_rfl
@[simp] theorem Tq.type85 : Tq.prog.types[85]? = some Try.t85 := by kernel_rfl
@[simp] theorem Tq.type86 : Tq.prog.types[86]? = some Try.t86 := by kernel_rfl
@[simp] theorem Tq.type87 : Tq.prog.types[87]? = some Try.t87 := by kernel_rfl
@[simp] theorem Tq.type88 : Tq.prog.types[88]? = some Try.t88 := by kernel_rfl
@[simp] theorem Tq.type89 : Tq.prog.types[89]? = some Try.t89 := by kernel_rfl
@[simp] theorem Tq.type9 : Tq.prog.types[9]? = some Try.t9 := by kernel_rfl
@[simp] theorem Tq.type90 : Tq.prog.types[90]? = some Try.t90 := by kernel_rfl
@[simp] theorem Tq.type91 : Tq.prog.types[91]? = some Try.t91 := by kernel_rfl
@[simp] theorem Tq.type92 : Tq.prog.types[92]? = some Try.t92 := by kernel_rfl
@[simp] theorem Tq.type93 : Tq.prog.types[93]? = some Try.t93 := by kernel_rfl
@[simp] theorem Tq.type94 : Tq.prog.types[94]? = some Try.t94 := by kernel_rfl
@[simp] theorem Tq.type95 : Tq.prog.types[95]? = some Try.t95 := by kernel_rfl
@[simp] theorem Tq.type96 : Tq.prog.types[96]? = some Try.t96 := by kernel_rfl
@[simp] theorem Tq.type97 : Tq.prog.types[97]? = some Try.t97 := by kernel_rfl
@[simp] theorem Tq.type98 : Tq.prog.types[98]? = some Try.t98 := by kernel_rfl
@[simp] theorem Tq.type99 : Tq.prog.types[99]? = some Try.t99 := by kernel_rfl
@[simp] theorem Tq.typeInfo0 : ∀ (w : World), Sem.run Tq.prog (typeInfo 0) w = Result.ok Try.t0 w := by intros; kernel_rfl
@[simp] theorem Tq.typeInfo1 : ∀ (w : World), Sem.run Tq.prog (typeInfo 1) w = Result.ok Try.t1 w := by intros; kernel_rfl
@[simp] theorem Tq.typeInfo10 : ∀ (w : World), Sem.run Tq.prog (typeInfo 10) w = Result.ok Try.t10 w := by intros; kernel_rfl
@[simp] theorem Tq.typeInfo100 : ∀ (w : World), Sem.run Tq.prog (typeInfo 100) w = Result.ok Try.t100 w := by intros; kernel_rfl
@[simp] theorem Tq.typeInfo101 : ∀ (w : World), Sem.run Tq.prog (typeInfo 101) w = Result.ok Try.t101 w := by intros; kernel_rfl
@[simp] theorem Tq.typeInfo102 : ∀ (w : World), Sem.run Tq.prog (typeInfo 102) w = Result.ok Try.t102 w := by intros; kernel_rfl
@[simp] theorem Tq.typeInfo103 : ∀ (w : World), Sem.run Tq.prog (typeInfo 103) w = Result.ok Try.t103 w := by intros; kernel_rfl
@[simp] theorem Tq.typeInfo104 : ∀ (w : World), Sem.run Tq.prog (typeInfo 104) w = Result.ok Try.t104 w := by intros; kernel_rfl
@[simp] theorem Tq.typeInfo105 : ∀ (w : World), Sem.run Tq.prog (typeInfo 105) w = Result.ok Try.t105 w := by intros; kernel_rfl
@[simp] theorem Tq.typeInfo106 : ∀ (w : World), Sem.run Tq.prog (typeInfo 106) w = Result.ok Try.t106 w := by intros; kernel_rfl
@[simp] theorem Tq.typeInfo107 : ∀ (w : World), Sem.run Tq.prog (typeInfo 107) w = Result.ok Try.t107 w := by intros; kernel_rfl
@[simp] theorem Tq.typeInfo108 : ∀ (w : World), Sem.run Tq.prog (typeInfo 108) w = Result.ok Try.t108 w := by intros; kernel_rfl
@[simp] theorem Tq.typeInfo109 : ∀ (w : World), Sem.run Tq.prog (typeInfo 109) w = Result.ok Try.t109 w := by intros; kernel_rfl
@[simp] theorem Tq.typeInfo11 : ∀ (w : World), Sem.run Tq.prog (typeInfo 11) w = Result.ok Try.t11 w := by intros; kernel_rfl
@[simp] theorem Tq.typeInfo110 : ∀ (w : World), Sem.run Tq.prog (typeInfo 110) w = Result.ok Try.t110 w := by intros; kernel_rfl
@[simp] theorem Tq.typeInfo111 : ∀ (w : World), Sem.run Tq.prog (typeInfo 111) w = Result.ok Try.t111 w := by intros; kernel_rfl
@[simp] theorem Tq.typeInfo12 : ∀ (w : World), Sem.run Tq.prog (typeInfo 12) w = Result.ok Try.t12 w := by intros; kernel_rfl
@[simp] theorem Tq.typeInfo13 : ∀ (w : World), Sem.run Tq.prog (typeInfo 13) w = Result.ok Try.t13 w := by intros; kernel_rfl
@[simp] theorem Tq.typeInfo14 : ∀ (w : World), Sem.run Tq.prog (typeInfo 14) w = Result.ok Try.t14 w := by intros; kernel_rfl
@[simp] theorem Tq.typeInfo15 : ∀ (w : World), Sem.run Tq.prog (typeInfo 15) w = Result.ok Try.t15 w := by intros; kernel_rfl
@[simp] theorem Tq.typeInfo16 : ∀ (w : World), Sem.run Tq.prog (typeInfo 16) w = Result.ok Try.t16 w := by intros; kernel_rfl
@[simp] theorem Tq.typeInfo17 : ∀ (w : World), Sem.run Tq.prog (typeInfo 17) w = Result.ok Try.t17 w := by intros; kernel_rfl
@[simp] theorem Tq.typeInfo18 : ∀ (w : World), Sem.run Tq.prog (typeInfo 18) w = Result.ok Try.t18 w := by intros; kernel_rfl
@[simp] theorem Tq.typeInfo19 : ∀ (w : World), Sem.run Tq.prog (typeInfo 19) w = Result.ok Try.t19 w := by intros; kernel_rfl
@[simp] theorem Tq.typeInfo2 : ∀ (w : World), Sem.run Tq.prog (typeInfo 2) w = Result.ok Try.t2 w := by intros; kernel_rfl
@[simp] theorem Tq.typeInfo20 : ∀ (w : World), Sem.run Tq.prog (typeInfo 20) w = Result.ok Try.t20 w := by intros; kernel_rfl
@[simp] theorem Tq.typeInfo21 : ∀ (w : World), Sem.run Tq.prog (typeInfo 21) w = Result.ok Try.t21 w := by intros; kernel_rfl
@[simp] theorem Tq.typeInfo22 : ∀ (w : World), Sem.run Tq.prog (typeInfo 22) w = Result.ok Try.t22 w := by intros; kernel_rfl
@[simp] theorem Tq.typeInfo23 : ∀ (w : World), Sem.run Tq.prog (typeInfo 23) w = Result.ok Try.t23 w := by intros; kernel_rfl
@[simp] theorem Tq.typeInfo24 : ∀ (w : World), Sem.run Tq.prog (typeInfo 24) w = Result.ok Try.t24 w := by intros; kernel_rfl
@[simp] theorem Tq.typeInfo25 : ∀ (w : World), Sem.run Tq.prog (typeInfo 25) w = Result.ok Try.t25 w := by intros; kernel_rfl
@[simp] theorem Tq.typeInfo26 : ∀ (w : World), Sem.run Tq.prog (typeInfo 26) w = Result.ok Try.t26 w := by intros; kernel_rfl
@[simp] theorem Tq.typeInfo27 : ∀ (w : World), Sem.run Tq.prog (typeInfo 27) w = Result.ok Try.t27 w := by intros; kernel_rfl
@[simp] theorem Tq.typeInfo28 : ∀ (w : World), Sem.run Tq.prog (typeInfo 28) w = Result.ok Try.t28 w := by intros; kernel_rfl
@[simp] theorem Tq.typeInfo29 : ∀ (w : World), Sem.run Tq.prog (typeInfo 29) w = Result.ok Try.t29 w := by intros; kernel_rfl
@[simp] theorem Tq.typeInfo3 : ∀ (w : World), Sem.run Tq.prog (typeInfo 3) w = Result.ok Try.t3 w := by intros; kernel_rfl
@[simp] theorem Tq.typeInfo30 : ∀ (w : World), Sem.run Tq.prog (typeInfo 30) w = Result.ok Try.t30 w := by intros; kernel_rfl
@[simp] theorem Tq.typeInfo31 : ∀ (w : World), Sem.run Tq.prog (typeInfo 31) w = Result.ok Try.t31 w := by intros; kernel_rfl
@[simp] theorem Tq.typeInfo32 : ∀ (w : World), Sem.run Tq.prog (typeInfo 32) w = Result.ok Try.t32 w := by intros; kernel_rfl
@[simp] theorem Tq.typeInfo33 : ∀ (w : World), Sem.run Tq.prog (typeInfo 33) w = Result.ok Try.t33 w := by intros; kernel_rfl
@[simp] theorem Tq.typeInfo34 : ∀ (w : World), Sem.run Tq.prog (typeInfo 34) w = Result.ok Try.t34 w := by intros; kernel_rfl
@[simp] theorem Tq.typeInfo35 : ∀ (w : World), Sem.run Tq.prog (typeInfo 35) w = Result.ok Try.t35 w := by intros; kernel_rfl
@[simp] theorem Tq.typeInfo36 : ∀ (w : World), Sem.run Tq.prog (typeInfo 36) w = Result.ok Try.t36 w := by intros; kernel_rfl
@[simp] theorem Tq.typeInfo37 : ∀ (w : World), Sem.run Tq.prog (typeInfo 37) w = Result.ok Try.t37 w := by intros; kernel_rfl
@[simp] theorem Tq.typeInfo38 : ∀ (w : World), Sem.run Tq.prog (typeInfo 38) w = Result.ok Try.t38 w := by intros; kernel_rfl
@[simp] theorem Tq.typeInfo39 : ∀ (w : World), Sem.run Tq.prog (typeInfo 39) w = Result.ok Try.t39 w := by intros; kernel_rfl
@[simp] theorem Tq.typeInfo4 : ∀ (w : World), Sem.run Tq.prog (typeInfo 4) w = Result.ok Try.t4 w := by intros; kernel_rfl
@[simp] theorem Tq.typeInfo40 : ∀ (w : World), Sem.run Tq.prog (typeInfo 40) w = Result.ok Try.t40 w := by intros; kernel_rfl
@[simp] theorem Tq.typeInfo41 : ∀ (w : World), Sem.run Tq.prog (typeInfo 41) w = Result.ok Try.t41 w := by intros; kernel_rfl
@[simp] theorem Tq.typeInfo42 : ∀ (w : World), Sem.run Tq.prog (typeInfo 42) w = Result.ok Try.t42 w := by intros; kernel_rfl
@[simp] theorem Tq.typeInfo43 : ∀ (w : World), Sem.run Tq.prog (typeInfo 43) w = Result.ok Try.t43 w := by intros; kernel_rfl
@[simp] theorem Tq.typeInfo44 : ∀ (w : World), Sem.run Tq.prog (typeInfo 44) w = Result.ok Try.t44 w := by intros; kernel_rfl
@[simp] theorem Tq.typeInfo45 : ∀ (w : World), Sem.run Tq.prog (typeInfo 45) w = Result.ok Try.t45 w := by intros; kernel_rfl
@[simp] theorem Tq.typeInfo46 : ∀ (w : World), Sem.run Tq.prog (typeInfo 46) w = Result.ok Try.t46 w := by intros; kernel_rfl
@[simp] theorem Tq.typeInfo47 : ∀ (w : World), Sem.run Tq.prog (typeInfo 47) w = Result.ok Try.t47 w := by intros; kernel_rfl
@[simp] theorem Tq.typeInfo48 : ∀ (w : World), Sem.run Tq.prog (typeInfo 48) w = Result.ok Try.t48 w := by intros; kernel_rfl
@[simp] theorem Tq.typeInfo49 : ∀ (w : World), Sem.run Tq.prog (typeInfo 49) w = Result.ok Try.t49 w := by intros; kernel_rfl
@[simp] theorem Tq.typeInfo5 : ∀ (w : World), Sem.run Tq.prog (typeInfo 5) w = Result.ok Try.t5 w := by intros; kernel_rfl
@[simp] theorem Tq.typeInfo50 : ∀ (w : World), Sem.run Tq.prog (typeInfo 50) w = Result.ok Try.t50 w := by intros; kernel_rfl
@[simp] theorem Tq.typeInfo51 : ∀ (w : World), Sem.run Tq.prog (typeInfo 51) w = Result.ok Try.t51 w := by intros; kernel_rfl
@[simp] theorem Tq.typeInfo52 : ∀ (w : World), Sem.run Tq.prog (typeInfo 52) w = Result.ok Try.t52 w := by intros; kernel_rfl
@[simp] theorem Tq.typeInfo53 : ∀ (w : World), Sem.run Tq.prog (typeInfo 53) w = Result.ok Try.t53 w := by intros; kernel_rfl
@[simp] theorem Tq.typeInfo54 : ∀ (w : World), Sem.run Tq.prog (typeInfo 54) w = Result.ok Try.t54 w := by intros; kernel_rfl
@[simp] theorem Tq.typeInfo55 : ∀ (w : World), Sem.run Tq.prog (typeInfo 55) w = Result.ok Try.t55 w := by intros; kernel_rfl
@[simp] theorem Tq.typeInfo56 : ∀ (w : World), Sem.run Tq.prog (typeInfo 56) w = Result.ok Try.t56 w := by intros; kernel_rfl
@[simp] theorem Tq.typeInfo57 : ∀ (w : World), Sem.run Tq.prog (typeInfo 57) w = Result.ok Try.t57 w := by intros; kernel_rfl
@[simp] theorem Tq.typeInfo58 : ∀ (w : World), Sem.run Tq.prog (typeInfo 58) w = Result.ok Try.t58 w := by intros; kernel_rfl
@[simp] theorem Tq.typeInfo59 : ∀ (w : World), Sem.run Tq.prog (typeInfo 59) w = Result.ok Try.t59 w := by intros; kernel_rfl
@[simp] theorem Tq.typeInfo6 : ∀ (w : World), Sem.run Tq.prog (typeInfo 6) w = Result.ok Try.t6 w := by intros; kernel_rfl
@[simp] theorem Tq.typeInfo60 : ∀ (w : World), Sem.run Tq.prog (typeInfo 60) w = Result.ok Try.t60 w := by intros; kernel_rfl
@[simp] theorem Tq.typeInfo61 : ∀ (w : World), Sem.run Tq.prog (typeInfo 61) w = Result.ok Try.t61 w := by intros; kernel_rfl
@[simp] theorem Tq.typeInfo62 : ∀ (w : World), Sem.run Tq.prog (typeInfo 62) w = Result.ok Try.t62 w := by intros; kernel_rfl
@[simp] theorem Tq.typeInfo63 : ∀ (w : World), Sem.run Tq.prog (typeInfo 63) w = Result.ok Try.t63 w := by intros; kernel_rfl
@[simp] theorem Tq.typeInfo64 : ∀ (w : World), Sem.run Tq.prog (typeInfo 64) w = Result.ok Try.t64 w := by intros; kernel_rfl
@[simp] theorem Tq.typeInfo65 : ∀ (w : World), Sem.run Tq.prog (typeInfo 65) w = Result.ok Try.t65 w := by intros; kernel_rfl
@[simp] theorem Tq.typeInfo66 : ∀ (w : World), Sem.run Tq.prog (typeInfo 66) w = Result.ok Try.t66 w := by intros; kernel_rfl
@[simp] theorem Tq.typeInfo67 : ∀ (w : World), Sem.run Tq.prog (typeInfo 67) w = Result.ok Try.t67 w := by intros; kernel_rfl
@[simp] theorem Tq.typeInfo68 : ∀ (w : World), Sem.run Tq.prog (typeInfo 68) w = Result.ok Try.t68 w := by intros; kernel_rfl
@[simp] theorem Tq.typeInfo69 : ∀ (w : World), Sem.run Tq.prog (typeInfo 69) w = Result.ok Try.t69 w := by intros; kernel_rfl
@[simp] theorem Tq.typeInfo7 : ∀ (w : World), Sem.run Tq.prog (typeInfo 7) w = Result.ok Try.t7 w := by intros; kernel_rfl
@[simp] theorem Tq.typeInfo70 : ∀ (w : World), Sem.run Tq.prog (typeInfo 70) w = Result.ok Try.t70 w := by intros; kernel_rfl
@[simp] theorem Tq.typeInfo71 : ∀ (w : World), Sem.run Tq.prog (typeInfo 71) w = Result.ok Try.t71 w := by intros; kernel_rfl
@[simp] theorem Tq.typeInfo72 : ∀ (w : World), Sem.run Tq.prog (typeInfo 72) w = Result.ok Try.t72 w := by intros; kernel_rfl
@[simp] theorem Tq.typeInfo73 : ∀ (w : World), Sem.run Tq.prog (typeInfo 73) w = Result.ok Try.t73 w := by intros; kernel_rfl
@[simp] theorem Tq.typeInfo74 : ∀ (w : World), Sem.run Tq.prog (typeInfo 74) w = Result.ok Try.t74 w := by intros; kernel_rfl
@[simp] theorem Tq.typeInfo75 : ∀ (w : World), Sem.run Tq.prog (typeInfo 75) w = Result.ok Try.t75 w := by intros; kernel_rfl
@[simp] theorem Tq.typeInfo76 : ∀ (w : World), Sem.run Tq.prog (typeInfo 76) w = Result.ok Try.t76 w := by intros; kernel_rfl
@[simp] theorem Tq.typeInfo77 : ∀ (w : World), Sem.run Tq.prog (typeInfo 77) w = Result.ok Try.t77 w := by intros; kernel_rfl
@[simp] theorem Tq.typeInfo78 : ∀ (w : World), Sem.run Tq.prog (typeInfo 78) w = Result.ok Try.t78 w := by intros; kernel_rfl
@[simp] theorem Tq.typeInfo79 : ∀ (w : World), Sem.run Tq.prog (typeInfo 79) w = Result.ok Try.t79 w := by intros; kernel_rfl
@[simp] theorem Tq.typeInfo8 : ∀ (w : World), Sem.run Tq.prog (typeInfo 8) w = Result.ok Try.t8 w := by intros; kernel_rfl
@[simp] theorem Tq.typeInfo80 : ∀ (w : World), Sem.run Tq.prog (typeInfo 80) w = Result.ok Try.t80 w := by intros; kernel_rfl
@[simp] theorem Tq.typeInfo81 : ∀ (w : World), Sem.run Tq.prog (typeInfo 81) w = Result.ok Try.t81 w := by intros; kernel_rfl
@[simp] theorem Tq.typeInfo82 : ∀ (w : World), Sem.run Tq.prog (typeInfo 82) w = Result.ok Try.t82 w := by intros; kernel_rfl
@[simp] theorem Tq.typeInfo83 : ∀ (w : World), Sem.run Tq.prog (typeInfo 83) w = Result.ok Try.t83 w := by intros; kernel_rfl
@[simp] theorem Tq.typeInfo84 : ∀ (w : World), Sem.run Tq.prog (typeInfo 84) w = Result.ok Try.t84 w := by intros; kernel_rfl
@[simp] theorem Tq.typeInfo85 : ∀ (w : World), Sem.run Tq.prog (typeInfo 85) w = Result.ok Try.t85 w := by intros; kernel_rfl
@[simp] theorem Tq.typeInfo86 : ∀ (w : World), Sem.run Tq.prog (typeInfo 86) w = Result.ok Try.t86 w := by intros; kernel_rfl
@[simp] theorem Tq.typeInfo87 : ∀ (w : World), Sem.run Tq.prog (typeInfo 87) w = Result.ok Try.t87 w := by intros; kernel_rfl
@[simp] theorem Tq.typeInfo88 : ∀ (w : World), Sem.run Tq.prog (typeInfo 88) w = Result.ok Try.t88 w := by intros; kernel_rfl
@[simp] theorem Tq.typeInfo89 : ∀ (w : World), Sem.run Tq.prog (typeInfo 89) w = Result.ok Try.t89 w := by intros; kernel_rfl
@[simp] theorem Tq.typeInfo9 : ∀ (w : World), Sem.run Tq.prog (typeInfo 9) w = Result.ok Try.t9 w := by intros; kernel_rfl
@[simp] theorem Tq.typeInfo90 : ∀ (w : World), Sem.run Tq.prog (typeInfo 90) w = Result.ok Try.t90 w := by intros; kernel_rfl
@[simp] theorem Tq.typeInfo91 : ∀ (w : World), Sem.run Tq.prog (typeInfo 91) w = Result.ok Try.t91 w := by intros; kernel_rfl
@[simp] theorem Tq.typeInfo92 : ∀ (w : World), Sem.run Tq.prog (typeInfo 92) w = Result.ok Try.t92 w := by intros; kernel_rfl
@[simp] theorem Tq.typeInfo93 : ∀ (w : World), Sem.run Tq.prog (typeInfo 93) w = Result.ok Try.t93 w := by intros; kernel_rfl
@[simp] theorem Tq.typeInfo94 : ∀ (w : World), Sem.run Tq.prog (typeInfo 94) w = Result.ok Try.t94 w := by intros; kernel_rfl
@[simp] theorem Tq.typeInfo95 : ∀ (w : World), Sem.run Tq.prog (typeInfo 95) w = Result.ok Try.t95 w := by intros; kernel_rfl
@[simp] theorem Tq.typeInfo96 : ∀ (w : World), Sem.run Tq.prog (typeInfo 96) w = Result.ok Try.t96 w := by intros; kernel_rfl
@[simp] theorem Tq.typeInfo97 : ∀ (w : World), Sem.run Tq.prog (typeInfo 97) w = Result.ok Try.t97 w := by intros; kernel_rfl
@[simp] theorem Tq.typeInfo98 : ∀ (w : World), Sem.run Tq.prog (typeInfo 98) w = Result.ok Try.t98 w := by intros; kernel_rfl
@[simp] theorem Tq.typeInfo99 : ∀ (w : World), Sem.run Tq.prog (typeInfo 99) w = Result.ok Try.t99 w := by intros; kernel_rfl
@[simp] theorem Tq.types_size : Tq.prog.types.size = 112 := by kernel_rfl
@[simp] theorem Tq.underlying0 : Tq.prog.underlying 0 = some (TypeDesc.tuple #[]) := by kernel_rfl
@[simp] theorem Tq.underlying1 : Tq.prog.underlying 1 = some (TypeDesc.func #[] #[] false) := by kernel_rfl
@[simp] theorem Tq.underlying10 : Tq.prog.underlying 10 = some TypeDesc.string := by kernel_rfl
@[simp] theorem Tq.underlying100 : Tq.prog.underlying 100 = some (TypeDesc.array 0 16) := by kernel_rfl
@[simp] theorem Tq.underlying101 : Tq.prog.underlying 101 =   some     (TypeDesc.struct       #[{ name := "_", type := 100, offset := 0, embedded := false, tag := "", pkgPath := "runtime", byteOffset := 0 }]) := by kernel_rfl
@[simp] theorem Tq.underlying102 : Tq.prog.underlying 102 =   some     (TypeDesc.struct       #[{ name := "_", type := 100, offset := 0, embedded := false, tag := "", pkgPath := "runtime", byteOffset := 0 }]) := by kernel_rfl
@[simp] theorem Tq.underlying103 : Tq.prog.underlying 103 = some (TypeDesc.func #[] #[3] false) := by kernel_rfl
@[simp] theorem Tq.underlying104 : Tq.prog.underlying 104 = some (TypeDesc.int IntKind.u8) := by kernel_rfl
@[simp] theorem Tq.underlying105 : Tq.prog.underlying 105 = some (TypeDesc.int IntKind.u8) := by kernel_rfl
@[simp] theorem Tq.underlying106 : Tq.prog.underlying 106 = some (TypeDesc.func #[76, 76] #[4] false) := by kernel_rfl
@[simp] theorem Tq.underlying107 : Tq.prog.underlying 107 = some (TypeDesc.pointer 5) := by kernel_rfl
@[simp] theorem Tq.underlying108 : Tq.prog.underlying 108 = some (TypeDesc.int IntKind.i32) := by kernel_rfl
@[simp] theorem Tq.underlying109 : Tq.prog.underlying 109 = some (TypeDesc.int IntKind.i32) := by kernel_rfl
@[simp] theorem Tq.underlying11 : Tq.prog.underlying 11 = some TypeDesc.string := by kernel_rfl
@[simp] theorem Tq.underlying110 : Tq.prog.underlying 110 =   some     (TypeDesc.struct       #[{ name := "Size_", type := 12, offset := 0, embedded := false, tag := "", pkgPath := "", byteOffset := 0 },         { name := "PtrBytes", type := 12, offset := 1, embedded := false, tag := "", pkgPath := "", byteOffset := 8 },         { name := "Hash", type := 63, offset := 2, embedded := false, tag := "", pkgPath := "", byteOffset := 16 },         { name := "TFlag", type := 104, offset := 3, embedded := false, tag := "", pkgPath := "", byteOffset := 20 },         { name := "Align_", type := 5, offset := 4, embedded := false, tag := "", pkgPath := "", byteOffset := 21 },         { name := "FieldAlign_", type := 5, offset := 5, embedded := false, tag := "", pkgPath := "",           byteOffset := 22 },         { name := "Kind_", type := 105, offset := 6, embedded := false, tag := "", pkgPath := "", byteOffset := 23 },         { name := "Equal", type := 106, offset := 7, embedded := false, tag := "", pkgPath := "", byteOffset := 24 },         { name := "GCData", type := 107, offset := 8, embedded := false, tag := "", pkgPath := "", byteOffset := 32 },         { name := "Str", type := 108, offset := 9, embedded := false, tag := "", pkgPath := "", byteOffset := 40 },         { name := "PtrToThis", type := 109, offset := 10, embedded := false, tag := "", pkgPath := "",           byteOffset := 44 }]) := by kernel_rfl
@[simp] theorem Tq.underlying111 : Tq.prog.underlying 111 =   some     (TypeDesc.struct       #[{ name := "Size_", type := 12, offset := 0, embedded := false, tag := "", pkgPath := "", byteOffset := 0 },         { name := "PtrBytes", type := 12, offset := 1, embedded := false, tag := "", pkgPath := "", byteOffset := 8 },         { name := "Hash", type := 63, offset := 2, embedded := false, tag := "", pkgPath := "", byteOffset := 16 },         { name := "TFlag", type := 104, offset := 3, embedded := false, tag := "", pkgPath := "", byteOffset := 20 },         { name := "Align_", type := 5, offset := 4, embedded := false, tag := "", pkgPath := "", byteOffset := 21 },         { name := "FieldAlign_", type := 5, offset := 5, embedded := false, tag := "", pkgPath := "",           byteOffset := 22 },         { name := "Kind_", type := 105, offset := 6, embedded := false, tag := "", pkgPath := "", byteOffset := 23 },         { name := "Equal", type := 106, offset := 7, embedded := false, tag := "", pkgPath := "", byteOffset := 24 },         { name := "GCData", type := 107, offset := 8, embedded := false, tag := "", pkgPath := "", byteOffset := 32 },         { name := "Str", type := 108, offset := 9, embedded := false, tag := "", pkgPath := "", byteOffset := 40 },         { name := "PtrToThis", type := 109, offset := 10, embedded := false, tag := "", pkgPath := "",           byteOffset := 44 }]) := by kernel_rfl
@[simp] theorem Tq.underlying12 : Tq.prog.underlying 12 = some (TypeDesc.int IntKind.u64) := by kernel_rfl
@[simp] theorem Tq.underlying13 : Tq.prog.underlying 13 =   some     (TypeDesc.struct       #[{ name := "msg", type := 9, offset := 0, embedded := false, tag := "", pkgPath := "runtime", byteOffset := 0 },         { name := "addr", type := 12, offset := 1, embedded := false, tag := "", pkgPath := "runtime",           byteOffset := 16 }]) := by kernel_rfl
@[simp] theorem Tq.underlying14 : Tq.prog.underlying 14 =   some     (TypeDesc.struct       #[{ name := "msg", type := 9, offset := 0, embedded := false, tag := "", pkgPath := "runtime", byteOffset := 0 },         { name := "addr", type := 12, offset := 1, embedded := false, tag := "", pkgPath := "runtime",           byteOffset := 16 }]) := by kernel_rfl
@[simp] theorem Tq.underlying15 : Tq.prog.underlying 15 = some (TypeDesc.pointer 99) := by kernel_rfl
@[simp] theorem Tq.underlying16 : Tq.prog.underlying 16 = some (TypeDesc.pointer 102) := by kernel_rfl
@[simp] theorem Tq.underlying17 : Tq.prog.underlying 17 = some (TypeDesc.pointer 111) := by kernel_rfl
@[simp] theorem Tq.underlying18 : Tq.prog.underlying 18 =   some     (TypeDesc.struct       #[{ name := "typ", type := 17, offset := 0, embedded := false, tag := "", pkgPath := "internal/runtime/maps",           byteOffset := 0 }]) := by kernel_rfl
@[simp] theorem Tq.underlying19 : Tq.prog.underlying 19 =   some     (TypeDesc.struct       #[{ name := "typ", type := 17, offset := 0, embedded := false, tag := "", pkgPath := "internal/runtime/maps",           byteOffset := 0 }]) := by kernel_rfl
@[simp] theorem Tq.underlying2 : Tq.prog.underlying 2 = some (TypeDesc.int IntKind.i64) := by kernel_rfl
@[simp] theorem Tq.underlying20 : Tq.prog.underlying 20 = some (TypeDesc.interface #[]) := by kernel_rfl
@[simp] theorem Tq.underlying21 : Tq.prog.underlying 21 = some (TypeDesc.int IntKind.i32) := by kernel_rfl
@[simp] theorem Tq.underlying22 : Tq.prog.underlying 22 =   some     (TypeDesc.struct       #[{ name := "Bits", type := 3, offset := 0, embedded := false, tag := "", pkgPath := "", byteOffset := 0 },         { name := "Word", type := 3, offset := 1, embedded := false, tag := "", pkgPath := "", byteOffset := 8 }]) := by kernel_rfl
@[simp] theorem Tq.underlying23 : Tq.prog.underlying 23 =   some     (TypeDesc.struct       #[{ name := "Bits", type := 3, offset := 0, embedded := false, tag := "", pkgPath := "", byteOffset := 0 },         { name := "Word", type := 3, offset := 1, embedded := false, tag := "", pkgPath := "", byteOffset := 8 }]) := by kernel_rfl
@[simp] theorem Tq.underlying24 : Tq.prog.underlying 24 = some (TypeDesc.slice 3) := by kernel_rfl
@[simp] theorem Tq.underlying25 : Tq.prog.underlying 25 = some (TypeDesc.func #[26] #[24] false) := by kernel_rfl
@[simp] theorem Tq.underlying26 : Tq.prog.underlying 26 =   some     (TypeDesc.struct       #[{ name := "Bits", type := 3, offset := 0, embedded := false, tag := "", pkgPath := "", byteOffset := 0 },         { name := "Word", type := 3, offset := 1, embedded := false, tag := "", pkgPath := "", byteOffset := 8 }]) := by kernel_rfl
@[simp] theorem Tq.underlying27 : Tq.prog.underlying 27 = some (TypeDesc.func #[23] #[26] false) := by kernel_rfl
@[simp] theorem Tq.underlying28 : Tq.prog.underlying 28 = some (TypeDesc.func #[24, 24] #[4] false) := by kernel_rfl
@[simp] theorem Tq.underlying29 : Tq.prog.underlying 29 = some (TypeDesc.func #[24, 3] #[3] false) := by kernel_rfl
@[simp] theorem Tq.underlying3 : Tq.prog.underlying 3 = some (TypeDesc.int IntKind.i64) := by kernel_rfl
@[simp] theorem Tq.underlying30 : Tq.prog.underlying 30 = some (TypeDesc.func #[23] #[4] false) := by kernel_rfl
@[simp] theorem Tq.underlying31 : Tq.prog.underlying 31 = some (TypeDesc.func #[26] #[3] false) := by kernel_rfl
@[simp] theorem Tq.underlying32 : Tq.prog.underlying 32 = some (TypeDesc.func #[26] #[4] false) := by kernel_rfl
@[simp] theorem Tq.underlying33 : Tq.prog.underlying 33 = some (TypeDesc.tuple #[26, 4]) := by kernel_rfl
@[simp] theorem Tq.underlying34 : Tq.prog.underlying 34 = some (TypeDesc.func #[26] #[26, 4] false) := by kernel_rfl
@[simp] theorem Tq.underlying35 : Tq.prog.underlying 35 = some (TypeDesc.func #[26, 26] #[4] false) := by kernel_rfl
@[simp] theorem Tq.underlying36 : Tq.prog.underlying 36 = some (TypeDesc.tuple #[24, 4]) := by kernel_rfl
@[simp] theorem Tq.underlying37 : Tq.prog.underlying 37 = some (TypeDesc.func #[26] #[24, 4] false) := by kernel_rfl
@[simp] theorem Tq.underlying38 : Tq.prog.underlying 38 = some (TypeDesc.func #[3] #[3] false) := by kernel_rfl
@[simp] theorem Tq.underlying39 : Tq.prog.underlying 39 = some (TypeDesc.int IntKind.u64) := by kernel_rfl
@[simp] theorem Tq.underlying4 : Tq.prog.underlying 4 = some TypeDesc.bool := by kernel_rfl
@[simp] theorem Tq.underlying40 : Tq.prog.underlying 40 = some (TypeDesc.int IntKind.u64) := by kernel_rfl
@[simp] theorem Tq.underlying41 : Tq.prog.underlying 41 = some (TypeDesc.func #[3, 42] #[24] false) := by kernel_rfl
@[simp] theorem Tq.underlying42 : Tq.prog.underlying 42 = some (TypeDesc.func #[3, 3] #[3] false) := by kernel_rfl
@[simp] theorem Tq.underlying43 : Tq.prog.underlying 43 = some (TypeDesc.func #[3, 24] #[26] false) := by kernel_rfl
@[simp] theorem Tq.underlying44 : Tq.prog.underlying 44 = some (TypeDesc.slice 53) := by kernel_rfl
@[simp] theorem Tq.underlying45 : Tq.prog.underlying 45 =   some     (TypeDesc.struct       #[{ name := "values", type := 40, offset := 0, embedded := false, tag := "",           pkgPath := "loop.example/g03403/impl", byteOffset := 0 },         { name := "pairs", type := 44, offset := 1, embedded := false, tag := "", pkgPath := "loop.example/g03403/impl",           byteOffset := 8 }]) := by kernel_rfl
@[simp] theorem Tq.underlying46 : Tq.prog.underlying 46 =   some     (TypeDesc.struct       #[{ name := "values", type := 40, offset := 0, embedded := false, tag := "",           pkgPath := "loop.example/g03403/impl", byteOffset := 0 },         { name := "pairs", type := 44, offset := 1, embedded := false, tag := "", pkgPath := "loop.example/g03403/impl",           byteOffset := 8 }]) := by kernel_rfl
@[simp] theorem Tq.underlying47 : Tq.prog.underlying 47 = some (TypeDesc.func #[3, 48] #[] false) := by kernel_rfl
@[simp] theorem Tq.underlying48 : Tq.prog.underlying 48 = some (TypeDesc.func #[3] #[] false) := by kernel_rfl
@[simp] theorem Tq.underlying49 : Tq.prog.underlying 49 = some (TypeDesc.struct #[]) := by kernel_rfl
@[simp] theorem Tq.underlying5 : Tq.prog.underlying 5 = some (TypeDesc.int IntKind.u8) := by kernel_rfl
@[simp] theorem Tq.underlying50 : Tq.prog.underlying 50 = some (TypeDesc.struct #[]) := by kernel_rfl
@[simp] theorem Tq.underlying51 : Tq.prog.underlying 51 = some (TypeDesc.struct #[]) := by kernel_rfl
@[simp] theorem Tq.underlying52 : Tq.prog.underlying 52 =   some     (TypeDesc.struct       #[{ name := "_", type := 50, offset := 0, embedded := false, tag := "", pkgPath := "sync/atomic",           byteOffset := 0 },         { name := "_", type := 51, offset := 0, embedded := false, tag := "", pkgPath := "sync/atomic",           byteOffset := 0 },         { name := "v", type := 2, offset := 0, embedded := false, tag := "", pkgPath := "sync/atomic",           byteOffset := 0 }]) := by kernel_rfl
@[simp] theorem Tq.underlying53 : Tq.prog.underlying 53 =   some     (TypeDesc.struct       #[{ name := "_", type := 50, offset := 0, embedded := false, tag := "", pkgPath := "sync/atomic",           byteOffset := 0 },         { name := "_", type := 51, offset := 0, embedded := false, tag := "", pkgPath := "sync/atomic",           byteOffset := 0 },         { name := "v", type := 2, offset := 0, embedded := false, tag := "", pkgPath := "sync/atomic",           byteOffset := 0 }]) := by kernel_rfl
@[simp] theorem Tq.underlying54 : Tq.prog.underlying 54 = some (TypeDesc.func #[] #[2] false) := by kernel_rfl
@[simp] theorem Tq.underlying55 : Tq.prog.underlying 55 = some (TypeDesc.func #[3, 3, 3] #[4] false) := by kernel_rfl
@[simp] theorem Tq.underlying56 : Tq.prog.underlying 56 = some (TypeDesc.int IntKind.u64) := by kernel_rfl
@[simp] theorem Tq.underlying57 : Tq.prog.underlying 57 = some (TypeDesc.func #[3] #[4] false) := by kernel_rfl
@[simp] theorem Tq.underlying58 : Tq.prog.underlying 58 = some (TypeDesc.func #[3, 38] #[26] false) := by kernel_rfl
@[simp] theorem Tq.underlying59 : Tq.prog.underlying 59 = some (TypeDesc.func #[56] #[3] false) := by kernel_rfl
@[simp] theorem Tq.underlying6 : Tq.prog.underlying 6 = some (TypeDesc.int IntKind.u8) := by kernel_rfl
@[simp] theorem Tq.underlying60 : Tq.prog.underlying 60 = some (TypeDesc.struct #[]) := by kernel_rfl
@[simp] theorem Tq.underlying61 : Tq.prog.underlying 61 =   some     (TypeDesc.struct       #[{ name := "_", type := 50, offset := 0, embedded := false, tag := "", pkgPath := "sync/atomic",           byteOffset := 0 },         { name := "_", type := 51, offset := 0, embedded := false, tag := "", pkgPath := "sync/atomic",           byteOffset := 0 },         { name := "v", type := 39, offset := 0, embedded := false, tag := "", pkgPath := "sync/atomic",           byteOffset := 0 }]) := by kernel_rfl
@[simp] theorem Tq.underlying62 : Tq.prog.underlying 62 =   some     (TypeDesc.struct       #[{ name := "_", type := 50, offset := 0, embedded := false, tag := "", pkgPath := "sync/atomic",           byteOffset := 0 },         { name := "_", type := 51, offset := 0, embedded := false, tag := "", pkgPath := "sync/atomic",           byteOffset := 0 },         { name := "v", type := 39, offset := 0, embedded := false, tag := "", pkgPath := "sync/atomic",           byteOffset := 0 }]) := by kernel_rfl
@[simp] theorem Tq.underlying63 : Tq.prog.underlying 63 = some (TypeDesc.int IntKind.u32) := by kernel_rfl
@[simp] theorem Tq.underlying64 : Tq.prog.underlying 64 =   some     (TypeDesc.struct       #[{ name := "noCopy", type := 60, offset := 0, embedded := false, tag := "", pkgPath := "sync", byteOffset := 0 },         { name := "state", type := 62, offset := 0, embedded := false, tag := "", pkgPath := "sync", byteOffset := 0 },         { name := "sema", type := 63, offset := 1, embedded := false, tag := "", pkgPath := "sync", byteOffset := 8 }]) := by kernel_rfl
@[simp] theorem Tq.underlying65 : Tq.prog.underlying 65 =   some     (TypeDesc.struct       #[{ name := "noCopy", type := 60, offset := 0, embedded := false, tag := "", pkgPath := "sync", byteOffset := 0 },         { name := "state", type := 62, offset := 0, embedded := false, tag := "", pkgPath := "sync", byteOffset := 0 },         { name := "sema", type := 63, offset := 1, embedded := false, tag := "", pkgPath := "sync", byteOffset := 8 }]) := by kernel_rfl
@[simp] theorem Tq.underlying66 : Tq.prog.underlying 66 = some (TypeDesc.func #[2] #[2] false) := by kernel_rfl
@[simp] theorem Tq.underlying67 : Tq.prog.underlying 67 = some (TypeDesc.pointer 53) := by kernel_rfl
@[simp] theorem Tq.underlying68 : Tq.prog.underlying 68 = some (TypeDesc.func #[69] #[2] false) := by kernel_rfl
@[simp] theorem Tq.underlying69 : Tq.prog.underlying 69 = some (TypeDesc.pointer 2) := by kernel_rfl
@[simp] theorem Tq.underlying7 : Tq.prog.underlying 7 =   some     (TypeDesc.struct       #[{ name := "x", type := 2, offset := 0, embedded := false, tag := "", pkgPath := "runtime", byteOffset := 0 },         { name := "y", type := 3, offset := 1, embedded := false, tag := "", pkgPath := "runtime", byteOffset := 8 },         { name := "signed", type := 4, offset := 2, embedded := false, tag := "", pkgPath := "runtime",           byteOffset := 16 },         { name := "code", type := 6, offset := 3, embedded := false, tag := "", pkgPath := "runtime",           byteOffset := 17 }]) := by kernel_rfl
@[simp] theorem Tq.underlying70 : Tq.prog.underlying 70 = some (TypeDesc.func #[3] #[40] false) := by kernel_rfl
@[simp] theorem Tq.underlying71 : Tq.prog.underlying 71 = some (TypeDesc.func #[3] #[26] false) := by kernel_rfl
@[simp] theorem Tq.underlying72 : Tq.prog.underlying 72 = some (TypeDesc.func #[63] #[3] false) := by kernel_rfl
@[simp] theorem Tq.underlying73 : Tq.prog.underlying 73 = some (TypeDesc.func #[39] #[3] false) := by kernel_rfl
@[simp] theorem Tq.underlying74 : Tq.prog.underlying 74 = some (TypeDesc.pointer 65) := by kernel_rfl
@[simp] theorem Tq.underlying75 : Tq.prog.underlying 75 = some (TypeDesc.func #[76] #[] false) := by kernel_rfl
@[simp] theorem Tq.underlying76 : Tq.prog.underlying 76 = some TypeDesc.unsafePointer := by kernel_rfl
@[simp] theorem Tq.underlying77 : Tq.prog.underlying 77 = some (TypeDesc.func #[] #[4] false) := by kernel_rfl
@[simp] theorem Tq.underlying78 : Tq.prog.underlying 78 = some (TypeDesc.int IntKind.i64) := by kernel_rfl
@[simp] theorem Tq.underlying79 : Tq.prog.underlying 79 = some (TypeDesc.func #[74] #[78] false) := by kernel_rfl
@[simp] theorem Tq.underlying8 : Tq.prog.underlying 8 =   some     (TypeDesc.struct       #[{ name := "x", type := 2, offset := 0, embedded := false, tag := "", pkgPath := "runtime", byteOffset := 0 },         { name := "y", type := 3, offset := 1, embedded := false, tag := "", pkgPath := "runtime", byteOffset := 8 },         { name := "signed", type := 4, offset := 2, embedded := false, tag := "", pkgPath := "runtime",           byteOffset := 16 },         { name := "code", type := 6, offset := 3, embedded := false, tag := "", pkgPath := "runtime",           byteOffset := 17 }]) := by kernel_rfl
@[simp] theorem Tq.underlying80 : Tq.prog.underlying 80 = some (TypeDesc.func #[9] #[] false) := by kernel_rfl
@[simp] theorem Tq.underlying81 : Tq.prog.underlying 81 = some (TypeDesc.func #[39] #[39] false) := by kernel_rfl
@[simp] theorem Tq.underlying82 : Tq.prog.underlying 82 = some (TypeDesc.pointer 63) := by kernel_rfl
@[simp] theorem Tq.underlying83 : Tq.prog.underlying 83 = some (TypeDesc.func #[] #[39] false) := by kernel_rfl
@[simp] theorem Tq.underlying84 : Tq.prog.underlying 84 = some (TypeDesc.func #[39] #[] false) := by kernel_rfl
@[simp] theorem Tq.underlying85 : Tq.prog.underlying 85 = some (TypeDesc.func #[74] #[] false) := by kernel_rfl
@[simp] theorem Tq.underlying86 : Tq.prog.underlying 86 = some (TypeDesc.func #[82, 4, 3] #[] false) := by kernel_rfl
@[simp] theorem Tq.underlying87 : Tq.prog.underlying 87 = some (TypeDesc.func #[74] #[4] false) := by kernel_rfl
@[simp] theorem Tq.underlying88 : Tq.prog.underlying 88 = some (TypeDesc.func #[39, 39] #[4] false) := by kernel_rfl
@[simp] theorem Tq.underlying89 : Tq.prog.underlying 89 = some (TypeDesc.func #[82, 4] #[] false) := by kernel_rfl
@[simp] theorem Tq.underlying9 : Tq.prog.underlying 9 = some TypeDesc.string := by kernel_rfl
@[simp] theorem Tq.underlying90 : Tq.prog.underlying 90 = some (TypeDesc.func #[69, 2] #[2] false) := by kernel_rfl
@[simp] theorem Tq.underlying91 : Tq.prog.underlying 91 = some (TypeDesc.pointer 62) := by kernel_rfl
@[simp] theorem Tq.underlying92 : Tq.prog.underlying 92 = some (TypeDesc.func #[93, 39] #[39] false) := by kernel_rfl
@[simp] theorem Tq.underlying93 : Tq.prog.underlying 93 = some (TypeDesc.pointer 39) := by kernel_rfl
@[simp] theorem Tq.underlying94 : Tq.prog.underlying 94 = some (TypeDesc.func #[93] #[39] false) := by kernel_rfl
@[simp] theorem Tq.underlying95 : Tq.prog.underlying 95 = some (TypeDesc.func #[93, 39] #[] false) := by kernel_rfl
@[simp] theorem Tq.underlying96 : Tq.prog.underlying 96 = some (TypeDesc.func #[93, 39, 39] #[4] false) := by kernel_rfl
@[simp] theorem Tq.underlying97 : Tq.prog.underlying 97 = some (TypeDesc.func #[] #[9] false) := by kernel_rfl
@[simp] theorem Tq.underlying98 : Tq.prog.underlying 98 =   some     (TypeDesc.struct       #[{ name := "_interface", type := 17, offset := 0, embedded := false, tag := "", pkgPath := "runtime",           byteOffset := 0 },         { name := "concrete", type := 17, offset := 1, embedded := false, tag := "", pkgPath := "runtime",           byteOffset := 8 },         { name := "asserted", type := 17, offset := 2, embedded := false, tag := "", pkgPath := "runtime",           byteOffset := 16 },         { name := "missingMethod", type := 9, offset := 3, embedded := false, tag := "", pkgPath := "runtime",           byteOffset := 24 }]) := by kernel_rfl
@[simp] theorem Tq.underlying99 : Tq.prog.underlying 99 =   some     (TypeDesc.struct       #[{ name := "_interface", type := 17, offset := 0, embedded := false, tag := "", pkgPath := "runtime",           byteOffset := 0 },         { name := "concrete", type := 17, offset := 1, embedded := false, tag := "", pkgPath := "runtime",           byteOffset := 8 },         { name := "asserted", type := 17, offset := 2, embedded := false, tag := "", pkgPath := "runtime",           byteOffset := 16 },         { name := "missingMethod", type := 9, offset := 3, embedded := false, tag := "", pkgPath := "runtime",           byteOffset := 24 }]) := by kernel_rfl
@[simp] theorem Tq.zeroValue0 : ∀ (w : World), Sem.run Tq.prog (zeroValue 0) w = Result.ok (Value.tuple #[]) w := by intros; kernel_rfl
@[simp] theorem Tq.zeroValue1 : ∀ (w : World), Sem.run Tq.prog (zeroValue 1) w = Result.ok Value.nilFunc w := by intros; kernel_rfl
@[simp] theorem Tq.zeroValue10 : ∀ (w : World), Sem.run Tq.prog (zeroValue 10) w = Result.ok (Value.string { data := #[] }) w := by intros; kernel_rfl
@[simp] theorem Tq.zeroValue100 : ∀ (w : World), Sem.run Tq.prog (zeroValue 100) w = Result.ok (Value.agg #[]) w := by intros; kernel_rfl
@[simp] theorem Tq.zeroValue101 : ∀ (w : World), Sem.run Tq.prog (zeroValue 101) w = Result.ok (Value.agg #[]) w := by intros; kernel_rfl
@[simp] theorem Tq.zeroValue102 : ∀ (w : World), Sem.run Tq.prog (zeroValue 102) w = Result.ok (Value.agg #[]) w := by intros; kernel_rfl
@[simp] theorem Tq.zeroValue103 : ∀ (w : World), Sem.run Tq.prog (zeroValue 103) w = Result.ok Value.nilFunc w := by intros; kernel_rfl
@[simp] theorem Tq.zeroValue104 : ∀ (w : World), Sem.run Tq.prog (zeroValue 104) w = Result.ok (Value.int IntKind.u8 0) w := by intros; kernel_rfl
@[simp] theorem Tq.zeroValue105 : ∀ (w : World), Sem.run Tq.prog (zeroValue 105) w = Result.ok (Value.int IntKind.u8 0) w := by intros; kernel_rfl
@[simp] theorem Tq.zeroValue106 : ∀ (w : World), Sem.run Tq.prog (zeroValue 106) w = Result.ok Value.nilFunc w := by intros; kernel_rfl
@[simp] theorem Tq.zeroValue107 : ∀ (w : World), Sem.run Tq.prog (zeroValue 107) w = Result.ok (Value.pointer none) w := by intros; kernel_rfl
@[simp] theorem Tq.zeroValue108 : ∀ (w : World), Sem.run Tq.prog (zeroValue 108) w = Result.ok (Value.int IntKind.i32 0) w := by intros; kernel_rfl
@[simp] theorem Tq.zeroValue109 : ∀ (w : World), Sem.run Tq.prog (zeroValue 109) w = Result.ok (Value.int IntKind.i32 0) w := by intros; kernel_rfl
@[simp] theorem Tq.zeroValue11 : ∀ (w : World), Sem.run Tq.prog (zeroValue 11) w = Result.ok (Value.string { data := #[] }) w := by intros; kernel_rfl
@[simp] theorem Tq.zeroValue110 : ∀ (w : World),   Sem.run Tq.prog (zeroValue 110) w =     Result.ok       (Value.agg         #[Value.int IntKind.u64 0, Value.int IntKind.u64 0, Value.int IntKind.u32 0, Value.int IntKind.u8 0,           Value.int IntKind.u8 0, Value.int IntKind.u8 0, Value.int IntKind.u8 0, Value.nilFunc, Value.pointer none,           Value.int IntKind.i32 0, Value.int IntKind.i32 0])       w := by intros; kernel_rfl
@[simp] theorem Tq.zeroValue111 : ∀ (w : World),   Sem.run Tq.prog (zeroValue 111) w =     Result.ok       (Value.agg         #[Value.int IntKind.u64 0, Value.int IntKind.u64 0, Value.int IntKind.u32 0, Value.int IntKind.u8 0,           Value.int IntKind.u8 0, Value.int IntKind.u8 0, Value.int IntKind.u8 0, Value.nilFunc, Value.pointer none,           Value.int IntKind.i32 0, Value.int IntKind.i32 0])       w := by intros; kernel_rfl
@[simp] theorem Tq.zeroValue12 : ∀ (w : World), Sem.run Tq.prog (zeroValue 12) w = Result.ok (Value.int IntKind.u64 0) w := by intros; kernel_rfl
@[simp] theorem Tq.zeroValue13 : ∀ (w : World),   Sem.run Tq.prog (zeroValue 13) w = Result.ok (Value.agg #[Value.string { data := #[] }, Value.int IntKind.u64 0]) w := by intros; kernel_rfl
@[simp] theorem Tq.zeroValue14 : ∀ (w : World),   Sem.run Tq.prog (zeroValue 14) w = Result.ok (Value.agg #[Value.string { data := #[] }, Value.int IntKind.u64 0]) w := by intros; kernel_rfl
@[simp] theorem Tq.zeroValue15 : ∀ (w : World), Sem.run Tq.prog (zeroValue 15) w = Result.ok (Value.pointer none) w := by intros; kernel_rfl
@[simp] theorem Tq.zeroValue16 : ∀ (w : World), Sem.run Tq.prog (zeroValue 16) w = Result.ok (Value.pointer none) w := by intros; kernel_rfl
@[simp] theorem Tq.zeroValue17 : ∀ (w : World), Sem.run Tq.prog (zeroValue 17) w = Result.ok (Value.pointer none) w := by intros; kernel_rfl
@[simp] theorem Tq.zeroValue18 : ∀ (w : World), Sem.run Tq.prog (zeroValue 18) w = Result.ok (Value.agg #[Value.pointer none]) w := by intros; kernel_rfl
@[simp] theorem Tq.zeroValue19 : ∀ (w : World), Sem.run Tq.prog (zeroValue 19) w = Result.ok (Value.agg #[Value.pointer none]) w := by intros; kernel_rfl
@[simp] theorem Tq.zeroValue2 : ∀ (w : World), Sem.run Tq.prog (zeroValue 2) w = Result.ok (Value.int IntKind.i64 0) w := by intros; kernel_rfl
@[simp] theorem Tq.zeroValue20 : ∀ (w : World), Sem.run Tq.prog (zeroValue 20) w = Result.ok Value.nilIface w := by intros; kernel_rfl
@[simp] theorem Tq.zeroValue21 : ∀ (w : World), Sem.run Tq.prog (zeroValue 21) w = Result.ok (Value.int IntKind.i32 0) w := by intros; kernel_rfl
@[simp] theorem Tq.zeroValue22 : ∀ (w : World),   Sem.run Tq.prog (zeroValue 22) w = Result.ok (Value.agg #[Value.int IntKind.i64 0, Value.int IntKind.i64 0]) w := by intros; kernel_rfl
@[simp] theorem Tq.zeroValue23 : ∀ (w : World),   Sem.run Tq.prog (zeroValue 23) w = Result.ok (Value.agg #[Value.int IntKind.i64 0, Value.int IntKind.i64 0]) w := by intros; kernel_rfl
@[simp] theorem Tq.zeroValue24 : ∀ (w : World), Sem.run Tq.prog (zeroValue 24) w = Result.ok (Value.slice none 0 0) w := by intros; kernel_rfl
@[simp] theorem Tq.zeroValue25 : ∀ (w : World), Sem.run Tq.prog (zeroValue 25) w = Result.ok Value.nilFunc w := by intros; kernel_rfl
@[simp] theorem Tq.zeroValue26 : ∀ (w : World),   Sem.run Tq.prog (zeroValue 26) w = Result.ok (Value.agg #[Value.int IntKind.i64 0, Value.int IntKind.i64 0]) w := by intros; kernel_rfl
@[simp] theorem Tq.zeroValue27 : ∀ (w : World), Sem.run Tq.prog (zeroValue 27) w = Result.ok Value.nilFunc w := by intros; kernel_rfl
@[simp] theorem Tq.zeroValue28 : ∀ (w : World), Sem.run Tq.prog (zeroValue 28) w = Result.ok Value.nilFunc w := by intros; kernel_rfl
@[simp] theorem Tq.zeroValue29 : ∀ (w : World), Sem.run Tq.prog (zeroValue 29) w = Result.ok Value.nilFunc w := by intros; kernel_rfl
@[simp] theorem Tq.zeroValue3 : ∀ (w : World), Sem.run Tq.prog (zeroValue 3) w = Result.ok (Value.int IntKind.i64 0) w := by intros; kernel_rfl
@[simp] theorem Tq.zeroValue30 : ∀ (w : World), Sem.run Tq.prog (zeroValue 30) w = Result.ok Value.nilFunc w := by intros; kernel_rfl
@[simp] theorem Tq.zeroValue31 : ∀ (w : World), Sem.run Tq.prog (zeroValue 31) w = Result.ok Value.nilFunc w := by intros; kernel_rfl
@[simp] theorem Tq.zeroValue32 : ∀ (w : World), Sem.run Tq.prog (zeroValue 32) w = Result.ok Value.nilFunc w := by intros; kernel_rfl
@[simp] theorem Tq.zeroValue33 : ∀ (w : World),   Sem.run Tq.prog (zeroValue 33) w =     Result.ok (Value.tuple #[Value.agg #[Value.int IntKind.i64 0, Value.int IntKind.i64 0], Value.bool false]) w := by intros; kernel_rfl
@[simp] theorem Tq.zeroValue34 : ∀ (w : World), Sem.run Tq.prog (zeroValue 34) w = Result.ok Value.nilFunc w := by intros; kernel_rfl
@[simp] theorem Tq.zeroValue35 : ∀ (w : World), Sem.run Tq.prog (zeroValue 35) w = Result.ok Value.nilFunc w := by intros; kernel_rfl
@[simp] theorem Tq.zeroValue36 : ∀ (w : World), Sem.run Tq.prog (zeroValue 36) w = Result.ok (Value.tuple #[Value.slice none 0 0, Value.bool false]) w := by intros; kernel_rfl
@[simp] theorem Tq.zeroValue37 : ∀ (w : World), Sem.run Tq.prog (zeroValue 37) w = Result.ok Value.nilFunc w := by intros; kernel_rfl
@[simp] theorem Tq.zeroValue38 : ∀ (w : World), Sem.run Tq.prog (zeroValue 38) w = Result.ok Value.nilFunc w := by intros; kernel_rfl
@[simp] theorem Tq.zeroValue39 : ∀ (w : World), Sem.run Tq.prog (zeroValue 39) w = Result.ok (Value.int IntKind.u64 0) w := by intros; kernel_rfl
@[simp] theorem Tq.zeroValue4 : ∀ (w : World), Sem.run Tq.prog (zeroValue 4) w = Result.ok (Value.bool false) w := by intros; kernel_rfl
@[simp] theorem Tq.zeroValue40 : ∀ (w : World), Sem.run Tq.prog (zeroValue 40) w = Result.ok (Value.int IntKind.u64 0) w := by intros; kernel_rfl
@[simp] theorem Tq.zeroValue41 : ∀ (w : World), Sem.run Tq.prog (zeroValue 41) w = Result.ok Value.nilFunc w := by intros; kernel_rfl
@[simp] theorem Tq.zeroValue42 : ∀ (w : World), Sem.run Tq.prog (zeroValue 42) w = Result.ok Value.nilFunc w := by intros; kernel_rfl
@[simp] theorem Tq.zeroValue43 : ∀ (w : World), Sem.run Tq.prog (zeroValue 43) w = Result.ok Value.nilFunc w := by intros; kernel_rfl
@[simp] theorem Tq.zeroValue44 : ∀ (w : World), Sem.run Tq.prog (zeroValue 44) w = Result.ok (Value.slice none 0 0) w := by intros; kernel_rfl
@[simp] theorem Tq.zeroValue45 : ∀ (w : World),   Sem.run Tq.prog (zeroValue 45) w = Result.ok (Value.agg #[Value.int IntKind.u64 0, Value.slice none 0 0]) w := by intros; kernel_rfl
@[simp] theorem Tq.zeroValue46 : ∀ (w : World),   Sem.run Tq.prog (zeroValue 46) w = Result.ok (Value.agg #[Value.int IntKind.u64 0, Value.slice none 0 0]) w := by intros; kernel_rfl
@[simp] theorem Tq.zeroValue47 : ∀ (w : World), Sem.run Tq.prog (zeroValue 47) w = Result.ok Value.nilFunc w := by intros; kernel_rfl
@[simp] theorem Tq.zeroValue48 : ∀ (w : World), Sem.run Tq.prog (zeroValue 48) w = Result.ok Value.nilFunc w := by intros; kernel_rfl
@[simp] theorem Tq.zeroValue49 : ∀ (w : World), Sem.run Tq.prog (zeroValue 49) w = Result.ok (Value.agg #[]) w := by intros; kernel_rfl
@[simp] theorem Tq.zeroValue5 : ∀ (w : World), Sem.run Tq.prog (zeroValue 5) w = Result.ok (Value.int IntKind.u8 0) w := by intros; kernel_rfl
@[simp] theorem Tq.zeroValue50 : ∀ (w : World), Sem.run Tq.prog (zeroValue 50) w = Result.ok (Value.agg #[]) w := by intros; kernel_rfl
@[simp] theorem Tq.zeroValue51 : ∀ (w : World), Sem.run Tq.prog (zeroValue 51) w = Result.ok (Value.agg #[]) w := by intros; kernel_rfl
@[simp] theorem Tq.zeroValue52 : ∀ (w : World), Sem.run Tq.prog (zeroValue 52) w = Result.ok (Value.agg #[Value.int IntKind.i64 0]) w := by intros; kernel_rfl
@[simp] theorem Tq.zeroValue53 : ∀ (w : World), Sem.run Tq.prog (zeroValue 53) w = Result.ok (Value.agg #[Value.int IntKind.i64 0]) w := by intros; kernel_rfl
@[simp] theorem Tq.zeroValue54 : ∀ (w : World), Sem.run Tq.prog (zeroValue 54) w = Result.ok Value.nilFunc w := by intros; kernel_rfl
@[simp] theorem Tq.zeroValue55 : ∀ (w : World), Sem.run Tq.prog (zeroValue 55) w = Result.ok Value.nilFunc w := by intros; kernel_rfl
@[simp] theorem Tq.zeroValue56 : ∀ (w : World), Sem.run Tq.prog (zeroValue 56) w = Result.ok (Value.int IntKind.u64 0) w := by intros; kernel_rfl
@[simp] theorem Tq.zeroValue57 : ∀ (w : World), Sem.run Tq.prog (zeroValue 57) w = Result.ok Value.nilFunc w := by intros; kernel_rfl
@[simp] theorem Tq.zeroValue58 : ∀ (w : World), Sem.run Tq.prog (zeroValue 58) w = Result.ok Value.nilFunc w := by intros; kernel_rfl
@[simp] theorem Tq.zeroValue59 : ∀ (w : World), Sem.run Tq.prog (zeroValue 59) w = Result.ok Value.nilFunc w := by intros; kernel_rfl
@[simp] theorem Tq.zeroValue6 : ∀ (w : World), Sem.run Tq.prog (zeroValue 6) w = Result.ok (Value.int IntKind.u8 0) w := by intros; kernel_rfl
@[simp] theorem Tq.zeroValue60 : ∀ (w : World), Sem.run Tq.prog (zeroValue 60) w = Result.ok (Value.agg #[]) w := by intros; kernel_rfl
@[simp] theorem Tq.zeroValue61 : ∀ (w : World), Sem.run Tq.prog (zeroValue 61) w = Result.ok (Value.agg #[Value.int IntKind.u64 0]) w := by intros; kernel_rfl
@[simp] theorem Tq.zeroValue62 : ∀ (w : World), Sem.run Tq.prog (zeroValue 62) w = Result.ok (Value.agg #[Value.int IntKind.u64 0]) w := by intros; kernel_rfl
@[simp] theorem Tq.zeroValue63 : ∀ (w : World), Sem.run Tq.prog (zeroValue 63) w = Result.ok (Value.int IntKind.u32 0) w := by intros; kernel_rfl
@[simp] theorem Tq.zeroValue64 : ∀ (w : World),   Sem.run Tq.prog (zeroValue 64) w = Result.ok (Value.agg #[Value.int IntKind.u64 0, Value.int IntKind.u32 0]) w := by intros; kernel_rfl
@[simp] theorem Tq.zeroValue65 : ∀ (w : World),   Sem.run Tq.prog (zeroValue 65) w = Result.ok (Value.agg #[Value.int IntKind.u64 0, Value.int IntKind.u32 0]) w := by intros; kernel_rfl
@[simp] theorem Tq.zeroValue66 : ∀ (w : World), Sem.run Tq.prog (zeroValue 66) w = Result.ok Value.nilFunc w := by intros; kernel_rfl
@[simp] theorem Tq.zeroValue67 : ∀ (w : World), Sem.run Tq.prog (zeroValue 67) w = Result.ok (Value.pointer none) w := by intros; kernel_rfl
@[simp] theorem Tq.zeroValue68 : ∀ (w : World), Sem.run Tq.prog (zeroValue 68) w = Result.ok Value.nilFunc w := by intros; kernel_rfl
@[simp] theorem Tq.zeroValue69 : ∀ (w : World), Sem.run Tq.prog (zeroValue 69) w = Result.ok (Value.pointer none) w := by intros; kernel_rfl
@[simp] theorem Tq.zeroValue7 : ∀ (w : World),   Sem.run Tq.prog (zeroValue 7) w =     Result.ok (Value.agg #[Value.int IntKind.i64 0, Value.int IntKind.i64 0, Value.bool false, Value.int IntKind.u8 0])       w := by intros; kernel_rfl
@[simp] theorem Tq.zeroValue70 : ∀ (w : World), Sem.run Tq.prog (zeroValue 70) w = Result.ok Value.nilFunc w := by intros; kernel_rfl
@[simp] theorem Tq.zeroValue71 : ∀ (w : World), Sem.run Tq.prog (zeroValue 71) w = Result.ok Value.nilFunc w := by intros; kernel_rfl
@[simp] theorem Tq.zeroValue72 : ∀ (w : World), Sem.run Tq.prog (zeroValue 72) w = Result.ok Value.nilFunc w := by intros; kernel_rfl
@[simp] theorem Tq.zeroValue73 : ∀ (w : World), Sem.run Tq.prog (zeroValue 73) w = Result.ok Value.nilFunc w := by intros; kernel_rfl
@[simp] theorem Tq.zeroValue74 : ∀ (w : World), Sem.run Tq.prog (zeroValue 74) w = Result.ok (Value.pointer none) w := by intros; kernel_rfl
@[simp] theorem Tq.zeroValue75 : ∀ (w : World), Sem.run Tq.prog (zeroValue 75) w = Result.ok Value.nilFunc w := by intros; kernel_rfl
@[simp] theorem Tq.zeroValue76 : ∀ (w : World), Sem.run Tq.prog (zeroValue 76) w = Result.ok (Value.pointer none) w := by intros; kernel_rfl
@[simp] theorem Tq.zeroValue77 : ∀ (w : World), Sem.run Tq.prog (zeroValue 77) w = Result.ok Value.nilFunc w := by intros; kernel_rfl
@[simp] theorem Tq.zeroValue78 : ∀ (w : World), Sem.run Tq.prog (zeroValue 78) w = Result.ok (Value.int IntKind.i64 0) w := by intros; kernel_rfl
@[simp] theorem Tq.zeroValue79 : ∀ (w : World), Sem.run Tq.prog (zeroValue 79) w = Result.ok Value.nilFunc w := by intros; kernel_rfl
@[simp] theorem Tq.zeroValue8 : ∀ (w : World),   Sem.run Tq.prog (zeroValue 8) w =     Result.ok (Value.agg #[Value.int IntKind.i64 0, Value.int IntKind.i64 0, Value.bool false, Value.int IntKind.u8 0])       w := by intros; kernel_rfl
@[simp] theorem Tq.zeroValue80 : ∀ (w : World), Sem.run Tq.prog (zeroValue 80) w = Result.ok Value.nilFunc w := by intros; kernel_rfl
@[simp] theorem Tq.zeroValue81 : ∀ (w : World), Sem.run Tq.prog (zeroValue 81) w = Result.ok Value.nilFunc w := by intros; kernel_rfl
@[simp] theorem Tq.zeroValue82 : ∀ (w : World), Sem.run Tq.prog (zeroValue 82) w = Result.ok (Value.pointer none) w := by intros; kernel_rfl
@[simp] theorem Tq.zeroValue83 : ∀ (w : World), Sem.run Tq.prog (zeroValue 83) w = Result.ok Value.nilFunc w := by intros; kernel_rfl
@[simp] theorem Tq.zeroValue84 : ∀ (w : World), Sem.run Tq.prog (zeroValue 84) w = Result.ok Value.nilFunc w := by intros; kernel_rfl
@[simp] theorem Tq.zeroValue85 : ∀ (w : World), Sem.run Tq.prog (zeroValue 85) w = Result.ok Value.nilFunc w := by intros; kernel_rfl
@[simp] theorem Tq.zeroValue86 : ∀ (w : World), Sem.run Tq.prog (zeroValue 86) w = Result.ok Value.nilFunc w := by intros; kernel_rfl
@[simp] theorem Tq.zeroValue87 : ∀ (w : World), Sem.run Tq.prog (zeroValue 87) w = Result.ok Value.nilFunc w := by intros; kernel_rfl
@[simp] theorem Tq.zeroValue88 : ∀ (w : World), Sem.run Tq.prog (zeroValue 88) w = Result.ok Value.nilFunc w := by intros; kernel_rfl
@[simp] theorem Tq.zeroValue89 : ∀ (w : World), Sem.run Tq.prog (zeroValue 89) w = Result.ok Value.nilFunc w := by intros; kernel_rfl
@[simp] theorem Tq.zeroValue9 : ∀ (w : World), Sem.run Tq.prog (zeroValue 9) w = Result.ok (Value.string { data := #[] }) w := by intros; kernel_rfl
@[simp] theorem Tq.zeroValue90 : ∀ (w : World), Sem.run Tq.prog (zeroValue 90) w = Result.ok Value.nilFunc w := by intros; kernel_rfl
@[simp] theorem Tq.zeroValue91 : ∀ (w : World), Sem.run Tq.prog (zeroValue 91) w = Result.ok (Value.pointer none) w := by intros; kernel_rfl
@[simp] theorem Tq.zeroValue92 : ∀ (w : World), Sem.run Tq.prog (zeroValue 92) w = Result.ok Value.nilFunc w := by intros; kernel_rfl
@[simp] theorem Tq.zeroValue93 : ∀ (w : World), Sem.run Tq.prog (zeroValue 93) w = Result.ok (Value.pointer none) w := by intros; kernel_rfl
@[simp] theorem Tq.zeroValue94 : ∀ (w : World), Sem.run Tq.prog (zeroValue 94) w = Result.ok Value.nilFunc w := by intros; kernel_rfl
@[simp] theorem Tq.zeroValue95 : ∀ (w : World), Sem.run Tq.prog (zeroValue 95) w = Result.ok Value.nilFunc w := by intros; kernel_rfl
@[simp] theorem Tq.zeroValue96 : ∀ (w : World), Sem.run Tq.prog (zeroValue 96) w = Result.ok Value.nilFunc w := by intros; kernel_rfl
@[simp] theorem Tq.zeroValue97 : ∀ (w : World), Sem.run Tq.prog (zeroValue 97) w = Result.ok Value.nilFunc w := by intros; kernel_rfl
@[simp] theorem Tq.zeroValue98 : ∀ (w : World),   Sem.run Tq.prog (zeroValue 98) w =     Result.ok (Value.agg #[Value.pointer none, Value.pointer none, Value.pointer none, Value.string { data := #[] }]) w := by intros; kernel_rfl
@[simp] theorem Tq.zeroValue99 : ∀ (w : World),   Sem.run Tq.prog (zeroValue 99) w =     Result.ok (Value.agg #[Value.pointer none, Value.pointer none, Value.pointer none, Value.string { data := #[] }]) w := by intros; kernel_rfl
@[simp] theorem Tq.nfree0 : Tq.f0.nfree = 0 := by kernel_rfl
@[simp] theorem Tq.nfree1 : Tq.f1.nfree = 0 := by kernel_rfl
@[simp] theorem Tq.nfree10 : Tq.f10.nfree = 0 := by kernel_rfl
@[simp] theorem Tq.nfree100 : Tq.f100.nfree = 0 := by kernel_rfl
@[simp] theorem Tq.nfree101 : Tq.f101.nfree = 0 := by kernel_rfl
@[simp] theorem Tq.nfree102 : Tq.f102.nfree = 0 := by kernel_rfl
@[simp] theorem Tq.nfree103 : Tq.f103.nfree = 0 := by kernel_rfl
@[simp] theorem Tq.nfree104 : Tq.f104.nfree = 0 := by kernel_rfl
@[simp] theorem Tq.nfree105 : Tq.f105.nfree = 0 := by kernel_rfl
@[simp] theorem Tq.nfree106 : Tq.f106.nfree = 0 := by kernel_rfl
@[simp] theorem Tq.nfree107 : Tq.f107.nfree = 0 := by kernel_rfl
@[simp] theorem Tq.nfree108 : Tq.f108.nfree = 0 := by kernel_rfl
@[simp] theorem Tq.nfree109 : Tq.f109.nfree = 0 := by kernel_rfl
@[simp] theorem Tq.nfree11 : Tq.f11.nfree = 0 := by kernel_rfl
@[simp] theorem Tq.nfree110 : Tq.f110.nfree = 0 := by kernel_rfl
@[simp] theorem Tq.nfree12 : Tq.f12.nfree = 0 := by kernel_rfl
@[simp] theorem Tq.nfree13 : Tq.f13.nfree = 0 := by kernel_rfl
@[simp] theorem Tq.nfree14 : Tq.f14.nfree = 0 := by kernel_rfl
@[simp] theorem Tq.nfree15 : Tq.f15.nfree = 0 := by kernel_rfl
@[simp] theorem Tq.nfree16 : Tq.f16.nfree = 0 := by kernel_rfl
@[simp] theorem Tq.nfree17 : Tq.f17.nfree = 0 := by kernel_rfl
@[simp] theorem Tq.nfree18 : Tq.f18.nfree = 0 := by kernel_rfl
@[simp] theorem Tq.nfree19 : Tq.f19.nfree = 0 := by kernel_rfl
@[simp] theorem Tq.nfree2 : Tq.f2.nfree = 0 := by kernel_rfl
@[simp] theorem Tq.nfree20 : Tq.f20.nfree = 0 := by kernel_rfl
@[simp] theorem Tq.nfree21 : Tq.f21.nfree = 0 := by kernel_rfl
@[simp] theorem Tq.nfree22 : Tq.f22.nfree = 0 := by kernel_rfl
@[simp] theorem Tq.nfree23 : Tq.f23.nfree = 0 := by kernel_rfl
@[simp] theorem Tq.nfree24 : Tq.f24.nfree = 0 := by kernel_rfl
@[simp] theorem Tq.nfree25 : Tq.f25.nfree = 0 := by kernel_rfl
@[simp] theorem Tq.nfree26 : Tq.f26.nfree = 0 := by kernel_rfl
@[simp] theorem Tq.nfree27 : Tq.f27.nfree = 0 := by kernel_rfl
@[simp] theorem Tq.nfree28 : Tq.f28.nfree = 0 := by kernel_rfl
@[simp] theorem Tq.nfree29 : Tq.f29.nfree = 0 := by kernel_rfl
@[simp] theorem Tq.nfree3 : Tq.f3.nfree = 0 := by kernel_rfl
@[simp] theorem Tq.nfree30 : Tq.f30.nfree = 0 := by kernel_rfl
@[simp] theorem Tq.nfree31 : Tq.f31.nfree = 0 := by kernel_rfl
@[simp] theorem Tq.nfree32 : Tq.f32.nfree = 0 := by kernel_rfl
@[simp] theorem Tq.nfree33 : Tq.f33.nfree = 0 := by kernel_rfl
@[simp] theorem Tq.nfree34 : Tq.f34.nfree = 0 := by kernel_rfl
@[simp] theorem Tq.nfree35 : Tq.f35.nfree = 0 := by kernel_rfl
@[simp] theorem Tq.nfree36 : Tq.f36.nfree = 0 := by kernel_rfl
@[simp] theorem Tq.nfree37 : Tq.f37.nfree = 0 := by kernel_rfl
@[simp] theorem Tq.nfree38 : Tq.f38.nfree = 0 := by kernel_rfl
@[simp] theorem Tq.nfree39 : Tq.f39.nfree = 1 := by kernel_rfl
@[simp] theorem Tq.nfree4 : Tq.f4.nfree = 0 := by kernel_rfl
@[simp] theorem Tq.nfree40 : Tq.f40.nfree = 0 := by kernel_rfl
@[simp] theorem Tq.nfree41 : Tq.f41.nfree = 0 := by kernel_rfl
@[simp] theorem Tq.nfree42 : Tq.f42.nfree = 0 := by kernel_rfl
@[simp] theorem Tq.nfree43 : Tq.f43.nfree = 0 := by kernel_rfl
@[simp] theorem Tq.nfree44 : Tq.f44.nfree = 0 := by kernel_rfl
@[simp] theorem Tq.nfree45 : Tq.f45.nfree = 0 := by kernel_rfl
@[simp] theorem Tq.nfree46 : Tq.f46.nfree = 1 := by kernel_rfl
@[simp] theorem Tq.nfree47 : Tq.f47.nfree = 0 := by kernel_rfl
@[simp] theorem Tq.nfree48 : Tq.f48.nfree = 0 := by kernel_rfl
@[simp] theorem Tq.nfree49 : Tq.f49.nfree = 0 := by kernel_rfl
@[simp] theorem Tq.nfree5 : Tq.f5.nfree = 0 := by kernel_rfl
@[simp] theorem Tq.nfree50 : Tq.f50.nfree = 0 := by kernel_rfl
@[simp] theorem Tq.nfree51 : Tq.f51.nfree = 0 := by kernel_rfl
@[simp] theorem Tq.nfree52 : Tq.f52.nfree = 0 := by kernel_rfl
@[simp] theorem Tq.nfree53 : Tq.f53.nfree = 0 := by kernel_rfl
@[simp] theorem Tq.nfree54 : Tq.f54.nfree = 0 := by kernel_rfl
@[simp] theorem Tq.nfree55 : Tq.f55.nfree = 3 := by kernel_rfl
@[simp] theorem Tq.nfree56 : Tq.f56.nfree = 0 := by kernel_rfl
@[simp] theorem Tq.nfree57 : Tq.f57.nfree = 1 := by kernel_rfl
@[simp] theorem Tq.nfree58 : Tq.f58.nfree = 0 := by kernel_rfl
@[simp] theorem Tq.nfree59 : Tq.f59.nfree = 0 := by kernel_rfl
@[simp] theorem Tq.nfree6 : Tq.f6.nfree = 0 := by kernel_rfl
@[simp] theorem Tq.nfree60 : Tq.f60.nfree = 3 := by kernel_rfl
@[simp] theorem Tq.nfree61 : Tq.f61.nfree = 0 := by kernel_rfl
@[simp] theorem Tq.nfree62 : Tq.f62.nfree = 0 := by kernel_rfl
@[simp] theorem Tq.nfree63 : Tq.f63.nfree = 0 := by kernel_rfl
@[simp] theorem Tq.nfree64 : Tq.f64.nfree = 0 := by kernel_rfl
@[simp] theorem Tq.nfree65 : Tq.f65.nfree = 0 := by kernel_rfl
@[simp] theorem Tq.nfree66 : Tq.f66.nfree = 0 := by kernel_rfl
@[simp] theorem Tq.nfree67 : Tq.f67.nfree = 0 := by kernel_rfl
@[simp] theorem Tq.nfree68 : Tq.f68.nfree = 0 := by kernel_rfl
@[simp] theorem Tq.nfree69 : Tq.f69.nfree = 0 := by kernel_rfl
@[simp] theorem Tq.nfree7 : Tq.f7.nfree = 0 := by kernel_rfl
@[simp] theorem Tq.nfree70 : Tq.f70.nfree = 0 := by kernel_rfl
@[simp] theorem Tq.nfree71 : Tq.f71.nfree = 0 := by kernel_rfl
@[simp] theorem Tq.nfree72 : Tq.f72.nfree = 0 := by kernel_rfl
@[simp] theorem Tq.nfree73 : Tq.f73.nfree = 0 := by kernel_rfl
@[simp] theorem Tq.nfree74 : Tq.f74.nfree = 0 := by kernel_rfl
@[simp] theorem Tq.nfree75 : Tq.f75.nfree = 0 := by kernel_rfl
@[simp] theorem Tq.nfree76 : Tq.f76.nfree = 0 := by kernel_rfl
@[simp] theorem Tq.nfree77 : Tq.f77.nfree = 0 := by kernel_rfl
@[simp] theorem Tq.nfree78 : Tq.f78.nfree = 0 := by kernel_rfl
@[simp] theorem Tq.nfree79 : Tq.f79.nfree = 0 := by kernel_rfl
@[simp] theorem Tq.nfree8 : Tq.f8.nfree = 0 := by kernel_rfl
@[simp] theorem Tq.nfree80 : Tq.f80.nfree = 0 := by kernel_rfl
@[simp] theorem Tq.nfree81 : Tq.f81.nfree = 0 := by kernel_rfl
@[simp] theorem Tq.nfree82 : Tq.f82.nfree = 0 := by kernel_rfl
@[simp] theorem Tq.nfree83 : Tq.f83.nfree = 0 := by kernel_rfl
@[simp] theorem Tq.nfree84 : Tq.f84.nfree = 0 := by kernel_rfl
@[simp] theorem Tq.nfree85 : Tq.f85.nfree = 0 := by kernel_rfl
@[simp] theorem Tq.nfree86 : Tq.f86.nfree = 0 := by kernel_rfl
@[simp] theorem Tq.nfree87 : Tq.f87.nfree = 0 := by kernel_rfl
@[simp] theorem Tq.nfree88 : Tq.f88.nfree = 0 := by kernel_rfl
@[simp] theorem Tq.nfree89 : Tq.f89.nfree = 0 := by kernel_rfl
@[simp] theorem Tq.nfree9 : Tq.f9.nfree = 0 := by kernel_rfl
@[simp] theorem Tq.nfree90 : Tq.f90.nfree = 0 := by kernel_rfl
@[simp] theorem Tq.nfree91 : Tq.f91.nfree = 0 := by kernel_rfl
@[simp] theorem Tq.nfree92 : Tq.f92.nfree = 0 := by kernel_rfl
@[simp] theorem Tq.nfree93 : Tq.f93.nfree = 0 := by kernel_rfl
@[simp] theorem Tq.nfree94 : Tq.f94.nfree = 0 := by kernel_rfl
@[simp] theorem Tq.nfree95 : Tq.f95.nfree = 0 := by kernel_rfl
@[simp] theorem Tq.nfree96 : Tq.f96.nfree = 0 := by kernel_rfl
@[simp] theorem Tq.nfree97 : Tq.f97.nfree = 0 := by kernel_rfl
@[simp] theorem Tq.nfree98 : Tq.f98.nfree = 0 := by kernel_rfl
@[simp] theorem Tq.nfree99 : Tq.f99.nfree = 0 := by kernel_rfl
@[simp] theorem Tq.ntmps0 : Tq.f0.ntmps = 0 := by kernel_rfl
@[simp] theorem Tq.ntmps1 : Tq.f1.ntmps = 0 := by kernel_rfl
@[simp] theorem Tq.ntmps10 : Tq.f10.ntmps = 44 := by kernel_rfl
@[simp] theorem Tq.ntmps100 : Tq.f100.ntmps = 1 := by kernel_rfl
@[simp] theorem Tq.ntmps101 : Tq.f101.ntmps = 1 := by kernel_rfl
@[simp] theorem Tq.ntmps102 : Tq.f102.ntmps = 1 := by kernel_rfl
@[simp] theorem Tq.ntmps103 : Tq.f103.ntmps = 1 := by kernel_rfl
@[simp] theorem Tq.ntmps104 : Tq.f104.ntmps = 1 := by kernel_rfl
@[simp] theorem Tq.ntmps105 : Tq.f105.ntmps = 1 := by kernel_rfl
@[simp] theorem Tq.ntmps106 : Tq.f106.ntmps = 1 := by kernel_rfl
@[simp] theorem Tq.ntmps107 : Tq.f107.ntmps = 1 := by kernel_rfl
@[simp] theorem Tq.ntmps108 : Tq.f108.ntmps = 1 := by kernel_rfl
@[simp] theorem Tq.ntmps109 : Tq.f109.ntmps = 1 := by kernel_rfl
@[simp] theorem Tq.ntmps11 : Tq.f11.ntmps = 66 := by kernel_rfl
@[simp] theorem Tq.ntmps110 : Tq.f110.ntmps = 1 := by kernel_rfl
@[simp] theorem Tq.ntmps12 : Tq.f12.ntmps = 44 := by kernel_rfl
@[simp] theorem Tq.ntmps13 : Tq.f13.ntmps = 11 := by kernel_rfl
@[simp] theorem Tq.ntmps14 : Tq.f14.ntmps = 14 := by kernel_rfl
@[simp] theorem Tq.ntmps15 : Tq.f15.ntmps = 26 := by kernel_rfl
@[simp] theorem Tq.ntmps16 : Tq.f16.ntmps = 19 := by kernel_rfl
@[simp] theorem Tq.ntmps17 : Tq.f17.ntmps = 21 := by kernel_rfl
@[simp] theorem Tq.ntmps18 : Tq.f18.ntmps = 34 := by kernel_rfl
@[simp] theorem Tq.ntmps19 : Tq.f19.ntmps = 27 := by kernel_rfl
@[simp] theorem Tq.ntmps2 : Tq.f2.ntmps = 1 := by kernel_rfl
@[simp] theorem Tq.ntmps20 : Tq.f20.ntmps = 42 := by kernel_rfl
@[simp] theorem Tq.ntmps21 : Tq.f21.ntmps = 35 := by kernel_rfl
@[simp] theorem Tq.ntmps22 : Tq.f22.ntmps = 32 := by kernel_rfl
@[simp] theorem Tq.ntmps23 : Tq.f23.ntmps = 13 := by kernel_rfl
@[simp] theorem Tq.ntmps24 : Tq.f24.ntmps = 15 := by kernel_rfl
@[simp] theorem Tq.ntmps25 : Tq.f25.ntmps = 48 := by kernel_rfl
@[simp] theorem Tq.ntmps26 : Tq.f26.ntmps = 14 := by kernel_rfl
@[simp] theorem Tq.ntmps27 : Tq.f27.ntmps = 30 := by kernel_rfl
@[simp] theorem Tq.ntmps28 : Tq.f28.ntmps = 33 := by kernel_rfl
@[simp] theorem Tq.ntmps29 : Tq.f29.ntmps = 42 := by kernel_rfl
@[simp] theorem Tq.ntmps3 : Tq.f3.ntmps = 44 := by kernel_rfl
@[simp] theorem Tq.ntmps30 : Tq.f30.ntmps = 33 := by kernel_rfl
@[simp] theorem Tq.ntmps31 : Tq.f31.ntmps = 52 := by kernel_rfl
@[simp] theorem Tq.ntmps32 : Tq.f32.ntmps = 42 := by kernel_rfl
@[simp] theorem Tq.ntmps33 : Tq.f33.ntmps = 41 := by kernel_rfl
@[simp] theorem Tq.ntmps34 : Tq.f34.ntmps = 30 := by kernel_rfl
@[simp] theorem Tq.ntmps35 : Tq.f35.ntmps = 16 := by kernel_rfl
@[simp] theorem Tq.ntmps36 : Tq.f36.ntmps = 7 := by kernel_rfl
@[simp] theorem Tq.ntmps37 : Tq.f37.ntmps = 14 := by kernel_rfl
@[simp] theorem Tq.ntmps38 : Tq.f38.ntmps = 14 := by kernel_rfl
@[simp] theorem Tq.ntmps39 : Tq.f39.ntmps = 15 := by kernel_rfl
@[simp] theorem Tq.ntmps4 : Tq.f4.ntmps = 14 := by kernel_rfl
@[simp] theorem Tq.ntmps40 : Tq.f40.ntmps = 6 := by kernel_rfl
@[simp] theorem Tq.ntmps41 : Tq.f41.ntmps = 10 := by kernel_rfl
@[simp] theorem Tq.ntmps42 : Tq.f42.ntmps = 6 := by kernel_rfl
@[simp] theorem Tq.ntmps43 : Tq.f43.ntmps = 7 := by kernel_rfl
@[simp] theorem Tq.ntmps44 : Tq.f44.ntmps = 5 := by kernel_rfl
@[simp] theorem Tq.ntmps45 : Tq.f45.ntmps = 8 := by kernel_rfl
@[simp] theorem Tq.ntmps46 : Tq.f46.ntmps = 16 := by kernel_rfl
@[simp] theorem Tq.ntmps47 : Tq.f47.ntmps = 15 := by kernel_rfl
@[simp] theorem Tq.ntmps48 : Tq.f48.ntmps = 6 := by kernel_rfl
@[simp] theorem Tq.ntmps49 : Tq.f49.ntmps = 14 := by kernel_rfl
@[simp] theorem Tq.ntmps5 : Tq.f5.ntmps = 14 := by kernel_rfl
@[simp] theorem Tq.ntmps50 : Tq.f50.ntmps = 27 := by kernel_rfl
@[simp] theorem Tq.ntmps51 : Tq.f51.ntmps = 7 := by kernel_rfl
@[simp] theorem Tq.ntmps52 : Tq.f52.ntmps = 15 := by kernel_rfl
@[simp] theorem Tq.ntmps53 : Tq.f53.ntmps = 9 := by kernel_rfl
@[simp] theorem Tq.ntmps54 : Tq.f54.ntmps = 9 := by kernel_rfl
@[simp] theorem Tq.ntmps55 : Tq.f55.ntmps = 23 := by kernel_rfl
@[simp] theorem Tq.ntmps56 : Tq.f56.ntmps = 23 := by kernel_rfl
@[simp] theorem Tq.ntmps57 : Tq.f57.ntmps = 9 := by kernel_rfl
@[simp] theorem Tq.ntmps58 : Tq.f58.ntmps = 8 := by kernel_rfl
@[simp] theorem Tq.ntmps59 : Tq.f59.ntmps = 117 := by kernel_rfl
@[simp] theorem Tq.ntmps6 : Tq.f6.ntmps = 28 := by kernel_rfl
@[simp] theorem Tq.ntmps60 : Tq.f60.ntmps = 6 := by kernel_rfl
@[simp] theorem Tq.ntmps61 : Tq.f61.ntmps = 4 := by kernel_rfl
@[simp] theorem Tq.ntmps62 : Tq.f62.ntmps = 84 := by kernel_rfl
@[simp] theorem Tq.ntmps63 : Tq.f63.ntmps = 10 := by kernel_rfl
@[simp] theorem Tq.ntmps64 : Tq.f64.ntmps = 1 := by kernel_rfl
@[simp] theorem Tq.ntmps65 : Tq.f65.ntmps = 7 := by kernel_rfl
@[simp] theorem Tq.ntmps66 : Tq.f66.ntmps = 9 := by kernel_rfl
@[simp] theorem Tq.ntmps67 : Tq.f67.ntmps = 9 := by kernel_rfl
@[simp] theorem Tq.ntmps68 : Tq.f68.ntmps = 21 := by kernel_rfl
@[simp] theorem Tq.ntmps69 : Tq.f69.ntmps = 35 := by kernel_rfl
@[simp] theorem Tq.ntmps7 : Tq.f7.ntmps = 44 := by kernel_rfl
@[simp] theorem Tq.ntmps70 : Tq.f70.ntmps = 1 := by kernel_rfl
@[simp] theorem Tq.ntmps71 : Tq.f71.ntmps = 0 := by kernel_rfl
@[simp] theorem Tq.ntmps72 : Tq.f72.ntmps = 0 := by kernel_rfl
@[simp] theorem Tq.ntmps73 : Tq.f73.ntmps = 0 := by kernel_rfl
@[simp] theorem Tq.ntmps74 : Tq.f74.ntmps = 1 := by kernel_rfl
@[simp] theorem Tq.ntmps75 : Tq.f75.ntmps = 1 := by kernel_rfl
@[simp] theorem Tq.ntmps76 : Tq.f76.ntmps = 10 := by kernel_rfl
@[simp] theorem Tq.ntmps77 : Tq.f77.ntmps = 10 := by kernel_rfl
@[simp] theorem Tq.ntmps78 : Tq.f78.ntmps = 1 := by kernel_rfl
@[simp] theorem Tq.ntmps79 : Tq.f79.ntmps = 7 := by kernel_rfl
@[simp] theorem Tq.ntmps8 : Tq.f8.ntmps = 14 := by kernel_rfl
@[simp] theorem Tq.ntmps80 : Tq.f80.ntmps = 9 := by kernel_rfl
@[simp] theorem Tq.ntmps81 : Tq.f81.ntmps = 1 := by kernel_rfl
@[simp] theorem Tq.ntmps82 : Tq.f82.ntmps = 3 := by kernel_rfl
@[simp] theorem Tq.ntmps83 : Tq.f83.ntmps = 1 := by kernel_rfl
@[simp] theorem Tq.ntmps84 : Tq.f84.ntmps = 1 := by kernel_rfl
@[simp] theorem Tq.ntmps85 : Tq.f85.ntmps = 13 := by kernel_rfl
@[simp] theorem Tq.ntmps86 : Tq.f86.ntmps = 1 := by kernel_rfl
@[simp] theorem Tq.ntmps87 : Tq.f87.ntmps = 2 := by kernel_rfl
@[simp] theorem Tq.ntmps88 : Tq.f88.ntmps = 2 := by kernel_rfl
@[simp] theorem Tq.ntmps89 : Tq.f89.ntmps = 2 := by kernel_rfl
@[simp] theorem Tq.ntmps9 : Tq.f9.ntmps = 44 := by kernel_rfl
@[simp] theorem Tq.ntmps90 : Tq.f90.ntmps = 2 := by kernel_rfl
@[simp] theorem Tq.ntmps91 : Tq.f91.ntmps = 1 := by kernel_rfl
@[simp] theorem Tq.ntmps92 : Tq.f92.ntmps = 2 := by kernel_rfl
@[simp] theorem Tq.ntmps93 : Tq.f93.ntmps = 3 := by kernel_rfl
@[simp] theorem Tq.ntmps94 : Tq.f94.ntmps = 1 := by kernel_rfl
@[simp] theorem Tq.ntmps95 : Tq.f95.ntmps = 1 := by kernel_rfl
@[simp] theorem Tq.ntmps96 : Tq.f96.ntmps = 1 := by kernel_rfl
@[simp] theorem Tq.ntmps97 : Tq.f97.ntmps = 1 := by kernel_rfl
@[simp] theorem Tq.ntmps98 : Tq.f98.ntmps = 1 := by kernel_rfl
@[simp] theorem Tq.ntmps99 : Tq.f99.ntmps = 1 := by kernel_rfl
@[simp] theorem Tq.params0 : Tq.f0.params = #[] := by kernel_rfl
@[simp] theorem Tq.params1 : Tq.f1.params = #[] := by kernel_rfl
@[simp] theorem Tq.params10 : Tq.f10.params = #[23] := by kernel_rfl
@[simp] theorem Tq.params100 : Tq.f100.params = #[14] := by kernel_rfl
@[simp] theorem Tq.params101 : Tq.f101.params = #[14] := by kernel_rfl
@[simp] theorem Tq.params102 : Tq.f102.params = #[15] := by kernel_rfl
@[simp] theorem Tq.params103 : Tq.f103.params = #[15] := by kernel_rfl
@[simp] theorem Tq.params104 : Tq.f104.params = #[16] := by kernel_rfl
@[simp] theorem Tq.params105 : Tq.f105.params = #[16] := by kernel_rfl
@[simp] theorem Tq.params106 : Tq.f106.params = #[17] := by kernel_rfl
@[simp] theorem Tq.params107 : Tq.f107.params = #[19] := by kernel_rfl
@[simp] theorem Tq.params108 : Tq.f108.params = #[19] := by kernel_rfl
@[simp] theorem Tq.params109 : Tq.f109.params = #[40] := by kernel_rfl
@[simp] theorem Tq.params11 : Tq.f11.params = #[23] := by kernel_rfl
@[simp] theorem Tq.params110 : Tq.f110.params = #[105] := by kernel_rfl
@[simp] theorem Tq.params12 : Tq.f12.params = #[26] := by kernel_rfl
@[simp] theorem Tq.params13 : Tq.f13.params = #[23] := by kernel_rfl
@[simp] theorem Tq.params14 : Tq.f14.params = #[26] := by kernel_rfl
@[simp] theorem Tq.params15 : Tq.f15.params = #[24, 24] := by kernel_rfl
@[simp] theorem Tq.params16 : Tq.f16.params = #[24, 3] := by kernel_rfl
@[simp] theorem Tq.params17 : Tq.f17.params = #[24, 3] := by kernel_rfl
@[simp] theorem Tq.params18 : Tq.f18.params = #[26] := by kernel_rfl
@[simp] theorem Tq.params19 : Tq.f19.params = #[26] := by kernel_rfl
@[simp] theorem Tq.params2 : Tq.f2.params = #[] := by kernel_rfl
@[simp] theorem Tq.params20 : Tq.f20.params = #[26] := by kernel_rfl
@[simp] theorem Tq.params21 : Tq.f21.params = #[26] := by kernel_rfl
@[simp] theorem Tq.params22 : Tq.f22.params = #[26] := by kernel_rfl
@[simp] theorem Tq.params23 : Tq.f23.params = #[26] := by kernel_rfl
@[simp] theorem Tq.params24 : Tq.f24.params = #[26, 26] := by kernel_rfl
@[simp] theorem Tq.params25 : Tq.f25.params = #[26] := by kernel_rfl
@[simp] theorem Tq.params26 : Tq.f26.params = #[26] := by kernel_rfl
@[simp] theorem Tq.params27 : Tq.f27.params = #[26] := by kernel_rfl
@[simp] theorem Tq.params28 : Tq.f28.params = #[26] := by kernel_rfl
@[simp] theorem Tq.params29 : Tq.f29.params = #[26] := by kernel_rfl
@[simp] theorem Tq.params3 : Tq.f3.params = #[23] := by kernel_rfl
@[simp] theorem Tq.params30 : Tq.f30.params = #[26] := by kernel_rfl
@[simp] theorem Tq.params31 : Tq.f31.params = #[26] := by kernel_rfl
@[simp] theorem Tq.params32 : Tq.f32.params = #[26] := by kernel_rfl
@[simp] theorem Tq.params33 : Tq.f33.params = #[26] := by kernel_rfl
@[simp] theorem Tq.params34 : Tq.f34.params = #[26] := by kernel_rfl
@[simp] theorem Tq.params35 : Tq.f35.params = #[26] := by kernel_rfl
@[simp] theorem Tq.params36 : Tq.f36.params = #[3] := by kernel_rfl
@[simp] theorem Tq.params37 : Tq.f37.params = #[26] := by kernel_rfl
@[simp] theorem Tq.params38 : Tq.f38.params = #[3, 42] := by kernel_rfl
@[simp] theorem Tq.params39 : Tq.f39.params = #[3, 3] := by kernel_rfl
@[simp] theorem Tq.params4 : Tq.f4.params = #[23] := by kernel_rfl
@[simp] theorem Tq.params40 : Tq.f40.params = #[3] := by kernel_rfl
@[simp] theorem Tq.params41 : Tq.f41.params = #[40, 3] := by kernel_rfl
@[simp] theorem Tq.params42 : Tq.f42.params = #[3] := by kernel_rfl
@[simp] theorem Tq.params43 : Tq.f43.params = #[3] := by kernel_rfl
@[simp] theorem Tq.params44 : Tq.f44.params = #[3] := by kernel_rfl
@[simp] theorem Tq.params45 : Tq.f45.params = #[3, 24] := by kernel_rfl
@[simp] theorem Tq.params46 : Tq.f46.params = #[3, 3] := by kernel_rfl
@[simp] theorem Tq.params47 : Tq.f47.params = #[3] := by kernel_rfl
@[simp] theorem Tq.params48 : Tq.f48.params = #[3] := by kernel_rfl
@[simp] theorem Tq.params49 : Tq.f49.params = #[3, 48] := by kernel_rfl
@[simp] theorem Tq.params5 : Tq.f5.params = #[23] := by kernel_rfl
@[simp] theorem Tq.params50 : Tq.f50.params = #[46, 3] := by kernel_rfl
@[simp] theorem Tq.params51 : Tq.f51.params = #[67] := by kernel_rfl
@[simp] theorem Tq.params52 : Tq.f52.params = #[3, 3, 3] := by kernel_rfl
@[simp] theorem Tq.params53 : Tq.f53.params = #[3] := by kernel_rfl
@[simp] theorem Tq.params54 : Tq.f54.params = #[40, 3] := by kernel_rfl
@[simp] theorem Tq.params55 : Tq.f55.params = #[3] := by kernel_rfl
@[simp] theorem Tq.params56 : Tq.f56.params = #[3, 38] := by kernel_rfl
@[simp] theorem Tq.params57 : Tq.f57.params = #[3] := by kernel_rfl
@[simp] theorem Tq.params58 : Tq.f58.params = #[56] := by kernel_rfl
@[simp] theorem Tq.params59 : Tq.f59.params = #[74, 3] := by kernel_rfl
@[simp] theorem Tq.params6 : Tq.f6.params = #[23] := by kernel_rfl
@[simp] theorem Tq.params60 : Tq.f60.params = #[] := by kernel_rfl
@[simp] theorem Tq.params61 : Tq.f61.params = #[74] := by kernel_rfl
@[simp] theorem Tq.params62 : Tq.f62.params = #[74] := by kernel_rfl
@[simp] theorem Tq.params63 : Tq.f63.params = #[67, 2] := by kernel_rfl
@[simp] theorem Tq.params64 : Tq.f64.params = #[69] := by kernel_rfl
@[simp] theorem Tq.params65 : Tq.f65.params = #[3] := by kernel_rfl
@[simp] theorem Tq.params66 : Tq.f66.params = #[40, 3] := by kernel_rfl
@[simp] theorem Tq.params67 : Tq.f67.params = #[40, 3] := by kernel_rfl
@[simp] theorem Tq.params68 : Tq.f68.params = #[63] := by kernel_rfl
@[simp] theorem Tq.params69 : Tq.f69.params = #[39] := by kernel_rfl
@[simp] theorem Tq.params7 : Tq.f7.params = #[23] := by kernel_rfl
@[simp] theorem Tq.params70 : Tq.f70.params = #[76] := by kernel_rfl
@[simp] theorem Tq.params71 : Tq.f71.params = #[] := by kernel_rfl
@[simp] theorem Tq.params72 : Tq.f72.params = #[] := by kernel_rfl
@[simp] theorem Tq.params73 : Tq.f73.params = #[] := by kernel_rfl
@[simp] theorem Tq.params74 : Tq.f74.params = #[74] := by kernel_rfl
@[simp] theorem Tq.params75 : Tq.f75.params = #[9] := by kernel_rfl
@[simp] theorem Tq.params76 : Tq.f76.params = #[91, 39] := by kernel_rfl
@[simp] theorem Tq.params77 : Tq.f77.params = #[91, 39] := by kernel_rfl
@[simp] theorem Tq.params78 : Tq.f78.params = #[76] := by kernel_rfl
@[simp] theorem Tq.params79 : Tq.f79.params = #[91] := by kernel_rfl
@[simp] theorem Tq.params8 : Tq.f8.params = #[23] := by kernel_rfl
@[simp] theorem Tq.params80 : Tq.f80.params = #[91, 39] := by kernel_rfl
@[simp] theorem Tq.params81 : Tq.f81.params = #[74] := by kernel_rfl
@[simp] theorem Tq.params82 : Tq.f82.params = #[82, 4, 3] := by kernel_rfl
@[simp] theorem Tq.params83 : Tq.f83.params = #[76] := by kernel_rfl
@[simp] theorem Tq.params84 : Tq.f84.params = #[74] := by kernel_rfl
@[simp] theorem Tq.params85 : Tq.f85.params = #[91, 39, 39] := by kernel_rfl
@[simp] theorem Tq.params86 : Tq.f86.params = #[76] := by kernel_rfl
@[simp] theorem Tq.params87 : Tq.f87.params = #[82, 4] := by kernel_rfl
@[simp] theorem Tq.params88 : Tq.f88.params = #[69, 2] := by kernel_rfl
@[simp] theorem Tq.params89 : Tq.f89.params = #[93, 39] := by kernel_rfl
@[simp] theorem Tq.params9 : Tq.f9.params = #[23] := by kernel_rfl
@[simp] theorem Tq.params90 : Tq.f90.params = #[93, 39] := by kernel_rfl
@[simp] theorem Tq.params91 : Tq.f91.params = #[93] := by kernel_rfl
@[simp] theorem Tq.params92 : Tq.f92.params = #[93, 39] := by kernel_rfl
@[simp] theorem Tq.params93 : Tq.f93.params = #[93, 39, 39] := by kernel_rfl
@[simp] theorem Tq.params94 : Tq.f94.params = #[8] := by kernel_rfl
@[simp] theorem Tq.params95 : Tq.f95.params = #[8] := by kernel_rfl
@[simp] theorem Tq.params96 : Tq.f96.params = #[10] := by kernel_rfl
@[simp] theorem Tq.params97 : Tq.f97.params = #[10] := by kernel_rfl
@[simp] theorem Tq.params98 : Tq.f98.params = #[11] := by kernel_rfl
@[simp] theorem Tq.params99 : Tq.f99.params = #[11] := by kernel_rfl
@[simp] theorem Tq.results0 : Tq.f0.results = #[] := by kernel_rfl
@[simp] theorem Tq.results1 : Tq.f1.results = #[] := by kernel_rfl
@[simp] theorem Tq.results10 : Tq.f10.results = #[ResultVar.tmp 2] := by kernel_rfl
@[simp] theorem Tq.results100 : Tq.f100.results = #[] := by kernel_rfl
@[simp] theorem Tq.results101 : Tq.f101.results = #[] := by kernel_rfl
@[simp] theorem Tq.results102 : Tq.f102.results = #[] := by kernel_rfl
@[simp] theorem Tq.results103 : Tq.f103.results = #[] := by kernel_rfl
@[simp] theorem Tq.results104 : Tq.f104.results = #[] := by kernel_rfl
@[simp] theorem Tq.results105 : Tq.f105.results = #[] := by kernel_rfl
@[simp] theorem Tq.results106 : Tq.f106.results = #[] := by kernel_rfl
@[simp] theorem Tq.results107 : Tq.f107.results = #[] := by kernel_rfl
@[simp] theorem Tq.results108 : Tq.f108.results = #[] := by kernel_rfl
@[simp] theorem Tq.results109 : Tq.f109.results = #[] := by kernel_rfl
@[simp] theorem Tq.results11 : Tq.f11.results = #[ResultVar.tmp 2] := by kernel_rfl
@[simp] theorem Tq.results110 : Tq.f110.results = #[] := by kernel_rfl
@[simp] theorem Tq.results12 : Tq.f12.results = #[ResultVar.tmp 2] := by kernel_rfl
@[simp] theorem Tq.results13 : Tq.f13.results = #[ResultVar.cell 2 26] := by kernel_rfl
@[simp] theorem Tq.results14 : Tq.f14.results = #[ResultVar.tmp 2] := by kernel_rfl
@[simp] theorem Tq.results15 : Tq.f15.results = #[ResultVar.tmp 4] := by kernel_rfl
@[simp] theorem Tq.results16 : Tq.f16.results = #[ResultVar.tmp 4] := by kernel_rfl
@[simp] theorem Tq.results17 : Tq.f17.results = #[ResultVar.tmp 4] := by kernel_rfl
@[simp] theorem Tq.results18 : Tq.f18.results = #[ResultVar.tmp 2] := by kernel_rfl
@[simp] theorem Tq.results19 : Tq.f19.results = #[ResultVar.tmp 2] := by kernel_rfl
@[simp] theorem Tq.results2 : Tq.f2.results = #[] := by kernel_rfl
@[simp] theorem Tq.results20 : Tq.f20.results = #[ResultVar.tmp 2] := by kernel_rfl
@[simp] theorem Tq.results21 : Tq.f21.results = #[ResultVar.tmp 2] := by kernel_rfl
@[simp] theorem Tq.results22 : Tq.f22.results = #[ResultVar.cell 2 26, ResultVar.tmp 3] := by kernel_rfl
@[simp] theorem Tq.results23 : Tq.f23.results = #[ResultVar.cell 2 26, ResultVar.tmp 3] := by kernel_rfl
@[simp] theorem Tq.results24 : Tq.f24.results = #[ResultVar.tmp 4] := by kernel_rfl
@[simp] theorem Tq.results25 : Tq.f25.results = #[ResultVar.tmp 2] := by kernel_rfl
@[simp] theorem Tq.results26 : Tq.f26.results = #[ResultVar.tmp 2] := by kernel_rfl
@[simp] theorem Tq.results27 : Tq.f27.results = #[ResultVar.tmp 2] := by kernel_rfl
@[simp] theorem Tq.results28 : Tq.f28.results = #[ResultVar.tmp 2] := by kernel_rfl
@[simp] theorem Tq.results29 : Tq.f29.results = #[ResultVar.tmp 2] := by kernel_rfl
@[simp] theorem Tq.results3 : Tq.f3.results = #[ResultVar.tmp 2] := by kernel_rfl
@[simp] theorem Tq.results30 : Tq.f30.results = #[ResultVar.tmp 2] := by kernel_rfl
@[simp] theorem Tq.results31 : Tq.f31.results = #[ResultVar.tmp 2] := by kernel_rfl
@[simp] theorem Tq.results32 : Tq.f32.results = #[ResultVar.tmp 2] := by kernel_rfl
@[simp] theorem Tq.results33 : Tq.f33.results = #[ResultVar.tmp 2, ResultVar.tmp 3] := by kernel_rfl
@[simp] theorem Tq.results34 : Tq.f34.results = #[ResultVar.tmp 2, ResultVar.tmp 3] := by kernel_rfl
@[simp] theorem Tq.results35 : Tq.f35.results = #[ResultVar.tmp 2] := by kernel_rfl
@[simp] theorem Tq.results36 : Tq.f36.results = #[ResultVar.tmp 2] := by kernel_rfl
@[simp] theorem Tq.results37 : Tq.f37.results = #[ResultVar.tmp 2] := by kernel_rfl
@[simp] theorem Tq.results38 : Tq.f38.results = #[ResultVar.tmp 4] := by kernel_rfl
@[simp] theorem Tq.results39 : Tq.f39.results = #[ResultVar.tmp 5] := by kernel_rfl
@[simp] theorem Tq.results4 : Tq.f4.results = #[ResultVar.tmp 2] := by kernel_rfl
@[simp] theorem Tq.results40 : Tq.f40.results = #[ResultVar.tmp 2] := by kernel_rfl
@[simp] theorem Tq.results41 : Tq.f41.results = #[ResultVar.tmp 4] := by kernel_rfl
@[simp] theorem Tq.results42 : Tq.f42.results = #[ResultVar.tmp 2] := by kernel_rfl
@[simp] theorem Tq.results43 : Tq.f43.results = #[ResultVar.tmp 2] := by kernel_rfl
@[simp] theorem Tq.results44 : Tq.f44.results = #[ResultVar.tmp 2] := by kernel_rfl
@[simp] theorem Tq.results45 : Tq.f45.results = #[ResultVar.cell 4 26] := by kernel_rfl
@[simp] theorem Tq.results46 : Tq.f46.results = #[ResultVar.tmp 5] := by kernel_rfl
@[simp] theorem Tq.results47 : Tq.f47.results = #[ResultVar.tmp 2] := by kernel_rfl
@[simp] theorem Tq.results48 : Tq.f48.results = #[ResultVar.tmp 2] := by kernel_rfl
@[simp] theorem Tq.results49 : Tq.f49.results = #[] := by kernel_rfl
@[simp] theorem Tq.results5 : Tq.f5.results = #[ResultVar.tmp 2] := by kernel_rfl
@[simp] theorem Tq.results50 : Tq.f50.results = #[] := by kernel_rfl
@[simp] theorem Tq.results51 : Tq.f51.results = #[ResultVar.tmp 2] := by kernel_rfl
@[simp] theorem Tq.results52 : Tq.f52.results = #[ResultVar.tmp 6] := by kernel_rfl
@[simp] theorem Tq.results53 : Tq.f53.results = #[ResultVar.tmp 2] := by kernel_rfl
@[simp] theorem Tq.results54 : Tq.f54.results = #[ResultVar.tmp 4] := by kernel_rfl
@[simp] theorem Tq.results55 : Tq.f55.results = #[] := by kernel_rfl
@[simp] theorem Tq.results56 : Tq.f56.results = #[ResultVar.cell 4 26] := by kernel_rfl
@[simp] theorem Tq.results57 : Tq.f57.results = #[ResultVar.tmp 3] := by kernel_rfl
@[simp] theorem Tq.results58 : Tq.f58.results = #[ResultVar.tmp 2] := by kernel_rfl
@[simp] theorem Tq.results59 : Tq.f59.results = #[] := by kernel_rfl
@[simp] theorem Tq.results6 : Tq.f6.results = #[ResultVar.tmp 2] := by kernel_rfl
@[simp] theorem Tq.results60 : Tq.f60.results = #[] := by kernel_rfl
@[simp] theorem Tq.results61 : Tq.f61.results = #[] := by kernel_rfl
@[simp] theorem Tq.results62 : Tq.f62.results = #[] := by kernel_rfl
@[simp] theorem Tq.results63 : Tq.f63.results = #[ResultVar.tmp 4] := by kernel_rfl
@[simp] theorem Tq.results64 : Tq.f64.results = #[] := by kernel_rfl
@[simp] theorem Tq.results65 : Tq.f65.results = #[ResultVar.tmp 2] := by kernel_rfl
@[simp] theorem Tq.results66 : Tq.f66.results = #[ResultVar.tmp 4] := by kernel_rfl
@[simp] theorem Tq.results67 : Tq.f67.results = #[ResultVar.cell 4 26] := by kernel_rfl
@[simp] theorem Tq.results68 : Tq.f68.results = #[ResultVar.tmp 2] := by kernel_rfl
@[simp] theorem Tq.results69 : Tq.f69.results = #[ResultVar.tmp 2] := by kernel_rfl
@[simp] theorem Tq.results7 : Tq.f7.results = #[ResultVar.tmp 2] := by kernel_rfl
@[simp] theorem Tq.results70 : Tq.f70.results = #[] := by kernel_rfl
@[simp] theorem Tq.results71 : Tq.f71.results = #[] := by kernel_rfl
@[simp] theorem Tq.results72 : Tq.f72.results = #[] := by kernel_rfl
@[simp] theorem Tq.results73 : Tq.f73.results = #[] := by kernel_rfl
@[simp] theorem Tq.results74 : Tq.f74.results = #[] := by kernel_rfl
@[simp] theorem Tq.results75 : Tq.f75.results = #[] := by kernel_rfl
@[simp] theorem Tq.results76 : Tq.f76.results = #[ResultVar.tmp 4] := by kernel_rfl
@[simp] theorem Tq.results77 : Tq.f77.results = #[ResultVar.tmp 4] := by kernel_rfl
@[simp] theorem Tq.results78 : Tq.f78.results = #[] := by kernel_rfl
@[simp] theorem Tq.results79 : Tq.f79.results = #[ResultVar.tmp 2] := by kernel_rfl
@[simp] theorem Tq.results8 : Tq.f8.results = #[ResultVar.tmp 2] := by kernel_rfl
@[simp] theorem Tq.results80 : Tq.f80.results = #[] := by kernel_rfl
@[simp] theorem Tq.results81 : Tq.f81.results = #[] := by kernel_rfl
@[simp] theorem Tq.results82 : Tq.f82.results = #[] := by kernel_rfl
@[simp] theorem Tq.results83 : Tq.f83.results = #[] := by kernel_rfl
@[simp] theorem Tq.results84 : Tq.f84.results = #[] := by kernel_rfl
@[simp] theorem Tq.results85 : Tq.f85.results = #[ResultVar.tmp 6] := by kernel_rfl
@[simp] theorem Tq.results86 : Tq.f86.results = #[] := by kernel_rfl
@[simp] theorem Tq.results87 : Tq.f87.results = #[] := by kernel_rfl
@[simp] theorem Tq.results88 : Tq.f88.results = #[] := by kernel_rfl
@[simp] theorem Tq.results89 : Tq.f89.results = #[] := by kernel_rfl
@[simp] theorem Tq.results9 : Tq.f9.results = #[ResultVar.tmp 2] := by kernel_rfl
@[simp] theorem Tq.results90 : Tq.f90.results = #[] := by kernel_rfl
@[simp] theorem Tq.results91 : Tq.f91.results = #[] := by kernel_rfl
@[simp] theorem Tq.results92 : Tq.f92.results = #[] := by kernel_rfl
@[simp] theorem Tq.results93 : Tq.f93.results = #[] := by kernel_rfl
@[simp] theorem Tq.results94 : Tq.f94.results = #[] := by kernel_rfl
@[simp] theorem Tq.results95 : Tq.f95.results = #[] := by kernel_rfl
@[simp] theorem Tq.results96 : Tq.f96.results = #[] := by kernel_rfl
@[simp] theorem Tq.results97 : Tq.f97.results = #[] := by kernel_rfl
@[simp] theorem Tq.results98 : Tq.f98.results = #[] := by kernel_rfl
@[simp] theorem Tq.results99 : Tq.f99.results = #[] := by kernel_rfl
end Go.Proofs
