/-
  Chapter 7: trees of pointers, of the program: what lies in memory, isValue, follow, value, queries.
-/
import Derived.Test.YthdcjldmafhcjaaDoorTreE
import Derived.Test.YthdcjldmafhcjaaDoorResB
import Derived.BigQuiet
namespace Go.Proofs.YthdcjldmafhcjaaDoor
open Go.RowKit Plain
set_option linter.unusedVariables false

/-- A tree lies at block b, all of it from block 'base' on. -/
def TrIn (base : Nat) (w : World) : DT → Nat → Prop
  | .val v, b => base ≤ b ∧ w.cell? ⟨b, 0, none⟩ = some (.int .i64 (v.toNat : Int)) ∧ w.cell? ⟨b, 1, none⟩ = some (.pointer none) ∧ w.cell? ⟨b, 2, none⟩ = some (.pointer none)
  | .ask i l r, b => base ≤ b ∧ w.cell? ⟨b, 0, none⟩ = some (.int .i64 (i.val : Int)) ∧ ∃ bl br, w.cell? ⟨b, 1, none⟩ = some (.pointer (some ⟨bl, 0, none⟩)) ∧ w.cell? ⟨b, 2, none⟩ = some (.pointer (some ⟨br, 0, none⟩)) ∧ TrIn base w l bl ∧ TrIn base w r br

theorem TrIn.mono {base base' : Nat} {w : World} (hb : base' ≤ base) : ∀ {T : DT} {b : Nat}, TrIn base w T b → TrIn base' w T b := by
  intro T
  induction T with
  | val v => intro b h; exact ⟨Nat.le_trans hb h.1, h.2⟩
  | ask i l r ihl ihr =>
    intro b h
    obtain ⟨h1, h2, bl, br, h3, h4, h5, h6⟩ := h
    exact ⟨Nat.le_trans hb h1, h2, bl, br, h3, h4, ihl h5, ihr h6⟩

/-- What keeps every cell keeps trees. -/
theorem TrIn.keep {base : Nat} {w w' : World} (hk : ∀ b o v, base ≤ b → w.cell? ⟨b, o, none⟩ = some v → w'.cell? ⟨b, o, none⟩ = some v) : ∀ {T : DT} {b : Nat}, TrIn base w T b → TrIn base w' T b := by
  intro T
  induction T with
  | val v => intro b h; exact ⟨h.1, hk _ _ _ h.1 h.2.1, hk _ _ _ h.1 h.2.2.1, hk _ _ _ h.1 h.2.2.2⟩
  | ask i l r ihl ihr =>
    intro b h
    obtain ⟨h1, h2, bl, br, h3, h4, h5, h6⟩ := h
    exact ⟨h1, hk _ _ _ h1 h2, bl, br, hk _ _ _ h1 h3, hk _ _ _ h1 h4, ihl h5, ihr h6⟩

theorem TrIn.below {base : Nat} {w w' : World} (hb : Below w.heap.size w w') {T : DT} {b : Nat} (h : TrIn base w T b) : TrIn base w' T b :=
  h.keep fun _ _ _ _ hc => cellOn hb hc
theorem TrIn.set {base : Nat} {w : World} {p : Addr} {u : Value} (hp : p.block < base) {T : DT} {b : Nat} (h : TrIn base w T b) : TrIn base (w.setCell p u) T b :=
  h.keep fun b o v hb hc => keepS (by dsimp only; omega) hc
theorem TrIn.drew {base : Nat} {w : World} (n : Nat) {T : DT} {b : Nat} (h : TrIn base w T b) : TrIn base (w.drewN n) T b :=
  h.below (below_drewN (Below.refl _ _) _)

set_option maxRecDepth 100000 in
theorem IsVal.yes (w : World) (b : Nat) (hc : w.cell? ⟨b, 1, none⟩ = some (.pointer none)) :
    Calls Tryd.prog 21 #[.pointer (some ⟨b, 0, none⟩)] w fun e w' => e = .returned (.bool true) ∧ w = w' := by
  go_enter Tryd.func21, Tryd.ntmps21
  go_wp2_with fail
  go_ret
  exact ⟨rfl, rfl⟩
set_option maxRecDepth 100000 in
theorem IsVal.no (w : World) (b : Nat) (a : Addr) (hc : w.cell? ⟨b, 1, none⟩ = some (.pointer (some a))) :
    Calls Tryd.prog 21 #[.pointer (some ⟨b, 0, none⟩)] w fun e w' => e = .returned (.bool false) ∧ w = w' := by
  go_enter Tryd.func21, Tryd.ntmps21
  go_wp2_with fail
  go_ret
  exact ⟨rfl, rfl⟩

end Go.Proofs.YthdcjldmafhcjaaDoor
