/-
  Chapter 5: values, leaves, depths of formulas, of the program: the methods of the four kinds.
-/
import Derived.Test.YtpniefagpinbdaaFrmR
import Derived.Deep.RegionWith
import Derived.Deep.RegionHeld3
import Derived.Deep.DrawnRows
import Derived.Shelf.Abstract
namespace Go.Proofs.Ytpniefagpinbdaa
open Go.RowKit Plain Go.Shelf
set_option linter.unusedVariables false
attribute [local go_sem ↓] Go.wp_at_zero Go.wp_at_succ

/-- The number of a formula's method 'leaves'. -/
def fnLeaves : Frm → FuncId
  | .con _ => 78
  | .var _ => 90
  | .neg _ => 82
  | .bin _ _ _ => 86

theorem inv_leaves (f : Frm) : ∀ (n : Nat) (w : World), (method (n + 1) (ty f) (raw f) "loop.example/g03403/impl.leaves").run Try.prog w = .ok (fnLeaves f, raw f) w := by
  cases f <;> (intro n w; kernel_rfl)

theorem ent_leaves (f : Frm) : ∀ args w, (callFunc (fnLeaves f) args).run Try.prog w = .ok (.enter (fnLeaves f) args) w := by
  cases f with
  | con b => exact enters_of Try.func78 (by kernel_rfl) rfl
  | var i => exact enters_of Try.func90 (by kernel_rfl) rfl
  | neg f => exact enters_of Try.func82 (by kernel_rfl) rfl
  | bin o f g => exact enters_of Try.func86 (by kernel_rfl) rfl

set_option maxRecDepth 100000 in
theorem Leaves.any (f : Frm) : (txt f).length ≤ 60 → ∀ (w : World), Calls Try.prog (fnLeaves f) #[raw f] w fun e w' => e = .returned (.int .i64 (leaves f : Int)) ∧ Below w.heap.size w w' := by
  induction f with
  | con b =>
    intro _ w
    go_enter Try.func78, Try.ntmps78
    go_wp2_with fail
    go_ret
    exact ⟨rfl, Below.refl _ _⟩
  | var i =>
    intro _ w
    go_enter Try.func90, Try.ntmps90
    go_wp2_with fail
    go_ret
    exact ⟨rfl, Below.refl _ _⟩
  | neg f ih =>
    intro h60 w
    show Calls _ _ #[.agg #[.iface (ty f) (raw f)]] _ (fun e w' => e = .returned (.int .i64 (leaves f : Int)) ∧ _)
    have HI := Lib.hid (ih (by simp [txt] at h60; omega))
    have hm := inv_leaves f
    have he := ent_leaves f
    clear ih h60
    go_enter Try.func82, Try.ntmps82
    go_wp2_with fail
    refine (HI.out _).mono ?_
    rintro e w1 ⟨rfl, hb⟩
    go_wp2_with fail
    go_ret
    exact ⟨rfl, ((Below.refl _ _).alloc (Nat.le_refl _) _).trans (hb.mono (by simp))⟩
  | bin o f g ihf ihg =>
    intro h60 w
    show Calls _ _ #[.agg #[.int .u8 (o.code.toNat : Int), .iface (ty f) (raw f), .iface (ty g) (raw g)]] _ _
    have HF := Lib.hid (ihf (by simp [txt] at h60; omega))
    have HG := Lib.hid (ihg (by simp [txt] at h60; omega))
    have hmf := inv_leaves f
    have hef := ent_leaves f
    have hmg := inv_leaves g
    have heg := ent_leaves g
    have HV : Hid (leaves (.bin o f g) = leaves f + leaves g) := Lib.hid rfl
    have hw : IntKind.i64.wrap ((leaves f : Int) + (leaves g : Int)) = (leaves f : Int) + (leaves g : Int) := IntWalk.i64_in _ (by have := leaves_le f; have := leaves_le g; simp [txt] at h60; omega)
    clear ihf ihg h60
    generalize leaves (.bin o f g) = z at HV
    go_enter Try.func86, Try.ntmps86
    go_wp2_with fail
    go_region_held3 (fun w' => w'.cell? ⟨w.heap.size, 1, none⟩ = some (.iface (ty f) (raw f)) ∧ w'.cell? ⟨w.heap.size, 2, none⟩ = some (.iface (ty g) (raw g))) ((first | (go_split_ands; (try dsimp only); (refine ⟨?_, ?_⟩ <;> (repeat (first | with_reducible assumption | ((with_reducible refine keepU ?_); (with_reducible assumption)) | (with_reducible refine keepD ?_) | ((with_reducible refine keepN ?_ ?_); (focus (simp; done)); (focus rfl)) | (with_reducible refine keepA ?_) | ((with_reducible refine keepS ?_ ?_); (focus (dsimp only; omega))) | (with_reducible refine keepB hb ?_) | (with_reducible refine keepB hb' ?_)))); done) | go_keep))
      (first
        | (with_reducible refine (HF.out _).mono ?_; rintro e w14 ⟨rfl, hb⟩; obtain ⟨hc, hf⟩ := bcell hb; have hs := hb.size; try simp only [World.size_alloc, World.size_drew] at hs)
        | (with_reducible refine (HG.out _).mono ?_; rintro e w15 ⟨rfl, hb'⟩; obtain ⟨hc', hf'⟩ := bcell hb'; have hs' := hb'.size; try simp only [World.size_alloc, World.size_drew] at hs'))
    all_goals
      go_wp2
      go_ret
      refine ⟨ret_int ?_, ?_⟩
      · rw [HV.out]; first | rfl | omega | (simp; done) | (simp; omega)
      · repeat (first | (with_reducible exact Below.refl _ _) | (with_reducible assumption) | ((with_reducible refine bS ?_ ?_); (focus (dsimp only; omega))) | ((with_reducible refine bA ?_ ?_); (focus (first | omega | (simp; done) | (simp; omega)))) | (with_reducible refine bD ?_) | ((with_reducible refine bB hb ?_ ?_); (focus (first | omega | (simp; done) | (simp; omega)))) | ((with_reducible refine bB hb' ?_ ?_); (focus (first | omega | (simp; done) | (simp; omega)))))


/-- The number of a formula's method 'depth'. -/
def fnDepth : Frm → FuncId
  | .con _ => 77
  | .var _ => 89
  | .neg _ => 81
  | .bin _ _ _ => 85

theorem inv_depth (f : Frm) : ∀ (n : Nat) (w : World), (method (n + 1) (ty f) (raw f) "loop.example/g03403/impl.depth").run Try.prog w = .ok (fnDepth f, raw f) w := by
  cases f <;> (intro n w; kernel_rfl)

theorem ent_depth (f : Frm) : ∀ args w, (callFunc (fnDepth f) args).run Try.prog w = .ok (.enter (fnDepth f) args) w := by
  cases f with
  | con b => exact enters_of Try.func77 (by kernel_rfl) rfl
  | var i => exact enters_of Try.func89 (by kernel_rfl) rfl
  | neg f => exact enters_of Try.func81 (by kernel_rfl) rfl
  | bin o f g => exact enters_of Try.func85 (by kernel_rfl) rfl

set_option maxRecDepth 100000 in
theorem Depth.any (f : Frm) : (txt f).length ≤ 60 → ∀ (w : World), Calls Try.prog (fnDepth f) #[raw f] w fun e w' => e = .returned (.int .i64 (depth f : Int)) ∧ Below w.heap.size w w' := by
  induction f with
  | con b =>
    intro _ w
    go_enter Try.func77, Try.ntmps77
    go_wp2_with fail
    go_ret
    exact ⟨rfl, Below.refl _ _⟩
  | var i =>
    intro _ w
    go_enter Try.func89, Try.ntmps89
    go_wp2_with fail
    go_ret
    exact ⟨rfl, Below.refl _ _⟩
  | neg f ih =>
    intro h60 w
    show Calls _ _ #[.agg #[.iface (ty f) (raw f)]] _ (fun e w' => e = .returned (.int .i64 (depth f : Int)) ∧ _)
    have HI := Lib.hid (ih (by simp [txt] at h60; omega))
    have hm := inv_depth f
    have he := ent_depth f
    clear ih h60
    go_enter Try.func81, Try.ntmps81
    go_wp2_with fail
    refine (HI.out _).mono ?_
    rintro e w1 ⟨rfl, hb⟩
    go_wp2_with fail
    go_ret
    exact ⟨rfl, ((Below.refl _ _).alloc (Nat.le_refl _) _).trans (hb.mono (by simp))⟩
  | bin o f g ihf ihg =>
    intro h60 w
    show Calls _ _ #[.agg #[.int .u8 (o.code.toNat : Int), .iface (ty f) (raw f), .iface (ty g) (raw g)]] _ _
    have HF := Lib.hid (ihf (by simp [txt] at h60; omega))
    have HG := Lib.hid (ihg (by simp [txt] at h60; omega))
    have hmf := inv_depth f
    have hef := ent_depth f
    have hmg := inv_depth g
    have heg := ent_depth g
    have HV : Hid (depth (.bin o f g) = 1 + max (depth f) (depth g)) := Lib.hid rfl
    have hw : IntKind.i64.wrap (1 + max (depth f : Int) (depth g : Int)) = 1 + max (depth f : Int) (depth g : Int) := IntWalk.i64_in _ (by have := depth_le f; have := depth_le g; simp [txt] at h60; omega)
    clear ihf ihg h60
    generalize depth (.bin o f g) = z at HV
    go_enter Try.func85, Try.ntmps85
    go_wp2_with fail
    go_region_held3 (fun w' => w'.cell? ⟨w.heap.size, 1, none⟩ = some (.iface (ty f) (raw f)) ∧ w'.cell? ⟨w.heap.size, 2, none⟩ = some (.iface (ty g) (raw g))) ((first | (go_split_ands; (try dsimp only); (refine ⟨?_, ?_⟩ <;> (repeat (first | with_reducible assumption | ((with_reducible refine keepU ?_); (with_reducible assumption)) | (with_reducible refine keepD ?_) | ((with_reducible refine keepN ?_ ?_); (focus (simp; done)); (focus rfl)) | (with_reducible refine keepA ?_) | ((with_reducible refine keepS ?_ ?_); (focus (dsimp only; omega))) | (with_reducible refine keepB hb ?_) | (with_reducible refine keepB hb' ?_)))); done) | go_keep))
      (first
        | (with_reducible refine (HF.out _).mono ?_; rintro e w14 ⟨rfl, hb⟩; obtain ⟨hc, hf⟩ := bcell hb; have hs := hb.size; try simp only [World.size_alloc, World.size_drew] at hs)
        | (with_reducible refine (HG.out _).mono ?_; rintro e w15 ⟨rfl, hb'⟩; obtain ⟨hc', hf'⟩ := bcell hb'; have hs' := hb'.size; try simp only [World.size_alloc, World.size_drew] at hs'))
    all_goals
      go_wp2
      go_ret
      refine ⟨ret_int ?_, ?_⟩
      · rw [HV.out]; first | rfl | omega | (simp; done) | (simp; omega)
      · repeat (first | (with_reducible exact Below.refl _ _) | (with_reducible assumption) | ((with_reducible refine bS ?_ ?_); (focus (dsimp only; omega))) | ((with_reducible refine bA ?_ ?_); (focus (first | omega | (simp; done) | (simp; omega)))) | (with_reducible refine bD ?_) | ((with_reducible refine bB hb ?_ ?_); (focus (first | omega | (simp; done) | (simp; omega)))) | ((with_reducible refine bB hb' ?_ ?_); (focus (first | omega | (simp; done) | (simp; omega)))))


end Go.Proofs.Ytpniefagpinbdaa
