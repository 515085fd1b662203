/-
  DependsOn of the program and of its model.
-/
import Derived.Test.YtbkkohkigpkddaaResE
import Derived.Deep.RegionHeld3
import Derived.Deep.DeepCutAuto
import Derived.Deep.DrawnRows
namespace Go.Proofs.Ytbkkohkigpkddaa
open Go.RowKit Plain
set_option linter.unusedVariables false
attribute [local go_sem ↓] Go.wp_at_zero Go.wp_at_succ

/-- Does the table depend on the variable? -/
def Plain.depW (n a i : Nat) : Bool := decide (restW n a i 0 ≠ restW n a i 1)
def Plain.depB (n a i : Int) : Bool := isT n a && decide (0 ≤ i ∧ i ≤ n - 1) && depW n.toNat a.toNat i.toNat
theorem depB_in {n a i : Nat} (ht : isT n a = true) (hi : (i : Int) ≤ (n : Int) - 1) : depB n a i = depW n a i := by
  unfold depB; rw [ht, decide_eq_true (by omega)]; rfl
theorem depB_no {n a i : Int} (h : ¬ (isT n a = true ∧ (0 ≤ i ∧ i ≤ n - 1))) : depB n a i = false := by
  unfold depB
  cases ht : isT n a with
  | false => rfl
  | true => rw [decide_eq_false (fun hh => h ⟨ht, hh⟩)]; rfl
theorem depW_true {n a i : Nat} (h : depW n a i = true) : restW n a i 0 ≠ restW n a i 1 := of_decide_eq_true h
theorem depW_false {n a i : Nat} (h : depW n a i = false) : restW n a i 0 = restW n a i 1 := by simpa using of_decide_eq_false h

theorem Tab.depI_of (n a i p x y : Int) (c0 c1 c : Bool) (hc : c = decide (x ≠ y)) (h64 : -9223372036854775808 ≤ a ∧ a ≤ 9223372036854775807)
    (h0 : resT n a i 0 = (p, x, c0)) (h1 : resT n a i 1 = (p, y, c1)) (w : World) :
    Calls Try.prog 51 #[.agg #[.int .i64 n, .int .i64 a], .int .i64 i] w fun e w' => e = .returned (.bool c) ∧ Below w.heap.size w w' := by
  have H0 := fun w => Tab.resI n a i 0 h64 w
  have H1 := fun w => Tab.resI n a i 1 h64 w
  rw [h0] at H0
  rw [h1] at H1
  have HH0 := Lib.hid H0
  have HH1 := Lib.hid H1
  have HC := Lib.hid hc
  clear H0 H1 h0 h1 h64 hc
  by_cases hxy : x = y
  all_goals
    first | subst hxy | have hne : (x == y) = false := by rw [beq_eq_false_iff_ne]; exact hxy
    go_enter Try.func51, Try.ntmps51
    go_wp2_with fail
    refine (HH0.out _).mono ?_
    rintro e w1 ⟨rfl, hb1⟩
    obtain ⟨hc1, hf1⟩ := bcell hb1
    have hz1 : w.heap.size < w1.heap.size := by have := hb1.size; simp at this; omega
    go_wp2_with fail
    refine (HH1.out _).mono ?_
    rintro e w2 ⟨rfl, hb2⟩
    obtain ⟨hc2, hf2⟩ := bcell hb2
    have hz2 : w1.heap.size < w2.heap.size := by have := hb2.size; simp at this; omega
    go_wp2
    go_ret
    refine ⟨ret_bool ?_, ?_⟩
    · rw [HC.out]; simp [*]
    · exact ((((Below.refl _ _).alloc (Nat.le_refl _) _).trans (hb1.mono (by simp))).alloc (by omega) _).trans (hb2.mono (by simp <;> omega)) |>.alloc (by omega) _

/-- DependsOn of the program. -/
theorem Tab.depI (n a i : Int) (h64 : -9223372036854775808 ≤ a ∧ a ≤ 9223372036854775807) (w : World) :
    Calls Try.prog 51 #[.agg #[.int .i64 n, .int .i64 a], .int .i64 i] w fun e w' => e = .returned (.bool (depB n a i)) ∧ Below w.heap.size w w' := by
  by_cases hv : isT n a = true ∧ (0 ≤ i ∧ i ≤ n - 1)
  · obtain ⟨ht, hi⟩ := hv
    obtain ⟨m, x, rfl, rfl, hm, hx⟩ := isT_nat ht
    obtain ⟨j, rfl⟩ := Int.eq_ofNat_of_zero_le hi.1
    rw [depB_in ht hi.2]
    exact Tab.depI_of m x j _ _ _ _ _ _ (by unfold depW; congr 1; simp only [ne_eq, Int.natCast_inj]) h64 (resT_yes (b := 0) ht hi.2 (by decide)) (resT_yes (b := 1) ht hi.2 (by decide)) w
  · rw [depB_no hv]
    exact Tab.depI_of n a i _ _ _ _ _ _ (by simp) h64 (resT_no fun h => hv ⟨h.1, h.2.1⟩) (resT_no fun h => hv ⟨h.1, h.2.1⟩) w

theorem Tab.resM0 (n a i : Nat) (hn : n ≤ 5) (ha : (a : Int) ≤ 4294967295) (hi : (i : Int) ≤ (n : Int) - 1) (w : World) :
    Calls Try.prog 55 #[.agg #[.int .i64 n, .int .i64 a], .int .i64 i, .int .i64 0] w fun e w' => e = .returned (.agg #[.int .i64 ((n : Int) - 1), .int .i64 (restW n a i 0 : Int)]) ∧ Below w.heap.size w w' := Tab.resM_loop n a i 0 hn ha hi (by decide) w
theorem Tab.resM1 (n a i : Nat) (hn : n ≤ 5) (ha : (a : Int) ≤ 4294967295) (hi : (i : Int) ≤ (n : Int) - 1) (w : World) :
    Calls Try.prog 55 #[.agg #[.int .i64 n, .int .i64 a], .int .i64 i, .int .i64 1] w fun e w' => e = .returned (.agg #[.int .i64 ((n : Int) - 1), .int .i64 (restW n a i 1 : Int)]) ∧ Below w.heap.size w w' := Tab.resM_loop n a i 1 hn ha hi (by decide) w

set_option maxRecDepth 100000 in
set_option maxHeartbeats 1000000 in
theorem Tab.depM_in (n a i : Nat) (hn : n ≤ 5) (ha : (a : Int) ≤ 4294967295) (hi : (i : Int) ≤ (n : Int) - 1) (w : World) :
    Calls Try.prog 50 #[.agg #[.int .i64 n, .int .i64 a], .int .i64 i] w fun e w' => e = .returned (.bool (depW n a i)) ∧ Below w.heap.size w w' := by
  have HM0 := Lib.hid (Tab.resM0 n a i hn ha hi)
  have HM1 := Lib.hid (Tab.resM1 n a i hn ha hi)
  have HD : Hid (depW n a i = decide (restW n a i 0 ≠ restW n a i 1)) := Lib.hid rfl
  clear hn ha hi
  generalize restW n a i 0 = x at HM0 HD
  generalize restW n a i 1 = y at HM1 HD
  by_cases hxy : x = y
  all_goals
    first | subst hxy | have hne : ((x : Int) == (y : Int)) = false := by rw [beq_eq_false_iff_ne]; omega
    have hfld : ∀ (u v : Value) (w : World), (Instr.field 25 (.agg #[u, v]) 1).run Try.prog w = .ok v w := fun _ _ _ => by kernel_rfl
    go_enter Try.func50, Try.ntmps50
    go_wp2_with fail
    go_region_held3 (fun w' => w'.cell? ⟨w.heap.size, 0, none⟩ = some (.int .i64 n) ∧ w'.cell? ⟨w.heap.size, 1, none⟩ = some (.int .i64 a)) ((first | (go_split_ands; (try dsimp only); (refine ⟨?_, ?_⟩ <;> (repeat (first | with_reducible assumption | ((with_reducible refine keepU ?_); (with_reducible assumption)) | (with_reducible refine keepD ?_) | ((with_reducible refine keepN ?_ ?_); (focus (simp; done)); (focus rfl)) | (with_reducible refine keepA ?_) | ((with_reducible refine keepS ?_ ?_); (focus (dsimp only; omega))) | (with_reducible refine keepB hb ?_) | (with_reducible refine keepB hb' ?_)))); done) | go_keep))
      (first
        | (go_at_call 55; ((with_reducible refine (HM0.out _).mono ?_); rintro e w14 ⟨rfl, hb⟩; obtain ⟨hc, hf⟩ := bcell hb; have hs := hb.size; try simp only [World.size_alloc, World.size_drew] at hs))
        | (go_at_call 55; ((with_reducible refine (HM1.out _).mono ?_); rintro e w15 ⟨rfl, hb'⟩; obtain ⟨hc', hf'⟩ := bcell hb'; have hs' := hb'.size; try simp only [World.size_alloc, World.size_drew] at hs')))
    all_goals
      go_wp2
      go_ret
      refine ⟨ret_bool ?_, ?_⟩
      · rw [HD.out]; simp [*] <;> omega
      · repeat (first | (with_reducible exact Below.refl _ _) | (with_reducible assumption) | ((with_reducible refine bS ?_ ?_); (focus (dsimp only; omega))) | ((with_reducible refine bA ?_ ?_); (focus (first | omega | (simp; done) | (simp; omega)))) | (with_reducible refine bD ?_) | ((with_reducible refine bB hb ?_ ?_); (focus (first | omega | (simp; done) | (simp; omega)))) | ((with_reducible refine bB hb' ?_ ?_); (focus (first | omega | (simp; done) | (simp; omega)))))
end Go.Proofs.Ytbkkohkigpkddaa
