/-
  IsTable of the program and of its model: both answer 'Plain.isT'. The laws' copies of tables.
  IsTable of the program at every pair of ints; the laws' copies of tables and their comparison; words.
-/
import Derived.Test.YtlmhdocfdpbhmaaTabA
import Derived.BigQuiet
import Derived.Deep.DeepCutAuto
import Derived.Deep.RegionWith

namespace Go.Proofs.Ytlmhdocfdpbhmaa
open Go.RowKit Plain
set_option linter.unusedVariables false

theorem inB_isT (n : Nat) (hn : n ≤ 5) (wd : Int) : inB wd 0 (fullN n) = isT n wd := by
  unfold inB isT
  congr 1
  simp only [Int.toNat_natCast, eq_iff_iff]
  omega

theorem Tab.fits (x n : Nat) (hn : n ≤ 5) (w : World) (hx : (x : Int) ≤ 18446744073709551615) :
    Calls Try.prog 107 #[.int .u64 x, .int .i64 n] w fun e w' => e = .returned (.bool (decide (x ≤ fullN n))) ∧ w = w' := by
  go_enter Try.func107, Try.ntmps107
  go_wp2_with (go_at_call 99; refine (Tab.full n hn _).mono ?_; rintro e w' ⟨rfl, rfl⟩)
  go_ret
  exact ⟨ret_bool (by simp), rfl⟩

theorem Tab.model_in (n : Nat) (hn : n ≤ 5) (wd : Int) (w : World) :
    Calls Try.prog 75 #[.agg #[.int .i64 n, .int .i64 wd]] w fun e w' => e = .returned (.bool (isT n wd)) ∧ Below w.heap.size w w' := by
  rw [← inB_isT n hn]
  rcases cases5 n hn with rfl | rfl | rfl | rfl | rfl | rfl
  all_goals
    clear hn
    go_enter Try.func75, Try.ntmps75
    go_wp2_with fail
    go_quiet (first | (go_at_call_of 71 wd; exact quiet_eq (Widths.inRange _ _ _ _)) | (go_at_call 71; exact quiet_eq (Widths.in_yes _ _ _ (by omega) _)))
    go_wp2
    go_ret
    exact ⟨rfl, below_drewN ((Below.refl _ _).alloc (Nat.le_refl _) _) _⟩

theorem Tab.model_out (n : Int) (hn : ¬ (0 ≤ n ∧ n ≤ 5)) (wd : Int) (w : World) :
    Calls Try.prog 75 #[.agg #[.int .i64 n, .int .i64 wd]] w fun e w' => e = .returned (.bool (isT n wd)) ∧ Below w.heap.size w w' := by
  rw [isT_out hn]
  have H := Lib.hid hn
  clear hn
  go_enter Try.func75, Try.ntmps75
  go_wp2_with fail
  go_quiet ((go_at_call 71; exact quiet_eq (Widths.in_no _ _ _ H.out _)))
  go_wp2
  go_ret
  exact ⟨rfl, below_drewN ((Below.refl _ _).alloc (Nat.le_refl _) _) _⟩

/-- IsTable of the model. -/
theorem Tab.model (n wd : Int) (w : World) :
    Calls Try.prog 75 #[.agg #[.int .i64 n, .int .i64 wd]] w fun e w' => e = .returned (.bool (isT n wd)) ∧ Below w.heap.size w w' := by
  by_cases h : 0 ≤ n ∧ n ≤ 5
  · obtain ⟨m, rfl⟩ := Int.eq_ofNat_of_zero_le h.1
    exact Tab.model_in m (by omega) wd w
  · exact Tab.model_out n h wd w

theorem Tab.impl_in (n x : Nat) (hn : n ≤ 5) (hx : (x : Int) ≤ 9223372036854775807) (w : World) :
    Calls Try.prog 79 #[.agg #[.int .i64 n, .int .i64 x]] w fun e w' => e = .returned (.bool (isT n x)) ∧ Below w.heap.size w w' := by
  have hd : decide (x ≤ fullN n) = isT n x := by
    unfold isT; congr 1; simp only [Int.toNat_natCast, eq_iff_iff]; omega
  have h1 : inB n 0 5 = true := inB_yes (by omega)
  rw [← hd]
  clear hd
  go_enter Try.func79, Try.ntmps79
  go_wp2_with (first
    | (go_at_call 68; refine (Tab.bits _ _).mono ?_; rintro e w' ⟨rfl, rfl⟩)
    | (go_at_call 107; refine (Tab.fits x n hn _ (by omega)).mono ?_; rintro e w' ⟨rfl, rfl⟩))
  go_ret
  exact ⟨rfl, (Below.refl _ _).alloc (Nat.le_refl _) _⟩

end Go.Proofs.Ytlmhdocfdpbhmaa

namespace Go.Proofs.Ytlmhdocfdpbhmaa
open Go.RowKit Plain
set_option linter.unusedVariables false

theorem Tab.impl_neg (n : Nat) (hn : n ≤ 5) (wd : Int) (h1 : wd < 0) (h2 : -9223372036854775808 ≤ wd) (w : World) :
    Calls Try.prog 79 #[.agg #[.int .i64 n, .int .i64 wd]] w fun e w' => e = .returned (.bool (isT n wd)) ∧ Below w.heap.size w w' := by
  have hd : isT n wd = false := isT_no (by omega)
  rw [hd]
  clear hd
  obtain ⟨y, hy⟩ := Int.eq_ofNat_of_zero_le (a := wd + 18446744073709551616) (by omega)
  have hf := fullN_le n hn
  have hdf : decide (y ≤ fullN n) = false := decide_eq_false (by omega)
  have hw : IntKind.u64.wrap wd = (y : Int) := by rw [IntKind.wrap_u64]; omega
  have HY := Lib.hid hdf
  have HW := Lib.hid hw
  have h1' : inB n 0 5 = true := inB_yes (by omega)
  have hyb : (y : Int) ≤ 18446744073709551615 := by omega
  clear hdf hw hy hf
  go_enter Try.func79, Try.ntmps79
  go_wp2_with (go_at_call 68; refine (Tab.bits _ _).mono ?_; rintro e w' ⟨rfl, rfl⟩)
  rw [HW.out]
  refine (Tab.fits y n hn _ hyb).mono ?_
  rintro e w' ⟨rfl, rfl⟩
  rw [HY.out]
  go_wp2
  go_ret
  exact ⟨rfl, (Below.refl _ _).alloc (Nat.le_refl _) _⟩

theorem Tab.impl_out (n : Int) (hn : ¬ (0 ≤ n ∧ n ≤ 5)) (wd : Int) (w : World) :
    Calls Try.prog 79 #[.agg #[.int .i64 n, .int .i64 wd]] w fun e w' => e = .returned (.bool (isT n wd)) ∧ Below w.heap.size w w' := by
  rw [isT_out hn]
  have h1 : inB n 0 5 = false := inB_no hn
  clear hn
  go_enter Try.func79, Try.ntmps79
  go_wp2_with (go_at_call 68; refine (Tab.bits _ _).mono ?_; rintro e w' ⟨rfl, rfl⟩)
  go_ret
  exact ⟨rfl, (Below.refl _ _).alloc (Nat.le_refl _) _⟩

/-- IsTable of the program. -/
theorem Tab.impl (n wd : Int) (hb : -9223372036854775808 ≤ wd ∧ wd ≤ 9223372036854775807) (w : World) :
    Calls Try.prog 79 #[.agg #[.int .i64 n, .int .i64 wd]] w fun e w' => e = .returned (.bool (isT n wd)) ∧ Below w.heap.size w w' := by
  by_cases h : 0 ≤ n ∧ n ≤ 5
  · obtain ⟨m, rfl⟩ := Int.eq_ofNat_of_zero_le h.1
    by_cases hw : wd < 0
    · exact Tab.impl_neg m (by omega) wd hw hb.1 w
    · obtain ⟨x, rfl⟩ := Int.eq_ofNat_of_zero_le (a := wd) (by omega)
      exact Tab.impl_in m x (by omega) hb.2 w
  · exact Tab.impl_out n h wd w

/-- toTable makes three boxes: the argument's, the result's, the local one's. -/
theorem Tab.copyX (n wd : Int) (w : World) :
    Calls Try.prog 58 #[.agg #[.int .i64 n, .int .i64 wd]] w fun e w' => e = .returned (.agg #[.int .i64 n, .int .i64 wd]) ∧ ((w.alloc (.cells #[.int .i64 n, .int .i64 wd] 52)).alloc (.cells #[.int .i64 n, .int .i64 wd] 27)).alloc (.cells #[.int .i64 n, .int .i64 wd] 27) = w' := by
  go_enter Try.func58, Try.ntmps58
  go_wp2
  exact bodyPost_ret (v := .agg #[.int .i64 n, .int .i64 wd]) (by simp [results, Try.results58, go_sem]) rfl ⟨rfl, rfl⟩

theorem Tab.copy (n wd : Int) (w : World) :
    Calls Try.prog 58 #[.agg #[.int .i64 n, .int .i64 wd]] w fun e w' => e = .returned (.agg #[.int .i64 n, .int .i64 wd]) ∧ Below w.heap.size w w' :=
  (Tab.copyX n wd w).mono fun e w' ⟨h1, h2⟩ => ⟨h1, h2 ▸ (((Below.refl _ _).alloc (Nat.le_refl _) _).alloc (by simp) _).alloc (by simp; omega) _⟩

theorem Tab.same (n wd : Int) (w : World) :
    Calls Try.prog 62 #[.agg #[.int .i64 n, .int .i64 wd], .agg #[.int .i64 n, .int .i64 wd]] w fun e w' => e = .returned (.bool true) ∧ Below w.heap.size w w' := by
  go_enter Try.func62, Try.ntmps62
  go_wp2
  go_ret
  exact ⟨rfl, ((Below.refl _ _).alloc (Nat.le_refl _) _).alloc (by simp) _⟩

end Go.Proofs.Ytlmhdocfdpbhmaa
