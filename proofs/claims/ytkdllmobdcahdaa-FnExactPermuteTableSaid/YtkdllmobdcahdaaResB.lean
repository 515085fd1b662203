/-
  VariableTable of the program: a table made by a function value.
-/
import Derived.Test.YtkdllmobdcahdaaResA
import Derived.Shelf.Abstract
namespace Go.Proofs.Ytkdllmobdcahdaa
open Go.RowKit Plain
set_option linter.unusedVariables false

theorem varW_tabN (i k : Nat) : varW i k = tabN (fun x => bitN x i) k := by
  induction k with
  | zero => rfl
  | succ k ih =>
    show (if bitN k i = 1 then varW i k ||| 2 ^ k else varW i k) = (if bitN k i = 1 then tabN (fun x => bitN x i) k ||| 2 ^ k else tabN (fun x => bitN x i) k)
    rw [ih]

theorem Gives.of_same {g : Nat} {lb : Array Value} {n : Nat} {v : Nat → Nat} {w : World}
    (h : ∀ (W : World) (x : Nat), x < 2 ^ n → Below w.heap.size w W → Calls Try.prog g (#[.int .i64 x] ++ lb) W fun e w' => e = .returned (.int .i64 (v x : Int)) ∧ W = w') : Gives g lb n v w :=
  fun W x hx hb => (h W x hx hb).mono fun e w' ⟨h1, h2⟩ => ⟨h1, h2 ▸ Below.refl _ _⟩
theorem Gives.of_drew {g : Nat} {lb : Array Value} {n : Nat} {v : Nat → Nat} {w : World}
    (h : ∀ (W : World) (x : Nat), x < 2 ^ n → Below w.heap.size w W → Calls Try.prog g (#[.int .i64 x] ++ lb) W fun e w' => e = .returned (.int .i64 (v x : Int)) ∧ ∃ m, w' = W.drewN m) : Gives g lb n v w :=
  fun W x hx hb => (h W x hx hb).mono fun e w' ⟨h1, m, h2⟩ => ⟨h1, h2 ▸ below_drewN (Below.refl _ _) m⟩
/-- A cell that lay when the function value was made. -/
theorem cellOn {w W : World} {p : Addr} {v : Value} (hb : Below w.heap.size w W) (h : w.cell? p = some v) : W.cell? p = some v :=
  (hb.cell (World.block_lt_of_cell? w p h)).trans h

theorem Clo.var (b i x : Nat) (hx : x < 2 ^ 5) (hi : (i : Int) ≤ 5) (W : World) (hc : W.cell? ⟨b, 0, none⟩ = some (.int .i64 (i : Int))) :
    Calls Try.prog 85 #[.int .i64 x, .pointer (some ⟨b, 0, none⟩)] W fun e w' => e = .returned (.int .i64 (bitN x i : Int)) ∧ W = w' := by
  have hx' : (x : Int) ≤ 31 := by omega
  have H := Lib.hid (bit_i64 x i (by omega))
  clear hx
  go_enter Try.func85, Try.ntmps85
  go_wp2
  go_ret
  exact ⟨ret_int H.out, rfl⟩

theorem Tab.varI_no1 (n i : Int) (hn : ¬ (0 ≤ n ∧ n ≤ 5)) (w : World) :
    Calls Try.prog 41 #[.int .i64 n, .int .i64 i] w fun e w' => e = .returned (.tuple #[.agg #[.int .i64 0, .int .i64 0], .bool false]) ∧ Below w.heap.size w w' := by
  have H := Lib.hid hn
  clear hn
  go_enter Try.func41, Try.ntmps41
  go_wp2_with fail
  refine (Tab.bits_no _ H.out _).mono ?_
  rintro e w1 ⟨rfl, rfl⟩
  go_wp2
  exact bodyPost_ret (v := .tuple #[.agg #[.int .i64 0, .int .i64 0], .bool false]) (by simp [results, Try.results41, go_sem]) rfl ⟨rfl, ((Below.refl _ _).alloc (Nat.le_refl _) _).alloc (by simp) _⟩

theorem Tab.varI_no2 (n : Nat) (i : Int) (hn : n ≤ 5) (hi : ¬ (0 ≤ i ∧ i ≤ (n : Int) - 1)) (w : World) :
    Calls Try.prog 41 #[.int .i64 n, .int .i64 i] w fun e w' => e = .returned (.tuple #[.agg #[.int .i64 0, .int .i64 0], .bool false]) ∧ Below w.heap.size w w' := by
  have H : Hid (¬ (0 ≤ i ∧ i < (n : Int))) := Lib.hid (by omega)
  clear hi
  go_enter Try.func41, Try.ntmps41
  go_wp2_with fail
  refine (Tab.bits_yes _ (by omega) _).mono ?_
  rintro e w1 ⟨rfl, rfl⟩
  go_wp2_with fail
  refine (Tab.isVar_no _ _ H.out _).mono ?_
  rintro e w1 ⟨rfl, rfl⟩
  go_wp2
  exact bodyPost_ret (v := .tuple #[.agg #[.int .i64 0, .int .i64 0], .bool false]) (by simp [results, Try.results41, go_sem]) rfl ⟨rfl, ((Below.refl _ _).alloc (Nat.le_refl _) _).alloc (by simp) _⟩

theorem pow5 {n x : Nat} (hn : n ≤ 5) (hx : x < 2 ^ n) : x < 2 ^ 5 := Nat.lt_of_lt_of_le hx (Nat.pow_le_pow_right (by decide) hn)

set_option maxRecDepth 100000 in
set_option maxHeartbeats 800000 in
theorem Tab.varI_yes (n i : Nat) (hn : n ≤ 5) (hi : (i : Int) ≤ (n : Int) - 1) (w : World) :
    Calls Try.prog 41 #[.int .i64 n, .int .i64 i] w fun e w' => e = .returned (.tuple #[.agg #[.int .i64 n, .int .i64 (varW i (2 ^ n) : Int)], .bool true]) ∧ Below w.heap.size w w' := by
  rw [varW_tabN]
  have HN := Lib.hid hn
  go_enter Try.func41, Try.ntmps41
  go_wp2_with fail
  refine (Tab.bits_yes _ (by omega) _).mono ?_
  rintro e w1 ⟨rfl, rfl⟩
  go_wp2_with fail
  refine (Tab.isVar_yes _ _ (by omega) _).mono ?_
  rintro e w1 ⟨rfl, rfl⟩
  go_wp2_with fail
  refine (Tab.from_any n hn (fun x => bitN x i) 85 #[.pointer (some ⟨w.heap.size, 0, none⟩)] (enters_of Try.func85 (by kernel_rfl) rfl) _ ?gv).mono ?_
  case gv => exact .of_same fun W x hx hb => Clo.var _ i x (pow5 HN.out hx) (by omega) W (cellOn hb (by simp))
  rintro e w1 ⟨rfl, hb⟩
  obtain ⟨hc, hf⟩ := bcell hb
  have hz : w.heap.size + 1 < w1.heap.size := by have := hb.size; simp at this; omega
  go_wp2
  exact bodyPost_ret (v := .tuple #[.agg #[.int .i64 n, .int .i64 (tabN (fun x => bitN x i) (2 ^ n) : Int)], .bool true]) (by simp [results, Try.results41, go_sem, hc]) rfl ⟨rfl, bS (by simp) (bS (by simp) (((((Below.refl _ _).alloc (Nat.le_refl _) _).alloc (by simp) _).trans (hb.mono (by simp; omega)))))⟩

/-- VariableTable of the program. -/
theorem Tab.varI (n i : Int) (w : World) :
    Calls Try.prog 41 #[.int .i64 n, .int .i64 i] w fun e w' => e = .returned (.tuple #[.agg #[.int .i64 (varT n i).1, .int .i64 (varT n i).2.1], .bool (varT n i).2.2]) ∧ Below w.heap.size w w' := by
  by_cases hn : 0 ≤ n ∧ n ≤ 5
  · obtain ⟨m, rfl⟩ := Int.eq_ofNat_of_zero_le hn.1
    by_cases hi : 0 ≤ i ∧ i ≤ (m : Int) - 1
    · obtain ⟨j, rfl⟩ := Int.eq_ofNat_of_zero_le hi.1
      rw [varT_yes m j (by omega) hi.2]
      exact Tab.varI_yes m j (by omega) hi.2 w
    · rw [varT_no (fun h => hi h.2)]
      exact Tab.varI_no2 m i (by omega) hi w
  · rw [varT_no (fun h => hn h.1)]
    exact Tab.varI_no1 n i hn w
end Go.Proofs.Ytkdllmobdcahdaa
