/-
  RestrictTable of the program.
-/
import Derived.Test.YtecakbjcnabpnaaResC
namespace Go.Proofs.Ytecakbjcnabpnaa
open Go.RowKit Plain
set_option linter.unusedVariables false

theorem Tab.resI_no1 (n a i b : Int) (hb : -9223372036854775808 ≤ a ∧ a ≤ 9223372036854775807) (ht : isT n a = false) (w : World) :
    Calls Try.prog 12 #[.agg #[.int .i64 n, .int .i64 a], .int .i64 i, .int .i64 b] w fun e w' => e = .returned (.tuple #[.agg #[.int .i64 0, .int .i64 0], .bool false]) ∧ Below w.heap.size w w' := by
  have H := Lib.hid ht
  have HB := Lib.hid hb
  clear ht hb
  go_enter Try.func12, Try.ntmps12
  go_wp2_with fail
  refine (Tab.impl _ _ HB.out _).mono ?_
  rintro e w1 ⟨rfl, hb1⟩
  obtain ⟨hc, hf⟩ := bcell hb1
  have hz : w.heap.size < w1.heap.size ∧ w.heap.size + 1 < w1.heap.size ∧ w.heap.size + 1 + 1 < w1.heap.size ∧ w.heap.size + 1 + 1 + 1 < w1.heap.size := by have := hb1.size; simp at this; omega
  obtain ⟨hz0, hz1, hz2, hz3⟩ := hz
  rw [H.out]
  go_wp2
  exact bodyPost_ret (v := .tuple #[.agg #[.int .i64 0, .int .i64 0], .bool false]) (by simp [results, Try.results12, go_sem, hc]) rfl ⟨rfl, bS (by simp; omega) (bS (by simp; omega) ((((((Below.refl _ _).alloc (Nat.le_refl _) _).alloc (by simp) _).alloc (by simp; omega) _).alloc (by simp; omega) _).trans (hb1.mono (by simp; omega))))⟩

theorem Tab.resI_no2 (n a : Nat) (i b : Int) (ht : isT n a = true) (ha : (a : Int) ≤ 4294967295) (hi : ¬ (0 ≤ i ∧ i ≤ (n : Int) - 1)) (w : World) :
    Calls Try.prog 12 #[.agg #[.int .i64 n, .int .i64 a], .int .i64 i, .int .i64 b] w fun e w' => e = .returned (.tuple #[.agg #[.int .i64 0, .int .i64 0], .bool false]) ∧ Below w.heap.size w w' := by
  have H := Lib.hid ht
  have HI : Hid (¬ (0 ≤ i ∧ i < (n : Int))) := Lib.hid (by omega)
  clear ht hi
  go_enter Try.func12, Try.ntmps12
  go_wp2_with fail
  refine (Tab.impl _ _ (by omega) _).mono ?_
  rintro e w1 ⟨rfl, hb1⟩
  obtain ⟨hc, hf⟩ := bcell hb1
  have hz : w.heap.size < w1.heap.size ∧ w.heap.size + 1 < w1.heap.size ∧ w.heap.size + 1 + 1 < w1.heap.size ∧ w.heap.size + 1 + 1 + 1 < w1.heap.size := by have := hb1.size; simp at this; omega
  obtain ⟨hz0, hz1, hz2, hz3⟩ := hz
  rw [H.out]
  go_wp2_with fail
  refine (Tab.isVar_no _ _ HI.out _).mono ?_
  rintro e w2 ⟨rfl, rfl⟩
  go_wp2
  exact bodyPost_ret (v := .tuple #[.agg #[.int .i64 0, .int .i64 0], .bool false]) (by simp [results, Try.results12, go_sem, hc]) rfl ⟨rfl, bS (by simp; omega) (bS (by simp; omega) ((((((Below.refl _ _).alloc (Nat.le_refl _) _).alloc (by simp) _).alloc (by simp; omega) _).alloc (by simp; omega) _).trans (hb1.mono (by simp; omega))))⟩

theorem Tab.resI_no3 (n a i : Nat) (b : Int) (ht : isT n a = true) (ha : (a : Int) ≤ 4294967295) (hi : (i : Int) ≤ (n : Int) - 1) (hb : ¬ (0 ≤ b ∧ b ≤ 1)) (w : World) :
    Calls Try.prog 12 #[.agg #[.int .i64 n, .int .i64 a], .int .i64 i, .int .i64 b] w fun e w' => e = .returned (.tuple #[.agg #[.int .i64 0, .int .i64 0], .bool false]) ∧ Below w.heap.size w w' := by
  have H := Lib.hid ht
  have HB := Lib.hid hb
  clear ht hb
  go_enter Try.func12, Try.ntmps12
  go_wp2_with fail
  refine (Tab.impl _ _ (by omega) _).mono ?_
  rintro e w1 ⟨rfl, hb1⟩
  obtain ⟨hc, hf⟩ := bcell hb1
  have hz : w.heap.size < w1.heap.size ∧ w.heap.size + 1 < w1.heap.size ∧ w.heap.size + 1 + 1 < w1.heap.size ∧ w.heap.size + 1 + 1 + 1 < w1.heap.size := by have := hb1.size; simp at this; omega
  obtain ⟨hz0, hz1, hz2, hz3⟩ := hz
  rw [H.out]
  go_wp2_with fail
  refine (Tab.isVar_yes _ _ (by omega) _).mono ?_
  rintro e w2 ⟨rfl, rfl⟩
  go_wp2_with fail
  refine (Tab.isVal_no _ HB.out _).mono ?_
  rintro e w2 ⟨rfl, rfl⟩
  go_wp2
  exact bodyPost_ret (v := .tuple #[.agg #[.int .i64 0, .int .i64 0], .bool false]) (by simp [results, Try.results12, go_sem, hc]) rfl ⟨rfl, bS (by simp; omega) (bS (by simp; omega) ((((((Below.refl _ _).alloc (Nat.le_refl _) _).alloc (by simp) _).alloc (by simp; omega) _).alloc (by simp; omega) _).trans (hb1.mono (by simp; omega))))⟩

set_option maxRecDepth 100000 in
set_option maxHeartbeats 800000 in
theorem Tab.resI_yes (n a i b : Nat) (hn : n ≤ 5) (ht : isT n a = true) (ha : (a : Int) ≤ 4294967295) (hi : (i : Int) ≤ (n : Int) - 1) (hb : (b : Int) ≤ 1) (w : World) :
    Calls Try.prog 12 #[.agg #[.int .i64 n, .int .i64 a], .int .i64 i, .int .i64 b] w fun e w' => e = .returned (.tuple #[.agg #[.int .i64 ((n : Int) - 1), .int .i64 (restW n a i b : Int)], .bool true]) ∧ Below w.heap.size w w' := by
  have H := Lib.hid ht
  have HN := Lib.hid hn
  have HE : Hid (((n - 1 : Nat) : Int) = (n : Int) - 1) := Lib.hid (by omega)
  have hn5 : (n : Int) ≤ 5 := by omega
  have hn1 : 1 ≤ (n : Int) := by omega
  clear ht hn
  go_enter Try.func12, Try.ntmps12
  go_wp2_with fail
  refine (Tab.impl _ _ (by omega) _).mono ?_
  rintro e w1 ⟨rfl, hb1⟩
  obtain ⟨hc, hf⟩ := bcell hb1
  have hz : w.heap.size < w1.heap.size ∧ w.heap.size + 1 < w1.heap.size ∧ w.heap.size + 1 + 1 < w1.heap.size ∧ w.heap.size + 1 + 1 + 1 < w1.heap.size := by have := hb1.size; simp at this; omega
  obtain ⟨hz0, hz1, hz2, hz3⟩ := hz
  rw [H.out]
  go_wp2_with fail
  refine (Tab.isVar_yes _ _ (by omega) _).mono ?_
  rintro e w2 ⟨rfl, rfl⟩
  go_wp2_with fail
  refine (Tab.isVal_yes _ (by omega) _).mono ?_
  rintro e w2 ⟨rfl, rfl⟩
  go_wp2_with fail
  rw [← HE.out]
  refine (Tab.from_any (n - 1) (by have := HN.out; omega) (fun x => bitN a (insN x i b)) 59 #[.pointer (some ⟨w1.heap.size, 0, none⟩), .pointer (some ⟨w.heap.size + 1, 0, none⟩), .pointer (some ⟨w.heap.size + 1 + 1, 0, none⟩)] (enters_of Try.func59 (by kernel_rfl) rfl) _ ?gv).mono ?_
  case gv => exact .of_drew fun W x hx hbb => Clo.res _ _ _ a i b x (pow5 (by have := HN.out; omega) hx) (by have := HN.out; omega) (by omega) ha W (cellOn hbb (by simp)) (cellOn hbb (keepA (keepB hb1 (keepA (keepA (keepN (by simp) rfl)))))) (cellOn hbb (keepA (keepB hb1 (keepA (keepN (by simp) rfl)))))
  rw [HE.out]
  rintro e w3 ⟨rfl, hb3⟩
  obtain ⟨hc3, hf3⟩ := bcell hb3
  have hy3 : w1.heap.size < w3.heap.size := by have := hb3.size; simp at this; omega
  go_wp2
  obtain ⟨k0, k1⟩ := keepT (Y := w3) (g := w.heap.size + 1 + 1 + 1) (u := .int .i64 ((n : Int) - 1)) (v := .int .i64 (tabN (fun x => bitN a (insN x i b)) (2 ^ (n - 1)) : Int)) (keepB hb3 (keepA (keepB hb1 (keepN (by simp) rfl)))) (keepB hb3 (keepA (keepB hb1 (keepN (by simp) rfl))))
  exact bodyPost_ret (v := .tuple #[.agg #[.int .i64 ((n : Int) - 1), .int .i64 (tabN (fun x => bitN a (insN x i b)) (2 ^ (n - 1)) : Int)], .bool true]) (by simp [results, Try.results12, go_sem, k0, k1]) rfl ⟨rfl, bS (by simp; omega) (bS (by simp; omega) ((((((((Below.refl _ _).alloc (Nat.le_refl _) _).alloc (by simp) _).alloc (by simp; omega) _).alloc (by simp; omega) _).trans (hb1.mono (by simp; omega))).alloc (by omega) _).trans (hb3.mono (by simp; omega))))⟩
end Go.Proofs.Ytecakbjcnabpnaa
