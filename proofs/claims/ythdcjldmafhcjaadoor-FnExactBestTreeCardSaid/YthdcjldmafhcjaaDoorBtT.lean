/-
  Chapter 7: BestTree of the program.
-/
import Derived.Test.YthdcjldmafhcjaaDoorBtS
namespace Go.Proofs.YthdcjldmafhcjaaDoor
open Go.RowKit Plain
set_option linter.unusedVariables false

theorem four_vars (n : Nat) (hn : n ≤ 4) {W : World} {g : Nat} {T : TypeId} (h : W.heap[g]? = some (.cells #[.int .i64 0, .int .i64 1, .int .i64 2, .int .i64 3] T (0, 0))) : VarsAt W (.slice (some ⟨g, 0, none⟩) n 4) (List.range n) := by
  have hl : (List.range n).length = n := List.length_range
  obtain ⟨q0, q1, q2, q3⟩ := quad_cells h
  refine ⟨_, 4, by rw [hl], by rw [hl]; exact hn, by decide, fun _ => ⟨g, rfl, fun j hj => ?_⟩⟩
  rw [hl] at hj
  have e : (List.range n).getD j 0 = j := by
    rw [List.getD_eq_getElem?_getD, List.getElem?_range hj]; rfl
  rw [e]
  have : j = 0 ∨ j = 1 ∨ j = 2 ∨ j = 3 := by omega
  rcases this with rfl | rfl | rfl | rfl
  · exact q0
  · exact q1
  · exact q2
  · exact q3

set_option maxRecDepth 100000 in
set_option maxHeartbeats 4000000 in
/-- BestTree of the program. -/
theorem Bst.impl (n a : Int) (hb : -9223372036854775808 ≤ a ∧ a ≤ 9223372036854775807) (w : World) (hp : Pow10 w) :
    Calls Tryd.prog 6 #[.agg #[.int .i64 n, .int .i64 a]] w fun e w' => e = .returned (btV n a) ∧ Below w.heap.size w w' := by
  have HH := Lib.hid (Hb.any n a hb)
  cases hc : btB n a with
  | false =>
    rw [btV_no hc]
    rw [hc] at HH
    clear hc hb hp
    go_enter Tryd.func6, Tryd.ntmps6
    go_wp2_with fail
    refine (HH.out _).mono ?_
    rintro e w1 ⟨rfl, hb1⟩
    go_wp2_with fail
    go_ret2
    exact ⟨rfl, bB hb1 (by simp) (bA (Nat.le_refl _) (Below.refl _ _))⟩
  | true =>
    rw [hc] at HH
    obtain ⟨m, x, rfl, rfl, hm, hx, _⟩ := btB_yes hc
    rw [btV_yes hc]
    have HP := Lib.hid hp
    have HTR := Lib.hid (fun (v : Value) (w : World) (h : VarsAt w v (List.range m)) => Btr.any m x v (List.range m) w hm hx h List.length_range (fun y hy => by have := List.mem_range.1 hy; omega))
    have hln := bst_len m x (List.range m)
    have hpw : 2 ^ (m + 1) ≤ 2 ^ 5 := Nat.pow_le_pow_right (n := 2) (by decide) (by omega)
    have HTX := Lib.hid (fun (base b : Nat) (w : World) (h1 : TrIn base w (bst m x (List.range m)) b) (h2 : Pow10 w) => Txt.any (bst m x (List.range m)) (by omega) base b w h1 h2)
    generalize bst m x (List.range m) = T at *
    have hm4 : (m : Int) ≤ 4 := by omega
    have HM := Lib.hid hm
    clear hc hb hx hp hln hpw hm
    go_enter Tryd.func6, Tryd.ntmps6
    go_wp2_with fail
    refine (HH.out _).mono ?_
    rintro e w1 ⟨rfl, hb1⟩
    have HX0 : w1.heap[w.heap.size]? = some (.cells #[.int .i64 (m : Int), .int .i64 (x : Int)] 26 (0, 0)) := blockB hb1 (heap_alloc_new w _)
    obtain ⟨c0, c1, f0, f1⟩ := cells2 HX0
    have hz := lt_of_block HX0
    have HB1 : Hid (Below w.heap.size w w1) := Lib.hid (bB hb1 (by simp) (bA (Nat.le_refl _) (Below.refl _ _)))
    clear hb1 HX0
    go_wp2_with fail
    have HVA := Lib.hid (four_vars m HM.out (heap_alloc_new w1 (.cells #[.int .i64 0, .int .i64 1, .int .i64 2, .int .i64 3] 31 (0, 0))))
    have HPW := Lib.hid (HP.out.stays (bA (B := w.heap.size) (o := .cells #[.int .i64 0, .int .i64 1, .int .i64 2, .int .i64 3] 31 (0, 0)) (by omega) HB1.out) (Nat.le_refl _))
    have HB2 : Hid (Below w.heap.size w (w1.alloc (.cells #[.int .i64 0, .int .i64 1, .int .i64 2, .int .i64 3] 31 (0, 0)))) := Lib.hid (bA (by omega) HB1.out)
    have k0 : (w1.alloc (.cells #[.int .i64 0, .int .i64 1, .int .i64 2, .int .i64 3] 31 (0, 0))).cell? ⟨w.heap.size, 0, none⟩ = some (.int .i64 (m : Int)) := keepA c0
    have k1 : (w1.alloc (.cells #[.int .i64 0, .int .i64 1, .int .i64 2, .int .i64 3] 31 (0, 0))).cell? ⟨w.heap.size, 1, none⟩ = some (.int .i64 (x : Int)) := keepA c1
    have hzw : (w1.alloc (.cells #[.int .i64 0, .int .i64 1, .int .i64 2, .int .i64 3] 31 (0, 0))).heap.size = w1.heap.size + 1 := by simp
    clear c0 c1 f0 f1
    generalize w1.alloc (.cells #[.int .i64 0, .int .i64 1, .int .i64 2, .int .i64 3] 31 (0, 0)) = W at *
    go_region_with (first
      | (go_at_call 10; refine (HTR.out _ _ (HVA.out.below (by repeat (first | (with_reducible exact Below.refl _ _) | (with_reducible refine bD ?_) | ((with_reducible refine bB hb3 ?_ ?_); (focus (first | omega | (simp; done) | (simp; omega)))))))).mono ?_; rintro e w3 ⟨b, rfl, hti, hb3⟩; have HTI := Lib.hid hti; have hs3 := hb3.size; (try simp only [World.size_drew] at hs3); clear hti)
      | (go_at_call 11; refine (HTX.out _ _ _ (HTI.out.below (by repeat (first | (with_reducible exact Below.refl _ _) | (with_reducible refine bD ?_) | ((with_reducible refine bB hb3 ?_ ?_); (focus (first | omega | (simp; done) | (simp; omega))))))) (HPW.out.stays (by repeat (first | (with_reducible exact Below.refl _ _) | (with_reducible refine bD ?_) | ((with_reducible refine bB hb3 ?_ ?_); (focus (first | omega | (simp; done) | (simp; omega)))))) (Nat.le_refl _))).mono ?_; rintro e w4 ⟨rfl, hb4⟩))
    all_goals
      go_wp2
      go_ret2
      exact ⟨rfl, by repeat (first | (with_reducible exact HB2.out) | (with_reducible refine bD ?_) | ((with_reducible refine bB hb4 ?_ ?_); (focus (first | omega | (simp; omega)))) | ((with_reducible refine bB hb3 ?_ ?_); (focus (first | omega | (simp; omega)))))⟩

end Go.Proofs.YthdcjldmafhcjaaDoor
