/-
  Chapter 7: AverageOf of the program.
-/
import Derived.Test.YthdcjldmafhcjaaTreM
namespace Go.Proofs.Ythdcjldmafhcjaa
open Go.RowKit Plain Go.Shelf
set_option linter.unusedVariables false

set_option maxRecDepth 100000 in
set_option maxHeartbeats 1000000 in
/-- AverageOf of the program. -/
theorem Avg.impl (s : ByteArray) (n : Int) (w : World) :
    Calls Try.prog 47 #[.string s, .int .i64 n] w fun e w' => e = .returned (.int .i64 (avgD s n)) ∧ Below w.heap.size w w' := by
  have HM := Lib.hid (Tot.impl s n)
  cases ht : (totD s n).2.2 with
  | false =>
    rw [avgD_no ht]
    generalize totD s n = r at *
    obtain ⟨x, y, b⟩ := r
    dsimp only at ht
    subst ht
    go_enter Try.func47, Try.ntmps47
    go_wp2_with fail
    refine (HM.out _).mono ?_
    rintro e w2 ⟨rfl, hb⟩
    go_wp2_with fail
    go_ret
    exact ⟨rfl, by repeat (first | (with_reducible exact hb) | ((with_reducible refine bS ?_ ?_); (focus (dsimp only; first | exact hb.size | omega))) | ((with_reducible refine bA ?_ ?_); (focus (first | exact hb.size | omega | (simp; done) | (simp; omega)))))⟩
  | true =>
    obtain ⟨T, m, hT, rfl, hm5⟩ := tot_is ht
    rw [avgD_yes ht hT, Int.toNat_natCast]
    obtain ⟨hp1, hp2⟩ := two_pow_int m hm5
    have hok := (asD_some hT).2.1
    have HQ := Lib.hid (fun (x : Nat) (hx : (x : Int) ≤ 31) (w : World) => by have := Qu.impl s x w; rw [quD_in hT hx] at this; exact this)
    have HS := Lib.hid (sumK_le hok)
    have HN := Lib.hid (num_5 hok)
    have HC := Lib.hid (Tab.count m hm5)
    clear hT hok
    generalize totD s m = r at *
    obtain ⟨x, y, b⟩ := r
    dsimp only at ht
    subst ht
    go_enter Try.func47, Try.ntmps47
    go_wp2_with fail
    refine (HM.out _).mono ?_
    rintro e w2 ⟨rfl, hb⟩
    have HB := Lib.hid hb
    have hz := hb.size
    clear hb
    go_wp2_with fail
    refine (HC.out _).mono ?_
    rintro e w3 ⟨rfl, rfl⟩
    go_wp2_with fail
    go_loopw [7, 19] (fun k x wr => ∃ z : Nat, x = .int .i64 (z : Int) ∧ k = .int .i64 (sumK T z : Int) ∧ (z : Int) ≤ 2 ^ m ∧ Below w.heap.size w wr) (fun _ x _ => 40 - (intOf x).toNat)
    case atStart => exact ⟨0, rfl, rfl, by omega, by repeat (first | (with_reducible exact HB.out) | ((with_reducible refine bS ?_ ?_); (focus (dsimp only; omega))) | ((with_reducible refine bA ?_ ?_); (focus (first | omega | (simp; done) | (simp; omega)))))⟩
    case round =>
      obtain ⟨z, rfl, rfl, hy, hbel⟩ := hrel
      have HBL := Lib.hid hbel
      have hz2 := hbel.size
      clear hbel
      by_cases hlt : (z : Int) < 2 ^ m
      · have HQ2 := Lib.hid (HQ.out z (by omega))
        have hs1 : (sumK T z : Int) ≤ 160 := by have := HS.out z; omega
        have hn1 : (numD T z : Int) ≤ 5 := by have := HN.out z; omega
        have HE : Hid ((sumK T (z + 1) : Int) = (sumK T z : Int) + (numD T z : Int)) := Lib.hid (by show ((sumK T z + numD T z : Nat) : Int) = _; omega)
        go_wp2_with fail
        refine (HQ2.out _).mono ?_
        rintro e w4 ⟨rfl, hb4⟩
        have HB4 := Lib.hid hb4
        clear hb4
        go_wp2_with fail
        go_roundw
        case rel => exact ⟨z + 1, by go_num, by rw [HE.out], by omega, HBL.out.trans (HB4.out.mono hz2)⟩
        case measure => simp [intOf]; omega
      · have he : z = 2 ^ m := by rw [up2] at hy hlt; omega
        have HE : Hid (sumK T z = sumK T (2 ^ m)) := Lib.hid (by rw [he])
        clear he
        go_wp2_with fail
        go_ret
        exact ⟨by rw [← HE.out]; rfl, HBL.out⟩

end Go.Proofs.Ythdcjldmafhcjaa
