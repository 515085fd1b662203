/-
  Chapter 8: IsEvasive of the program (by itself).
-/
import Derived.Test.YtdhdkonokbkdoaaGreatDoorLdJ
namespace Go.Proofs.YtdhdkonokbkdoaaGreatDoor
open Go.RowKit Plain
set_option linter.unusedVariables false

/-- What IsEvasive answers. -/
def Plain.evaB (n a : Int) : Bool := isT n a && (ldT n a == n)

set_option maxRecDepth 100000 in
set_option maxHeartbeats 1000000 in
/-- IsEvasive of the program. -/
theorem Eva.impl (n a : Int) (hb : -9223372036854775808 ≤ a ∧ a ≤ 9223372036854775807) (w : World) :
    Calls Tryz.prog 16 #[.agg #[.int .i64 n, .int .i64 a]] w fun e w' => e = .returned (.bool (evaB n a)) ∧ Below w.heap.size w w' := by
  have HB := Lib.hid hb
  cases ht : isT n a with
  | false =>
    have HE : Hid (evaB n a = false) := Lib.hid (by unfold Plain.evaB; rw [ht]; rfl)
    have H := Lib.hid ht
    rw [HE.out]
    clear ht hb HE
    go_enter Tryz.func16, Tryz.ntmps16
    go_wp2_with fail
    first | (go_region_with ((go_at_call 45; refine (Tab.implV _ _ HB.out _ H.out _).mono ?_; rintro e w1 ⟨rfl, hb⟩))) | (fail)
    all_goals
      go_wp2
      go_ret
      exact ⟨rfl, bB hb (by simp) (bD (bA (Nat.le_refl _) (Below.refl _ _)))⟩
  | true =>
    have HE : Hid (evaB n a = (ldT n a == n)) := Lib.hid (by unfold Plain.evaB; rw [ht]; rfl)
    have HT := Lib.hid (fun w => Tab.implV n a hb true ht w)
    have HD := Lib.hid (fun w => Ld.impl n a hb w)
    rw [HE.out]
    generalize ldT n a = z at *
    clear ht hb HE
    go_enter Tryz.func16, Tryz.ntmps16
    go_wp2_with fail
    go_region_held3 (fun w' => w'.cell? ⟨w.heap.size, 0, none⟩ = some (.int .i64 n) ∧ w'.cell? ⟨w.heap.size, 1, none⟩ = some (.int .i64 a)) ((first | (go_split_ands; (try dsimp only); (refine ⟨?_, ?_⟩ <;> (repeat (first | with_reducible assumption | ((with_reducible refine keepU ?_); (with_reducible assumption)) | (with_reducible refine keepD ?_) | ((with_reducible refine keepN ?_ ?_); (focus (simp; done)); (focus rfl)) | (with_reducible refine keepA ?_) | (with_reducible refine keepB hb3 ?_) | (with_reducible refine keepB hb4 ?_)))); done) | go_keep))
      (first
        | (with_reducible refine (HT.out _).mono ?_; rintro e w3 ⟨rfl, hb3⟩; obtain ⟨hc3, hf3⟩ := bcell hb3; have hs3 := hb3.size; try simp only [World.size_alloc, World.size_drew] at hs3)
        | (with_reducible refine (HD.out _).mono ?_; rintro e w4 ⟨rfl, hb4⟩; obtain ⟨hc4, hf4⟩ := bcell hb4; have hs4 := hb4.size; try simp only [World.size_alloc, World.size_drew] at hs4))
    all_goals
      go_wp2
      go_ret
      exact ⟨rfl, by repeat (first | (with_reducible exact Below.refl _ _) | (with_reducible refine bD ?_) | ((with_reducible refine bB hb4 ?_ ?_); (focus (first | omega | (simp; done) | (simp; omega)))) | ((with_reducible refine bB hb3 ?_ ?_); (focus (first | omega | (simp; done) | (simp; omega)))) | ((with_reducible refine bA ?_ ?_); (focus (first | omega | (simp; done) | (simp; omega)))))⟩

end Go.Proofs.YtdhdkonokbkdoaaGreatDoor
