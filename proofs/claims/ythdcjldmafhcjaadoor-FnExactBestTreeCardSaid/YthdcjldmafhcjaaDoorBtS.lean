/-
  Chapter 7: the text of a tree, BestTree of the program.
-/
import Derived.Test.YthdcjldmafhcjaaDoorBtR
import Derived.Test.YthdcjldmafhcjaaDoorDoor
namespace Go.Proofs.YthdcjldmafhcjaaDoor
open Go.RowKit Plain
set_option linter.unusedVariables false

theorem finV_self (i : Fin 5) : finV i.val = i := Fin.ext (Nat.mod_eq_of_lt i.isLt)
theorem itoa_bit (b : Bool) : (⟨(Lib.itoa (b.toNat : Int)).toArray⟩ : ByteArray) = ⟨(txtD (.val b)).toArray⟩ := by
  cases b
  all_goals first | (kernel_rfl; done) | (decide +kernel) | (simp [Lib.itoa, txtD]; done)

set_option maxRecDepth 100000 in
set_option maxHeartbeats 8000000 in
/-- text. -/
theorem Txt.any (T : DT) (hT : (txtD T).length ≤ 1000) : ∀ (base b : Nat) (w : World), TrIn base w T b → Pow10 w →
    Calls Tryd.prog 11 #[.pointer (some ⟨b, 0, none⟩)] w fun e w' => e = .returned (.string ⟨(txtD T).toArray⟩) ∧ Below w.heap.size w w' := by
  induction T with
  | val v =>
    intro base b w hti hp
    obtain ⟨h0, c0, c1, c2⟩ := hti
    have HV := Lib.hid (fun w (hp : Pow10 w) => FmtI.impl (v.toNat : Int) (by cases v <;> decide) w hp)
    rw [itoa_bit v] at HV
    have HP := Lib.hid hp
    have HIV := Lib.hid (IsVal.yes w b c1)
    generalize (⟨(txtD (.val v)).toArray⟩ : ByteArray) = s at *
    generalize (v.toNat : Int) = z at *
    clear hp
    go_enter Tryd.func11, Tryd.ntmps11
    go_wp2_with fail
    refine HIV.out.mono ?_
    rintro e w1 ⟨rfl, rfl⟩
    go_wp2_with fail
    refine (HV.out _ HP.out).mono ?_
    rintro e w2 ⟨rfl, hb2⟩
    go_wp2_with fail
    go_ret
    exact ⟨rfl, hb2⟩
  | ask i l r ihl ihr =>
    intro base b w hti hp
    have hlen : (txtD (.ask i l r)).length = (txtD l).length + (txtD r).length + 1 := by simp [txtD]
    rw [hlen] at hT
    obtain ⟨h0, c0, bl, br, c1, c2, hl, hr⟩ := hti
    have HIV := Lib.hid (IsVal.no w b _ c1)
    have HA : Hid (∀ W, Below w.heap.size w W → Calls Tryd.prog 11 #[.pointer (some ⟨bl, 0, none⟩)] W fun e w' => e = .returned (.string ⟨(txtD l).toArray⟩) ∧ Below W.heap.size W w') := Lib.hid fun W hb => ihl (by omega) base bl W (hl.below hb) (hp.stays hb (Nat.le_refl _))
    have HD : Hid (∀ W, Below w.heap.size w W → Calls Tryd.prog 11 #[.pointer (some ⟨br, 0, none⟩)] W fun e w' => e = .returned (.string ⟨(txtD r).toArray⟩) ∧ Below W.heap.size W w') := Lib.hid fun W hb => ihr (by omega) base br W (hr.below hb) (hp.stays hb (Nat.le_refl _))
    have hsl := sliceD i.val i.isLt
    rw [finV_self] at hsl
    have hi5 : (i.val : Int) < 5 := by have := i.isLt; omega
    have hw1 : IntKind.i64.wrap ((i.val : Int) + 1) = (i.val : Int) + 1 := IntWalk.i64_in _ (by omega)
    have HJ1 : ∀ w, (Op.stringOp .add ⟨#[letC i]⟩ ⟨(txtD l).toArray⟩).run Tryd.prog w = .ok (.string ⟨(letC i :: txtD l).toArray⟩) w := fun w => join_text [letC i] _ (by simp; omega) w
    have HJ2 : ∀ w, (Op.stringOp .add ⟨(letC i :: txtD l).toArray⟩ ⟨(txtD r).toArray⟩).run Tryd.prog w = .ok (.string ⟨(txtD (.ask i l r)).toArray⟩) w := fun w => join_text _ _ (by simp; omega) w
    have hlt : b < w.heap.size := by
      by_cases hh : b < w.heap.size
      · exact hh
      · have hn : w.heap[b]? = none := Array.getElem?_eq_none (by omega)
        simp [World.cell?, hn] at c0
    generalize (⟨(txtD (.ask i l r)).toArray⟩ : ByteArray) = s0 at *
    generalize (⟨(letC i :: txtD l).toArray⟩ : ByteArray) = s3 at *
    generalize (⟨(txtD l).toArray⟩ : ByteArray) = s1 at *
    generalize (⟨(txtD r).toArray⟩ : ByteArray) = s2 at *
    generalize (⟨#[letC i]⟩ : ByteArray) = s4 at *
    generalize i.val = I at *
    clear ihl ihr hl hr hp hT hlen
    go_enter Tryd.func11, Tryd.ntmps11
    go_wp2_with fail
    refine HIV.out.mono ?_
    rintro e w1 ⟨rfl, rfl⟩
    go_wp2_with fail
    go_region_held3 (fun w' => w'.cell? ⟨b, 0, none⟩ = some (.int .i64 (I : Int)) ∧ w'.cell? ⟨b, 1, none⟩ = some (.pointer (some ⟨bl, 0, none⟩)) ∧ w'.cell? ⟨b, 2, none⟩ = some (.pointer (some ⟨br, 0, none⟩))) ((first | (go_split_ands; (try dsimp only); (refine ⟨?_, ?_, ?_⟩ <;> (repeat (first | with_reducible assumption | ((with_reducible refine keepU ?_); (with_reducible assumption)) | (with_reducible refine keepD ?_) | (with_reducible refine keepB hb ?_) | (with_reducible refine keepB hb' ?_)))); done) | go_keep))
      (first
        | (with_reducible refine (HA.out _ (by repeat (first | (with_reducible exact Below.refl _ _) | (with_reducible refine bD ?_)))).mono ?_; rintro e w14 ⟨rfl, hb⟩; obtain ⟨hc, hf⟩ := bcell hb; have hs := hb.size; try simp only [World.size_drew] at hs)
        | (with_reducible refine (HD.out _ (by repeat (first | (with_reducible exact Below.refl _ _) | (with_reducible refine bD ?_) | ((with_reducible refine bB hb ?_ ?_); (focus (first | omega | (simp; done) | (simp; omega))))))).mono ?_; rintro e w15 ⟨rfl, hb'⟩; obtain ⟨hc', hf'⟩ := bcell hb'; have hs' := hb'.size; try simp only [World.size_drew] at hs'))
    all_goals
      go_wp2
      go_ret
      exact ⟨rfl, by repeat (first | (with_reducible exact Below.refl _ _) | (with_reducible refine bD ?_) | ((with_reducible refine bB hb ?_ ?_); (focus (first | omega | (simp; done) | (simp; omega)))) | ((with_reducible refine bB hb' ?_ ?_); (focus (first | omega | (simp; done) | (simp; omega)))))⟩

end Go.Proofs.YthdcjldmafhcjaaDoor
