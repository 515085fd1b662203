/-
  Chapter 5: PushNegations of the program and of its model.
-/
import Derived.Test.YtpniefagpinbdaaFrmL
namespace Go.Proofs.Ytpniefagpinbdaa
open Go.RowKit Plain Go.Shelf
set_option linter.unusedVariables false

/-- What PushNegations answers. -/
def pushV (s : ByteArray) : ByteArray × Bool := match asF (lst s) with
  | none => (⟨#[]⟩, false)
  | some f => if (txt (push false f)).length ≤ 60 then (⟨(txt (push false f)).toArray⟩, true) else (⟨#[]⟩, false)
theorem pushV_none {s : ByteArray} (h : asF (lst s) = none) : pushV s = (⟨#[]⟩, false) := by unfold pushV; rw [h]
theorem pushV_yes {s : ByteArray} {f : Frm} (h : asF (lst s) = some f) (hl : (txt (push false f)).length ≤ 60) : pushV s = (⟨(txt (push false f)).toArray⟩, true) := by
  unfold pushV; rw [h]; exact if_pos hl
theorem pushV_no {s : ByteArray} {f : Frm} (h : asF (lst s) = some f) (hl : ¬ (txt (push false f)).length ≤ 60) : pushV s = (⟨#[]⟩, false) := by
  unfold pushV; rw [h]; exact if_neg hl
theorem isF_txt (f : Frm) : isF ⟨(txt f).toArray⟩ = decide ((txt f).length ≤ 60) := by
  unfold isF
  rw [lst_ba]
  by_cases h : (txt f).length ≤ 60
  · rw [asF_txt f h, decide_eq_true h]; rfl
  · rw [asF_long _ h, decide_eq_false h]; rfl

/-- PushNegations of the program. -/
theorem PushN.impl (s : ByteArray) (w : World) :
    Calls Try.prog 21 #[.string s] w fun e w' => e = .returned (.tuple #[.string (pushV s).1, .bool (pushV s).2]) ∧ Below w.heap.size w w' := by
  cases h : asF (lst s) with
  | none =>
    have HI := Is.parse_no h
    rw [pushV_none h]
    clear h
    go_enter Try.func21, Try.ntmps21
    go_wp2_with fail
    refine (HI.out _).mono ?_
    rintro e w1 ⟨rfl, hb⟩
    go_wp2_with fail
    go_ret2
    exact ⟨rfl, hb⟩
  | some f =>
    have HI := Is.parse_yes h
    have HL := Lib.hid (Push.any f (txt_60 h) false)
    have hm := inv_pushed f
    have he := ent_pushed f
    have hz := ba_size (txt (push false f))
    by_cases hl : (txt (push false f)).length ≤ 60
    · rw [pushV_yes h hl]
      clear h
      rw [← hz] at hl
      generalize (⟨(txt (push false f)).toArray⟩ : ByteArray) = r at *
      have hl' : (r.size : Int) ≤ 60 := by omega
      clear hl hz
      go_enter Try.func21, Try.ntmps21
      go_wp2_with fail
      refine (HI.out _).mono ?_
      rintro e w1 ⟨rfl, hb⟩
      go_wp2_with fail
      refine (HL.out _).mono ?_
      rintro e w2 ⟨rfl, hb2⟩
      go_wp2_with fail
      go_ret2
      exact ⟨rfl, bstep hb hb2⟩
    · rw [pushV_no h hl]
      clear h
      rw [← hz] at hl
      generalize (⟨(txt (push false f)).toArray⟩ : ByteArray) = r at *
      have hl' : 60 < (r.size : Int) := by omega
      clear hl hz
      go_enter Try.func21, Try.ntmps21
      go_wp2_with fail
      refine (HI.out _).mono ?_
      rintro e w1 ⟨rfl, hb⟩
      go_wp2_with fail
      refine (HL.out _).mono ?_
      rintro e w2 ⟨rfl, hb2⟩
      go_wp2_with fail
      go_ret2
      exact ⟨rfl, bstep hb hb2⟩

/-- PushNegations of the model. -/
theorem PushN.model (s : ByteArray) (w : World) :
    Calls Try.prog 20 #[.string s] w fun e w' => e = .returned (.tuple #[.string (pushV s).1, .bool (pushV s).2]) ∧ w = w' := by
  cases h : asF (lst s) with
  | none =>
    have HI := Is.model_no h
    rw [pushV_none h]
    clear h
    go_enter Try.func20, Try.ntmps20
    go_wp2_with fail
    refine (HI.out _).mono ?_
    rintro e w1 ⟨rfl, rfl⟩
    go_wp2_with fail
    go_ret2
    exact ⟨rfl, rfl⟩
  | some f =>
    have HI := Is.model_yes h
    have HL : Hid (∀ w, Calls Try.prog 36 #[.string s, .int .i64 0, .bool false] w fun e w' => e = .returned (.string ⟨(txt (push false f)).toArray⟩) ∧ w = w') :=
      Lib.hid fun w => Push.model s (by have := size_60 h; omega) f false 0 w (At.all h)
    have HQ := IsF.model ⟨(txt (push false f)).toArray⟩
    rw [isF_txt] at HQ
    by_cases hl : (txt (push false f)).length ≤ 60
    · rw [pushV_yes h hl]
      rw [decide_eq_true hl] at HQ
      replace HQ := Lib.hid HQ
      clear h hl
      generalize (⟨(txt (push false f)).toArray⟩ : ByteArray) = r at *
      go_enter Try.func20, Try.ntmps20
      go_wp2_with fail
      refine (HI.out _).mono ?_
      rintro e w1 ⟨rfl, rfl⟩
      go_wp2_with fail
      refine (HL.out _).mono ?_
      rintro e w2 ⟨rfl, rfl⟩
      go_wp2_with fail
      refine (HQ.out _).mono ?_
      rintro e w2 ⟨rfl, rfl⟩
      go_wp2_with fail
      go_ret2
      exact ⟨rfl, rfl⟩
    · rw [pushV_no h hl]
      rw [decide_eq_false hl] at HQ
      replace HQ := Lib.hid HQ
      clear h hl
      generalize (⟨(txt (push false f)).toArray⟩ : ByteArray) = r at *
      go_enter Try.func20, Try.ntmps20
      go_wp2_with fail
      refine (HI.out _).mono ?_
      rintro e w1 ⟨rfl, rfl⟩
      go_wp2_with fail
      refine (HL.out _).mono ?_
      rintro e w2 ⟨rfl, rfl⟩
      go_wp2_with fail
      refine (HQ.out _).mono ?_
      rintro e w2 ⟨rfl, rfl⟩
      go_wp2_with fail
      go_ret2
      exact ⟨rfl, rfl⟩


end Go.Proofs.Ytpniefagpinbdaa
