/-
  Chapter 5: reading a formula, of the program (readFormula, parseFormula, IsFormula).
-/
import Derived.Test.YtdhdkonokbkdoaaGreatDoorFrmE
import Derived.Test.YtdhdkonokbkdoaaGreatDoorTabA
import Derived.Lib.Strings
import Derived.Lib.IndexBytes
import Derived.Shelf.Small.Strs
import Derived.Test.YtdhdkonokbkdoaaGreatDoorShelf

namespace Go.Proofs.YtdhdkonokbkdoaaGreatDoor
open Go.RowKit Plain Go.Shelf
set_option linter.unusedVariables false

theorem lst_tail (s : ByteArray) : lst (s.extract 1 s.size) = (lst s).drop 1 := by
  exact Lib.extract_to_end s 1

theorem full_ne (s : ByteArray) (h : 0 < s.size) : s.toList.isEmpty = false := by
  rw [Lib.toList_data]
  have := lst_drop s 0 h
  rw [List.drop_zero] at this
  change (lst s).isEmpty = false
  rw [this]; rfl
theorem empty_is (s : ByteArray) (h : ¬ 0 < s.size) : s.toList.isEmpty = true := by
  rw [Lib.toList_data]
  have : lst s = [] := List.eq_nil_of_length_eq_zero (by rw [lst_len]; omega)
  change (lst s).isEmpty = true
  rw [this]; rfl

theorem ba_lst (s : ByteArray) : (⟨(lst s).toArray⟩ : ByteArray) = s := by cases s; simp [lst]
theorem lst_ba (l : List UInt8) : lst ⟨l.toArray⟩ = l := by simp [lst]
theorem ba_size (l : List UInt8) : (⟨l.toArray⟩ : ByteArray).size = l.length := by rw [← lst_len, lst_ba]

/-- strings.IndexByte in the five letters. -/
theorem Rd.letter (c : UInt8) (w : World) :
    Calls Tryz.prog 80 #[.string ⟨#[97, 98, 99, 100, 101]⟩, .int .u8 (c.toNat : Int)] w fun e w' => e = .returned (.int .i64 (Lib.indexByte [97, 98, 99, 100, 101] c)) ∧ w = w' :=
  (Any.strings_IndexByte Tryz.lays137 ⟨#[97, 98, 99, 100, 101]⟩ (c.toNat : Int) w).mono fun e w' ⟨h1, h2⟩ => ⟨by rw [h1]; simp, h2.symm⟩

theorem Rd.letter_at (i : Fin 5) (x : Int) (hx : x = 97 + (i.val : Int)) (w : World) :
    Calls Tryz.prog 80 #[.string ⟨#[97, 98, 99, 100, 101]⟩, .int .u8 x] w fun e w' => e = .returned (.int .i64 (i.val : Int)) ∧ w = w' := by
  have h := Rd.letter (letC i) w
  have e1 : ((letC i).toNat : Int) = x := by rw [hx]; clear hx h; revert i; decide
  have e2 : Lib.indexByte [97, 98, 99, 100, 101] (letC i) = (i.val : Int) := by clear hx h e1; revert i; decide
  rw [e1, e2] at h
  exact h

theorem bad_letter {c : UInt8} (h : cls c = .bad) : Lib.indexByte [97, 98, 99, 100, 101] c = -1 := by
  obtain ⟨_, _, _, _, _, _, h1, h2, h3, h4, h5⟩ := cls_bad c h
  simp [Lib.indexByte, h1.symm, h2.symm, h3.symm, h4.symm, h5.symm]

end Go.Proofs.YtdhdkonokbkdoaaGreatDoor
