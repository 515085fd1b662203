/-
  heldIntSS of the laws; PermutationsOf of both, for every int.
-/
import Derived.Test.YtecakbjcnabpnaaClsE
namespace Go.Proofs.Ytecakbjcnabpnaa
open Go.RowKit Plain
set_option linter.unusedVariables false

theorem Lists.held (v : Value) (L : List (List Int)) (k : Nat) (w : World) (hk : k ≤ 1000) (hs : Small L) (h : RowsRd w v (marksL k L)) :
    Calls Try.prog 51 #[v, .int .i64 k] w fun e w' => e = .returned (.int .i64 ((k + totL L : Nat) : Int)) ∧ w = w' := by
  obtain ⟨a, cap, rfl, _, _⟩ := id h
  have HL := Lib.hid (marksL_length L k)
  have H := Lib.hid h
  have HS := Lib.hid hs
  have HK := Lib.hid hk
  have HT := Lib.hid (tot_le L hs)
  have hll : (marksL k L).length = L.length := marksL_length L k
  rw [hll]
  have hlz : (L.length : Int) ≤ 1000 := by have := hs.1; omega
  clear h hs hk
  go_enter Try.func51, Try.ntmps51
  go_wp2
  go_loopw [1, 5] (fun c i wr => ∃ j : Nat, i = .int .i64 (j : Int) ∧ j ≤ L.length ∧ c = .int .i64 ((k + totL (L.take j) : Nat) : Int) ∧ w = wr) (fun _ i _ => L.length - (intOf i).toNat)
  case atStart => exact ⟨0, rfl, by omega, by simp [totL], rfl⟩
  case round =>
    obtain ⟨j, rfl, hj, rfl, rfl⟩ := hrel
    by_cases hlt : j < L.length
    · obtain ⟨b, off, ad, cp, rfl, hcell, hin⟩ := H.out.cell j (by rw [HL.out]; exact hlt)
      rw [marksL_getD L k j hlt, marks_length] at hcell
      rw [marksL_getD L k j hlt, marks_length] at hin
      have HIN := Lib.hid hin
      have HTT := Lib.hid (tot_take L j hlt)
      have htl := tot_take_le L j hj
      have htl2 := tot_take_le L (j + 1) (by omega)
      have hln := (HS.out.2 _ (getD_mem' (d := []) hlt)).1
      have hb1 : ((k + totL (L.take j) : Nat) : Int) + (L.getD j []).length ≤ 4000000 := by have := HT.out; have := HK.out; omega
      have HB1 := Lib.hid hb1
      have hjz : (j : Int) < (L.length : Int) := by omega
      have HJ := Lib.hid hlt
      have hqz : ((k + totL (L.take j) : Nat) : Int) ≤ 4000000 := by omega
      have hnn : ((L.getD j []).length : Int) ≤ 1000 := by omega
      clear hin htl htl2 hln hb1 hlt hj
      generalize hq : k + totL (L.take j) = q at HIN HB1 hqz ⊢
      have HQ := Lib.hid hq
      clear hq
      generalize (L.getD j []).length = m at HIN HB1 HTT hnn hcell
      go_wp2_with fail
      refine (Ints.held _ q m _ HB1.out HIN.out).mono ?_
      rintro e w2 ⟨rfl, rfl⟩
      have hq2 : (0 : Int) ≤ ((q + m : Nat) : Int) := by omega
      go_wp2
      go_roundw
      case rel => exact ⟨j + 1, by go_num, by have := HJ.out; omega, by rw [HTT.out, ← Nat.add_assoc, HQ.out]; go_num, trivial⟩
      case measure => simp [intOf] <;> omega
    · obtain rfl : j = L.length := by omega
      rw [List.take_length]
      go_wp2
      go_ret
      exact ⟨rfl, rfl⟩

theorem marks_small (L : List (List Int)) (k : Nat) (hk : k ≤ 1000) (hs : Small L) : Small (marksL k L) := by
  refine ⟨by rw [marksL_length]; exact hs.1, fun l hl => ?_⟩
  obtain ⟨j, hj, rfl⟩ := List.mem_iff_getElem.1 hl
  have hj2 : j < L.length := by rw [marksL_length] at hj; exact hj
  have e : (marksL k L)[j] = marks (k + totL (L.take j)) (L.getD j []).length := by
    rw [← marksL_getD L k j hj2, List.getD_eq_getElem?_getD, List.getElem?_eq_getElem hj]; rfl
  have h1 := (hs.2 _ (getD_mem' (d := []) hj2)).1
  have h2 := tot_le L hs
  have h3 := tot_take_le L j (by omega)
  rw [e]
  exact ⟨by rw [marks_length]; exact h1, marks_bound _ _ (by omega)⟩

theorem RowsUs.below {w w' : World} {B : Nat} {v : Value} {us : List Value} {L : List (List Int)} (h : RowsUs w B v us L) (hb : Below w.heap.size w w') : RowsUs w' B v us L := by
  obtain ⟨h1, h2, h3, h4⟩ := h
  exact ⟨h1, h2.kept (grownNone hb) (by cases hv : v.ownBlock <;> simp), fun j hj => (h3 j hj).below hb, h4⟩
/-- The first marks, from 1 on. -/
def Plain.totZ (L : List (List Int)) : Int := ((1 + totL L : Nat) : Int)
theorem totZ_le (L : List (List Int)) (h : Small L) : 0 ≤ totZ L ∧ totZ L ≤ 1000001 := by
  have := tot_le L h
  unfold totZ
  omega
theorem Lists.mark1 (B : Nat) (v : Value) (us : List Value) (L : List (List Int)) (w : World) (hs : Small L) (h : RowsUs w B v us L) (hB : B ≤ w.heap.size) :
    Calls Try.prog 50 #[v, .int .i64 1] w fun e w' => (e = .returned (.int .i64 (totZ L)) ∧ RowsUs w' B v us (marksL 1 L)) ∧ Below B w w' := Lists.mark B v us L 1 w (by decide) hs h hB
theorem Lists.held1 (v : Value) (L : List (List Int)) (w : World) (hs : Small L) (h : RowsRd w v (marksL 1 L)) :
    Calls Try.prog 51 #[v, .int .i64 1] w fun e w' => e = .returned (.int .i64 (totZ L)) ∧ w = w' := Lists.held v L 1 w (by decide) hs h

/-! What PermutationsOf answers -/
def Plain.okP (n : Int) : Bool := decide (0 ≤ n ∧ n ≤ 4)
def Plain.listP (n : Int) : List (List Int) := if 0 ≤ n ∧ n ≤ 4 then permsL n.toNat else []
theorem listP_yes {n : Nat} (h : n ≤ 4) : listP n = permsL n := by unfold listP; rw [if_pos ⟨by omega, by omega⟩]; rfl
theorem listP_no {n : Int} (h : ¬ (0 ≤ n ∧ n ≤ 4)) : listP n = [] := if_neg h
theorem okP_yes {n : Nat} (h : n ≤ 4) : okP n = true := decide_eq_true ⟨by omega, by omega⟩
theorem okP_no {n : Int} (h : ¬ (0 ≤ n ∧ n ≤ 4)) : okP n = false := decide_eq_false h
theorem listP_small (n : Int) : Small (listP n) := by
  by_cases h : 0 ≤ n ∧ n ≤ 4
  · obtain ⟨m, rfl⟩ := Int.eq_ofNat_of_zero_le h.1
    rw [listP_yes (by omega)]
    exact perms_small m (by omega)
  · rw [listP_no h]
    exact ⟨by simp, fun l hl => absurd hl (by simp)⟩

theorem Perm.permI (n : Int) (w : World) : Calls Try.prog 48 #[.int .i64 n] w fun e w' => (∃ v us, e = .returned (.tuple #[v, .bool (okP n)]) ∧ RowsUs w' w.heap.size v us (listP n)) ∧ Below w.heap.size w w' := by
  by_cases h : 0 ≤ n ∧ n ≤ 4
  · obtain ⟨m, rfl⟩ := Int.eq_ofNat_of_zero_le h.1
    rw [listP_yes (by omega), okP_yes (by omega)]
    refine (Perm.impl_in m (by omega) w).mono ?_
    rintro e w' ⟨⟨v, rfl, us, hr⟩, hb⟩
    exact ⟨⟨v, us, rfl, hr⟩, hb⟩
  · rw [listP_no h, okP_no h]
    refine (Perm.impl_out n h w).mono ?_
    rintro e w' ⟨rfl, rfl⟩
    obtain ⟨us, hr⟩ := RowsOwn.nil w w.heap.size
    exact ⟨⟨_, us, rfl, hr⟩, Below.refl _ _⟩

theorem Perm.permM_no (n : Int) (h : ¬ (0 ≤ n ∧ n ≤ 4)) (w : World) : Calls Try.prog 47 #[.int .i64 n] w fun e w' => (∃ v, e = .returned (.tuple #[v, .bool false]) ∧ RowsRd w' v []) ∧ Below w.heap.size w w' := by
  have H := Lib.hid h
  have HE := Lib.hid ((RowsIn.empty (w := w) (B := w.heap.size) rfl (Nat.le_refl _)).rd ⟨by simp, fun l hl => absurd hl (by simp)⟩)
  clear h
  go_enter Try.func47, Try.ntmps47
  go_wp2_with fail
  refine (Widths.in_no _ _ _ H.out _).mono ?_
  rintro e w1 ⟨rfl, rfl⟩
  go_wp2
  exact bodyPost_ret (v := .tuple #[.slice (some ⟨w.heap.size, 0, none⟩) 0 0, .bool false]) (by simp [results, Try.results47, go_sem]) rfl ⟨⟨_, rfl, HE.out⟩, (Below.refl _ _).alloc (Nat.le_refl _) _⟩

theorem Perm.permM_yes (n : Nat) (h : n ≤ 4) (w : World) : Calls Try.prog 47 #[.int .i64 n] w fun e w' => (∃ v, e = .returned (.tuple #[v, .bool true]) ∧ RowsRd w' v (permsL n)) ∧ Below w.heap.size w w' := by
  have H := Lib.hid h
  have hnz : (n : Int) ≤ 4 := by omega
  have HE := Lib.hid ((rowLit w 0 _ [] rfl (Nat.zero_le _) (by simp)).1)
  clear h
  go_enter Try.func47, Try.ntmps47
  go_wp2_with fail
  refine (Widths.in_yes _ _ _ ⟨by omega, by omega⟩ _).mono ?_
  rintro e w1 ⟨rfl, rfl⟩
  go_wp2_with fail
  refine (Perm.model_in n H.out _ 0 _ (by simpa using HE.out)).mono ?_
  rintro e w2 ⟨⟨v, rfl, hown⟩, hb2⟩
  have HO := Lib.hid (hown.rd (perms_small n H.out))
  have HB := Lib.hid (bB hb2 (by simp) ((Below.refl w.heap.size w).alloc (Nat.le_refl _) (.cells #[] 3)))
  clear hown hb2
  go_wp2
  exact bodyPost_ret (v := .tuple #[v, .bool true]) (by simp [results, Try.results47, go_sem]) rfl ⟨⟨_, rfl, HO.out⟩, HB.out⟩

theorem Perm.permM (n : Int) (w : World) : Calls Try.prog 47 #[.int .i64 n] w fun e w' => (∃ v, e = .returned (.tuple #[v, .bool (okP n)]) ∧ RowsRd w' v (listP n)) ∧ Below w.heap.size w w' := by
  by_cases h : 0 ≤ n ∧ n ≤ 4
  · obtain ⟨m, rfl⟩ := Int.eq_ofNat_of_zero_le h.1
    rw [listP_yes (by omega), okP_yes (by omega)]
    exact Perm.permM_yes m (by omega) w
  · rw [listP_no h, okP_no h]
    exact Perm.permM_no n h w
end Go.Proofs.Ytecakbjcnabpnaa
