/-
  The laws' functions on lists of lists of ints; PermutationsOf of both.
  heldIntSS of the laws; PermutationsOf of both, for every int.
-/
import Derived.Test.YthdcjldmafhcjaaClsV

namespace Go.Proofs.Ythdcjldmafhcjaa
open Go.RowKit Plain
set_option linter.unusedVariables false

theorem RowsRd.cell {w : World} {a : Option Addr} {cap : Nat} {L : List (List Int)} (h : RowsRd w (.slice a L.length cap) L) (j : Nat) (hj : j < L.length) :
    ∃ b off ad cp, a = some ⟨b, off, none⟩ ∧ w.cell? ⟨b, off + j, none⟩ = some (.slice ad (L.getD j []).length cp) ∧ IntsIn w (.slice ad (L.getD j []).length cp) (L.getD j []) := by
  obtain ⟨a', cap', he, _, hr⟩ := h
  simp only [Value.slice.injEq, true_and] at he
  obtain ⟨rfl, rfl⟩ := he
  obtain ⟨b, off, rfl, _, hc⟩ := hr (by omega)
  obtain ⟨u, hu, hi⟩ := hc j hj
  obtain ⟨ad, cp, rfl, _⟩ := id hi
  exact ⟨b, off, ad, cp, rfl, hu, hi⟩

/-! Marks in rows -/
def Plain.totL (L : List (List Int)) : Nat := (L.map List.length).sum
def Plain.marksL : Nat → List (List Int) → List (List Int)
  | _, [] => []
  | k, l :: ls => marks k l.length :: marksL (k + l.length) ls
theorem marksL_length (L : List (List Int)) : ∀ k, (marksL k L).length = L.length := by
  induction L with
  | nil => intro k; rfl
  | cons l L ih => intro k; show (marksL (k + l.length) L).length + 1 = L.length + 1; rw [ih]
theorem marksL_getD (L : List (List Int)) : ∀ k j, j < L.length → (marksL k L).getD j [] = marks (k + totL (L.take j)) (L.getD j []).length := by
  induction L with
  | nil => intro k j hj; exact absurd hj (by simp)
  | cons l L ih =>
    intro k j hj
    cases j with
    | zero => simp [marksL, totL]
    | succ j =>
      have := ih (k + l.length) j (by simpa using hj)
      simp only [marksL, List.getD_cons_succ, List.take_succ_cons]
      rw [this]
      simp [totL, Nat.add_assoc]
theorem tot_take (L : List (List Int)) (j : Nat) (h : j < L.length) : totL (L.take (j + 1)) = totL (L.take j) + (L.getD j []).length := by
  unfold totL
  rw [List.take_succ_eq_append_getElem h, List.map_append, List.sum_append, List.getD_eq_getElem?_getD, List.getElem?_eq_getElem h]
  simp
theorem tot_le (L : List (List Int)) (h : Small L) : totL L ≤ 1000000 := by
  have h2 : ∀ M : List (List Int), (∀ l ∈ M, l.length ≤ 1000) → totL M ≤ M.length * 1000 := by
    intro M
    induction M with
    | nil => intro _; simp [totL]
    | cons l M ih =>
      intro hM
      have e : totL (l :: M) = l.length + totL M := by simp [totL]
      have := ih fun x hx => hM x (List.mem_cons_of_mem _ hx)
      have := hM l (by simp)
      rw [e, List.length_cons, Nat.succ_mul]
      omega
  have := h2 L fun l hl => (h.2 l hl).1
  have := h.1
  have h4 : L.length * 1000 ≤ 1000 * 1000 := Nat.mul_le_mul_right _ this
  omega
theorem tot_take_le (L : List (List Int)) (j : Nat) (hj : j ≤ L.length) : totL (L.take j) ≤ totL L := by
  unfold totL
  conv => rhs; rw [← List.take_append_drop j L, List.map_append, List.sum_append]
  omega
/-- What stands in the rows while j of them bear marks. -/
def Plain.halfL (k : Nat) (L : List (List Int)) (j : Nat) : List (List Int) := (marksL k L).take j ++ L.drop j
theorem half_length (k : Nat) (L : List (List Int)) (j : Nat) (h : j ≤ L.length) : (halfL k L j).length = L.length := by
  unfold halfL; rw [List.length_append, List.length_take, List.length_drop, marksL_length]; omega
theorem half_zero (k : Nat) (L : List (List Int)) : halfL k L 0 = L := by simp [halfL]
theorem half_all (k : Nat) (L : List (List Int)) : halfL k L L.length = marksL k L := by
  unfold halfL; rw [List.drop_length, List.append_nil, List.take_of_length_le (by rw [marksL_length]; exact Nat.le_refl _)]
theorem half_at (k : Nat) (L : List (List Int)) (j : Nat) (h : j < L.length) : (halfL k L j).getD j [] = L.getD j [] := by
  unfold halfL
  have hl : ((marksL k L).take j).length = j := by rw [List.length_take, marksL_length]; omega
  rw [List.getD_eq_getElem?_getD, List.getElem?_append_right (by omega), hl, Nat.sub_self, List.getElem?_drop, Nat.add_zero, List.getD_eq_getElem?_getD]
theorem half_set (k : Nat) (L : List (List Int)) (j : Nat) (h : j < L.length) : (halfL k L j).set j ((marksL k L).getD j []) = halfL k L (j + 1) := by
  unfold halfL
  have hm := marksL_length L k
  have hl : ((marksL k L).take j).length = j := by rw [List.length_take]; omega
  rw [List.set_append_right _ _ (by omega), hl, Nat.sub_self, List.drop_eq_getElem_cons h, List.set_cons_zero, List.take_succ_eq_append_getElem (by omega), List.append_assoc, List.getD_eq_getElem?_getD, List.getElem?_eq_getElem (by omega)]
  rfl

/-- The rows of a list of lists of the call's own, by their values. -/
def RowsUs (w : World) (B : Nat) (v : Value) (us : List Value) (L : List (List Int)) : Prop :=
  us.length = L.length ∧ SlRow w B v us ∧ (∀ j, j < L.length → IntRow w B (us.getD j nilS) (L.getD j [])) ∧
    ∀ i j, i < L.length → j < L.length → i ≠ j → (us.getD i nilS).ownBlock = none ∨ (us.getD i nilS).ownBlock ≠ (us.getD j nilS).ownBlock
theorem RowsUs.own {w : World} {B : Nat} {v : Value} {us : List Value} {L : List (List Int)} (h : RowsUs w B v us L) : RowsOwn w B v L := ⟨us, h⟩
theorem getD_set {α : Type} (l : List α) (i j : Nat) (x d : α) (hi : i < l.length) : (l.set i x).getD j d = if i = j then x else l.getD j d := by
  rw [List.getD_eq_getElem?_getD, List.getElem?_set]
  by_cases h : i = j
  · subst h; simp [hi]
  · simp [h, List.getD_eq_getElem?_getD]
theorem RowsUs.step {w w' : World} {B : Nat} {v : Value} {us : List Value} {L : List (List Int)} {j : Nat} {m : List Int} (h : RowsUs w B v us L) (hj : j < L.length) (hm : IntRow w' B (us.getD j nilS) m) (hg : w.grownBy w' (us.getD j nilS).ownBlock) :
    RowsUs w' B v us (L.set j m) := by
  obtain ⟨h1, h2, h3, h4⟩ := h
  refine ⟨by rw [List.length_set]; exact h1, h2.kept hg ?_, fun i hi => ?_, fun i k hi hk => h4 i k (by simpa using hi) (by simpa using hk)⟩
  · rcases apart h2 (h3 j hj) with e | e
    · cases hv : v.ownBlock with
      | none => exact .inl rfl
      | some b => exact .inr (by rw [e]; simp)
    · exact .inr fun he => e he.symm
  · rw [List.length_set] at hi
    rw [getD_set L j i m [] hj]
    by_cases e : j = i
    · subst e; rw [if_pos rfl]; exact hm
    · rw [if_neg e]
      exact (h3 i hi).kept hg (h4 i j hi hj (fun h => e h.symm))
theorem below_own {w w' : World} {B : Nat} {u : Value} {l : List Int} (hu : IntRow w B u l) (hg : w.grownBy w' u.ownBlock) (hB : B ≤ w.heap.size) : Below B w w' :=
  (Below.refl B w).grown hg hB (fun j hj => (hu.lt j hj).1)

end Go.Proofs.Ythdcjldmafhcjaa

namespace Go.Proofs.Ythdcjldmafhcjaa
open Go.RowKit Plain
set_option linter.unusedVariables false

theorem marks_small (L : List (List Int)) (k : Nat) (hk : k ≤ 1000) (hs : Small L) : Small (marksL k L) := by
  refine ⟨by rw [marksL_length]; exact hs.1, fun l hl => ?_⟩
  obtain ⟨j, hj, rfl⟩ := List.mem_iff_getElem.1 hl
  have hj2 : j < L.length := by rw [marksL_length] at hj; exact hj
  have e : (marksL k L)[j] = marks (k + totL (L.take j)) (L.getD j []).length := by
    rw [← marksL_getD L k j hj2, List.getD_eq_getElem?_getD, List.getElem?_eq_getElem hj]; rfl
  have h1 := (hs.2 _ (getD_mem' (d := []) hj2)).1
  have h2 := tot_le L hs
  have h3 := tot_take_le L j (by omega)
  rw [e]
  exact ⟨by rw [marks_length]; exact h1, marks_bound _ _ (by omega)⟩

/-! What PermutationsOf answers -/
def Plain.okP (n : Int) : Bool := decide (0 ≤ n ∧ n ≤ 4)
def Plain.listP (n : Int) : List (List Int) := if 0 ≤ n ∧ n ≤ 4 then permsL n.toNat else []
theorem listP_yes {n : Nat} (h : n ≤ 4) : listP n = permsL n := by unfold listP; rw [if_pos ⟨by omega, by omega⟩]; rfl
theorem listP_no {n : Int} (h : ¬ (0 ≤ n ∧ n ≤ 4)) : listP n = [] := if_neg h
theorem okP_yes {n : Nat} (h : n ≤ 4) : okP n = true := decide_eq_true ⟨by omega, by omega⟩
theorem okP_no {n : Int} (h : ¬ (0 ≤ n ∧ n ≤ 4)) : okP n = false := decide_eq_false h
theorem listP_small (n : Int) : Small (listP n) := by
  by_cases h : 0 ≤ n ∧ n ≤ 4
  · obtain ⟨m, rfl⟩ := Int.eq_ofNat_of_zero_le h.1
    rw [listP_yes (by omega)]
    exact perms_small m (by omega)
  · rw [listP_no h]
    exact ⟨by simp, fun l hl => absurd hl (by simp)⟩

theorem Perm.permI (n : Int) (w : World) : Calls Try.prog 19 #[.int .i64 n] w fun e w' => (∃ v us, e = .returned (.tuple #[v, .bool (okP n)]) ∧ RowsUs w' w.heap.size v us (listP n)) ∧ Below w.heap.size w w' := by
  by_cases h : 0 ≤ n ∧ n ≤ 4
  · obtain ⟨m, rfl⟩ := Int.eq_ofNat_of_zero_le h.1
    rw [listP_yes (by omega), okP_yes (by omega)]
    refine (Perm.impl_in m (by omega) w).mono ?_
    rintro e w' ⟨⟨v, rfl, us, hr⟩, hb⟩
    exact ⟨⟨v, us, rfl, hr⟩, hb⟩
  · rw [listP_no h, okP_no h]
    refine (Perm.impl_out n h w).mono ?_
    rintro e w' ⟨rfl, rfl⟩
    obtain ⟨us, hr⟩ := RowsOwn.nil w w.heap.size
    exact ⟨⟨_, us, rfl, hr⟩, Below.refl _ _⟩

theorem Perm.permM_no (n : Int) (h : ¬ (0 ≤ n ∧ n ≤ 4)) (w : World) : Calls Try.prog 29 #[.int .i64 n] w fun e w' => (∃ v, e = .returned (.tuple #[v, .bool false]) ∧ RowsRd w' v []) ∧ Below w.heap.size w w' := by
  have H := Lib.hid h
  have HE := Lib.hid ((RowsIn.empty (w := w) (B := w.heap.size) rfl (Nat.le_refl _)).rd ⟨by simp, fun l hl => absurd hl (by simp)⟩)
  clear h
  go_enter Try.func29, Try.ntmps29
  go_wp2_with fail
  refine (Widths.in_no _ _ _ H.out _).mono ?_
  rintro e w1 ⟨rfl, rfl⟩
  go_wp2
  exact bodyPost_ret (v := .tuple #[.slice (some ⟨w.heap.size, 0, none⟩) 0 0, .bool false]) (by simp [results, Try.results29, go_sem]) rfl ⟨⟨_, rfl, HE.out⟩, (Below.refl _ _).alloc (Nat.le_refl _) _⟩

theorem Perm.permM_yes (n : Nat) (h : n ≤ 4) (w : World) : Calls Try.prog 29 #[.int .i64 n] w fun e w' => (∃ v, e = .returned (.tuple #[v, .bool true]) ∧ RowsRd w' v (permsL n)) ∧ Below w.heap.size w w' := by
  have H := Lib.hid h
  have hnz : (n : Int) ≤ 4 := by omega
  have HE := Lib.hid ((rowLit w 0 _ [] rfl (Nat.zero_le _) (by simp)).1)
  clear h
  go_enter Try.func29, Try.ntmps29
  go_wp2_with fail
  refine (Widths.in_yes _ _ _ ⟨by omega, by omega⟩ _).mono ?_
  rintro e w1 ⟨rfl, rfl⟩
  go_wp2_with fail
  refine (Perm.model_in n H.out _ 0 _ (by simpa using HE.out)).mono ?_
  rintro e w2 ⟨⟨v, rfl, hown⟩, hb2⟩
  have HO := Lib.hid (hown.rd (perms_small n H.out))
  have HB := Lib.hid (bB hb2 (by simp) ((Below.refl w.heap.size w).alloc (Nat.le_refl _) (.cells #[] 3)))
  clear hown hb2
  go_wp2
  exact bodyPost_ret (v := .tuple #[v, .bool true]) (by simp [results, Try.results29, go_sem]) rfl ⟨⟨_, rfl, HO.out⟩, HB.out⟩

theorem Perm.permM (n : Int) (w : World) : Calls Try.prog 29 #[.int .i64 n] w fun e w' => (∃ v, e = .returned (.tuple #[v, .bool (okP n)]) ∧ RowsRd w' v (listP n)) ∧ Below w.heap.size w w' := by
  by_cases h : 0 ≤ n ∧ n ≤ 4
  · obtain ⟨m, rfl⟩ := Int.eq_ofNat_of_zero_le h.1
    rw [listP_yes (by omega), okP_yes (by omega)]
    exact Perm.permM_yes m (by omega) w
  · rw [listP_no h, okP_no h]
    exact Perm.permM_no n h w

end Go.Proofs.Ythdcjldmafhcjaa
