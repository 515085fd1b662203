/-
  VariablesOf of the program and of its model.
-/
import Derived.Test.YtbkkohkigpkddaaResG
import Derived.Test.YtbkkohkigpkddaaRowB
import Derived.Deep.DeepMust
namespace Go.Proofs.Ytbkkohkigpkddaa
open Go.RowKit Plain
set_option linter.unusedVariables false

/-- The variables below k that matter. -/
def Plain.varsL (n a : Nat) : Nat → List Int
  | 0 => []
  | k + 1 => if depW n a k = true then varsL n a k ++ [(k : Int)] else varsL n a k
theorem varsL_yes {n a k : Nat} (h : depW n a k = true) : varsL n a (k + 1) = varsL n a k ++ [(k : Int)] := by show (if _ then _ else _) = _; rw [if_pos h]
theorem varsL_no {n a k : Nat} (h : depW n a k = false) : varsL n a (k + 1) = varsL n a k := by show (if _ then _ else _) = _; rw [if_neg (by rw [h]; decide)]
theorem varsL_len (n a k : Nat) : (varsL n a k).length ≤ k := by
  induction k with
  | zero => exact Nat.le_refl _
  | succ k ih =>
    cases h : depW n a k with
    | true => rw [varsL_yes h, List.length_append, List.length_singleton]; omega
    | false => rw [varsL_no h]; omega
theorem varsL_mem (n a k : Nat) : ∀ x ∈ varsL n a k, 0 ≤ x ∧ x < (k : Int) := by
  induction k with
  | zero => intro x hx; cases hx
  | succ k ih =>
    intro x hx
    cases h : depW n a k with
    | true =>
      rw [varsL_yes h] at hx
      rcases List.mem_append.1 hx with hx | hx
      · have := ih x hx; omega
      · have : x = (k : Int) := by simpa using hx
        omega
    | false => rw [varsL_no h] at hx; have := ih x hx; omega
/-- What VariablesOf answers. -/
def Plain.varsT (n a : Int) : List Int := if isT n a = true then varsL n.toNat a.toNat n.toNat else []
theorem varsT_yes {n a : Nat} (h : isT n a = true) : varsT n a = varsL n a n := by unfold varsT; rw [if_pos h]; rfl
theorem varsT_no {n a : Int} (h : isT n a = false) : varsT n a = [] := if_neg (by rw [h]; decide)
theorem varsT_ok (n a : Int) : (varsT n a).length ≤ 5 ∧ ∀ x ∈ varsT n a, -9223372036854775808 ≤ x ∧ x ≤ 9223372036854775807 := by
  by_cases ht : isT n a = true
  · obtain ⟨m, x, rfl, rfl, hm, hx⟩ := isT_nat ht
    rw [varsT_yes ht]
    have := varsL_len m x m
    exact ⟨by omega, fun z hz => by have := varsL_mem m x m z hz; omega⟩
  · rw [varsT_no (by simpa using ht)]
    exact ⟨by decide, fun x hx => by cases hx⟩

/-- A list of ints in new memory. -/
def RowOut (l : List Int) (w : World) (e : Ending) (w' : World) : Prop := ∃ v, e = .returned v ∧ IntRow w' w.heap.size v l ∧ Below w.heap.size w w'

theorem rowNil (w : World) (B : Nat) : IntRow w B (.slice none 0 0) [] := ⟨by simp [intsV], .inl ⟨rfl, rfl⟩⟩

theorem Tab.vosI_no (n a : Int) (h64 : -9223372036854775808 ≤ a ∧ a ≤ 9223372036854775807) (ht : isT n a = false) (w : World) :
    Calls Try.prog 42 #[.agg #[.int .i64 n, .int .i64 a]] w (RowOut [] w) := by
  have H := Lib.hid ht
  have HB := Lib.hid h64
  clear ht h64
  go_enter Try.func42, Try.ntmps42
  go_wp2_with fail
  refine (Tab.impl _ _ HB.out _).mono ?_
  rintro e w1 ⟨rfl, hb1⟩
  rw [H.out]
  go_wp2
  go_ret
  exact ⟨_, rfl, rowNil _ _, ((Below.refl _ _).alloc (Nat.le_refl _) _).trans (hb1.mono (by simp))⟩

set_option maxRecDepth 100000 in
set_option maxHeartbeats 1000000 in
theorem Tab.vosI_yes (n a : Nat) (hn : n ≤ 5) (ht : isT n a = true) (ha : (a : Int) ≤ 4294967295) (w : World) :
    Calls Try.prog 42 #[.agg #[.int .i64 n, .int .i64 a]] w (RowOut (varsL n a n) w) := by
  have H := Lib.hid ht
  have HN := Lib.hid hn
  have hn5 : (n : Int) ≤ 5 := by omega
  clear ht hn
  go_enter Try.func42, Try.ntmps42
  go_wp2_with fail
  refine (Tab.impl _ _ (by omega) _).mono ?_
  rintro e w1 ⟨rfl, hb1⟩
  obtain ⟨hc, hf⟩ := bcell hb1
  rw [H.out]
  have HB1 := Lib.hid hb1
  have hs1 := hb1.size
  simp only [World.size_alloc] at hs1
  clear hb1
  go_wp2_with fail
  go_loopw [3, 4, 10] (fun s _ i wr => ∃ (k : Nat) (v : Value), i = .int .i64 (k : Int) ∧ s = v ∧ k ≤ n ∧ IntRow wr (w.heap.size + 1) v (varsL n a k) ∧ Below (w.heap.size + 1) (w.alloc (.cells #[.int .i64 n, .int .i64 a] 25)) wr ∧ w.heap.size + 1 ≤ wr.heap.size) (fun _ _ i _ => n - (intOf i).toNat)
  case atStart => exact ⟨0, _, rfl, rfl, by omega, rowNil _ _, by simpa using HB1.out, hs1⟩
  case round =>
    obtain ⟨k, v, rfl, rfl, hk, hrow, hbel, hsz⟩ := hrel
    have c0 : wr.cell? ⟨w.heap.size, 0, none⟩ = some (.int .i64 n) := (hbel.cell (by dsimp only; omega)).trans (keepN rfl rfl)
    have c1 : wr.cell? ⟨w.heap.size, 1, none⟩ = some (.int .i64 a) := (hbel.cell (by dsimp only; omega)).trans (keepN rfl rfl)
    have HROW := Lib.hid hrow
    have HBEL := Lib.hid hbel
    clear hrow hbel hc hf
    by_cases hlt : k < n
    · have hlz : (k : Int) < (n : Int) := by omega
      have hki : (k : Int) ≤ (n : Int) - 1 := by omega
      have HD := Lib.hid (Tab.depI n a k (by omega))
      rw [depB_in H.out hki] at HD
      cases hd : depW n a k with
      | true =>
        have HV := Lib.hid (varsL_yes hd)
        have hvl := varsL_len n a k
        rw [hd] at HD
        clear hd
        go_wp2_with fail
        refine (HD.out _).mono ?_
        rintro e w2 ⟨rfl, hb2⟩
        have hsz2 := hb2.size
        have HR2 := Lib.hid (HROW.out.below hb2)
        have HB2 := Lib.hid (HBEL.out.trans (hb2.mono hsz))
        clear hb2
        go_wp2_with (at_builtin; go_must (refine wp_int rfl _ _ rfl (w.heap.size + 1) _ w2 _ _ (k : Int) _ HR2.out HB2.out (by omega) (by omega) rfl rfl rfl ?_; intro v1 w4 k1 k2 k3))
        have hsz4 := k3.size
        go_roundw
        case rel => exact ⟨k + 1, v1, by go_num, rfl, by omega, by rw [HV.out]; exact k1, k2, by omega⟩
        case measure => simp [intOf] <;> omega
      | false =>
        have HV := Lib.hid (varsL_no hd)
        rw [hd] at HD
        clear hd
        go_wp2_with fail
        refine (HD.out _).mono ?_
        rintro e w2 ⟨rfl, hb2⟩
        have hsz2 := hb2.size
        have HR2 := Lib.hid (HROW.out.below hb2)
        have HB2 := Lib.hid (HBEL.out.trans (hb2.mono hsz))
        clear hb2
        go_wp2_with fail
        go_roundw
        case rel => exact ⟨k + 1, _, by go_num, rfl, by omega, by rw [HV.out]; exact HR2.out, HB2.out, by omega⟩
        case measure => simp [intOf] <;> omega
    · obtain rfl : k = n := by omega
      go_wp2
      go_ret
      exact ⟨_, rfl, HROW.out.base (by omega), ((Below.refl _ _).alloc (Nat.le_refl _) _).trans (HBEL.out.mono (by omega))⟩

/-- VariablesOf of the program. -/
theorem Tab.vosI (n a : Int) (h64 : -9223372036854775808 ≤ a ∧ a ≤ 9223372036854775807) (w : World) :
    Calls Try.prog 42 #[.agg #[.int .i64 n, .int .i64 a]] w (RowOut (varsT n a) w) := by
  by_cases ht : isT n a = true
  · obtain ⟨m, y, rfl, rfl, hm, hy⟩ := isT_nat ht
    have hl : (y : Int) ≤ 4294967295 := by have := fullN_le m hm; omega
    rw [varsT_yes ht]
    exact Tab.vosI_yes m y hm ht hl w
  · have ht' : isT n a = false := by simpa using ht
    rw [varsT_no ht']
    exact Tab.vosI_no n a h64 ht' w

theorem Tab.vosM_no (n a : Int) (ht : isT n a = false) (w : World) :
    Calls Try.prog 41 #[.agg #[.int .i64 n, .int .i64 a]] w (RowOut [] w) := by
  have H := Lib.hid ht
  clear ht
  go_enter Try.func41, Try.ntmps41
  go_wp2
  refine wp_loop_rounds 1 ?_
  rw [rounds_succ]
  go_wp2_with fail
  refine (Tab.model _ _ _).mono ?_
  rintro e w1 ⟨rfl, hb1⟩
  rw [H.out]
  have hr := World.ownsRow_lit (e := 3) (size := 1) (base := w.heap.size) (w.alloc (.cells #[.int .i64 n, .int .i64 a] 25)) #[] 0 (by simp) (by unfold maxLen; omega) rfl
  have HR : Hid (IntRow ((w.alloc (.cells #[.int .i64 n, .int .i64 a] 25)).alloc (.cells #[] 3)) w.heap.size (.slice (some ⟨w.heap.size + 1, 0, none⟩) 0 0) []) := Lib.hid (by simpa [IntRow, intsV] using hr)
  clear hr
  go_wp2
  go_ret
  exact ⟨_, rfl, HR.out.below hb1, (((Below.refl _ _).alloc (Nat.le_refl _) _).alloc (by simp) _).trans (hb1.mono (by simp <;> omega))⟩

set_option maxRecDepth 100000 in
set_option maxHeartbeats 1000000 in
theorem Tab.vosM_yes (n a : Nat) (hn : n ≤ 5) (ht : isT n a = true) (ha : (a : Int) ≤ 4294967295) (w : World) :
    Calls Try.prog 41 #[.agg #[.int .i64 n, .int .i64 a]] w (RowOut (varsL n a n) w) := by
  have H := Lib.hid ht
  have HN := Lib.hid hn
  have hn5 : (n : Int) ≤ 5 := by omega
  have hr := World.ownsRow_lit (e := 3) (size := 1) (base := w.heap.size + 1) (w.alloc (.cells #[.int .i64 n, .int .i64 a] 25)) #[] 0 (by simp) (by unfold maxLen; omega) rfl
  have HR : Hid (IntRow ((w.alloc (.cells #[.int .i64 n, .int .i64 a] 25)).alloc (.cells #[] 3)) (w.heap.size + 1) (.slice (some ⟨w.heap.size + 1, 0, none⟩) 0 0) []) := Lib.hid (by simpa [IntRow, intsV] using hr)
  clear ht hn hr
  go_enter Try.func41, Try.ntmps41
  go_wp2
  go_loopw [3, 4] (fun s i wr => ∃ (k : Nat) (v : Value), i = .int .i64 (k : Int) ∧ s = v ∧ k ≤ n ∧ IntRow wr (w.heap.size + 1) v (varsL n a k) ∧ Below (w.heap.size + 1) (w.alloc (.cells #[.int .i64 n, .int .i64 a] 25)) wr ∧ w.heap.size + 1 ≤ wr.heap.size) (fun _ i _ => n - (intOf i).toNat)
  case atStart => exact ⟨0, _, rfl, rfl, by omega, HR.out, (Below.refl _ _).alloc (by simp) _, by simp⟩
  case round =>
    obtain ⟨k, v, rfl, rfl, hk, hrow, hbel, hsz⟩ := hrel
    have c0 : wr.cell? ⟨w.heap.size, 0, none⟩ = some (.int .i64 n) := (hbel.cell (by dsimp only; omega)).trans (keepN rfl rfl)
    have c1 : wr.cell? ⟨w.heap.size, 1, none⟩ = some (.int .i64 a) := (hbel.cell (by dsimp only; omega)).trans (keepN rfl rfl)
    have HROW := Lib.hid hrow
    have HBEL := Lib.hid hbel
    have hszl : w.heap.size < wr.heap.size := by omega
    clear hrow hbel
    by_cases hlt : k < n
    · have hlz : (k : Int) < (n : Int) := by omega
      have hki : (k : Int) ≤ (n : Int) - 1 := by omega
      have HD := Lib.hid (Tab.depM_in n a k HN.out ha hki)
      cases hd : depW n a k with
      | true =>
        have HV := Lib.hid (varsL_yes hd)
        have hvl := varsL_len n a k
        rw [hd] at HD
        clear hd
        go_wp2_with fail
        refine (Tab.model _ _ _).mono ?_
        rintro e w1 ⟨rfl, hb1⟩
        rw [H.out]
        obtain ⟨hc1, hf1⟩ := bcell hb1
        have hsz1 := hb1.size
        have HR1 := Lib.hid (HROW.out.below hb1)
        have HB1 := Lib.hid (HBEL.out.trans (hb1.mono hsz))
        clear hb1
        go_wp2_with fail
        refine (HD.out _).mono ?_
        rintro e w2 ⟨rfl, hb2⟩
        have hsz2 := hb2.size
        have HR2 := Lib.hid (HR1.out.below hb2)
        have HB2 := Lib.hid (HB1.out.trans (hb2.mono (by omega)))
        clear hb2 hc1 hf1
        go_wp2_with (at_builtin; go_must (refine wp_int rfl _ _ rfl (w.heap.size + 1) _ w2 _ _ (k : Int) _ HR2.out HB2.out (by omega) (by omega) rfl rfl rfl ?_; intro v1 w4 k1 k2 k3))
        have hsz4 := k3.size
        go_roundw
        case rel => exact ⟨k + 1, v1, by go_num, rfl, by omega, by rw [HV.out]; exact k1, k2, by omega⟩
        case measure => simp [intOf] <;> omega
      | false =>
        have HV := Lib.hid (varsL_no hd)
        rw [hd] at HD
        clear hd
        go_wp2_with fail
        refine (Tab.model _ _ _).mono ?_
        rintro e w1 ⟨rfl, hb1⟩
        rw [H.out]
        obtain ⟨hc1, hf1⟩ := bcell hb1
        have hsz1 := hb1.size
        have HR1 := Lib.hid (HROW.out.below hb1)
        have HB1 := Lib.hid (HBEL.out.trans (hb1.mono hsz))
        clear hb1
        go_wp2_with fail
        refine (HD.out _).mono ?_
        rintro e w2 ⟨rfl, hb2⟩
        have hsz2 := hb2.size
        have HR2 := Lib.hid (HR1.out.below hb2)
        have HB2 := Lib.hid (HB1.out.trans (hb2.mono (by omega)))
        clear hb2 hc1 hf1
        go_wp2_with fail
        go_roundw
        case rel => exact ⟨k + 1, _, by go_num, rfl, by omega, by rw [HV.out]; exact HR2.out, HB2.out, by omega⟩
        case measure => simp [intOf] <;> omega
    · obtain rfl : k = n := by omega
      go_wp2_with fail
      refine (Tab.model _ _ _).mono ?_
      rintro e w1 ⟨rfl, hb1⟩
      rw [H.out]
      obtain ⟨hc1, hf1⟩ := bcell hb1
      have HR1 := Lib.hid (HROW.out.below hb1)
      have HB1 := Lib.hid (HBEL.out.trans (hb1.mono hsz))
      clear hb1
      go_wp2
      go_ret
      exact ⟨_, rfl, HR1.out.base (by omega), ((Below.refl _ _).alloc (Nat.le_refl _) _).trans (HB1.out.mono (by omega))⟩

/-- VariablesOf of the model. -/
theorem Tab.vosM (n a : Int) (w : World) :
    Calls Try.prog 41 #[.agg #[.int .i64 n, .int .i64 a]] w (RowOut (varsT n a) w) := by
  by_cases ht : isT n a = true
  · obtain ⟨m, y, rfl, rfl, hm, hy⟩ := isT_nat ht
    have hl : (y : Int) ≤ 4294967295 := by have := fullN_le m hm; omega
    rw [varsT_yes ht]
    exact Tab.vosM_yes m y hm ht hl w
  · have ht' : isT n a = false := by simpa using ht
    rw [varsT_no ht']
    exact Tab.vosM_no n a ht' w
end Go.Proofs.Ytbkkohkigpkddaa
