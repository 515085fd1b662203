/-
  Chapter 7: variablesWithout of the program (make, two copies).
-/
import Derived.Test.YthdcjldmafhcjaaDoorBtN
import Derived.Test.YthdcjldmafhcjaaDoorRowB
import Derived.Laws.CopyOwn
import Derived.Deep.RegionLaw
import Derived.OwnWalk
namespace Go.Proofs.YthdcjldmafhcjaaDoor
open Go.RowKit Plain
set_option linter.unusedVariables false

/-- The numbers of the variables, as a slice tells them. -/
def VarsAt (w : World) (v : Value) (l : List Nat) : Prop := ∃ a cap, v = .slice a l.length cap ∧ l.length ≤ cap ∧ cap ≤ 4 ∧ (0 < l.length → ∃ b, a = some ⟨b, 0, none⟩ ∧ ∀ j, j < l.length → w.cell? ⟨b, j, none⟩ = some (.int .i64 (l.getD j 0 : Int)))
theorem VarsAt.keep {w w' : World} {v : Value} {l : List Nat} (h : VarsAt w v l) (hk : ∀ b j x, w.cell? ⟨b, j, none⟩ = some x → w'.cell? ⟨b, j, none⟩ = some x) : VarsAt w' v l := by
  obtain ⟨a, cap, h1, h2, h3, h4⟩ := h
  refine ⟨a, cap, h1, h2, h3, fun hp => ?_⟩
  obtain ⟨b, hb, hc⟩ := h4 hp
  exact ⟨b, hb, fun j hj => hk _ _ _ (hc j hj)⟩
theorem VarsAt.below {w w' : World} {v : Value} {l : List Nat} (h : VarsAt w v l) (hb : Below w.heap.size w w') : VarsAt w' v l := h.keep fun _ _ _ hc => cellOn hb hc

def natsV (l : List Nat) : List Value := l.map fun (x : Nat) => Value.int .i64 (x : Int)
theorem natsV_one (l : List Nat) : ∀ v ∈ natsV l, v.oneCell' = true := by
  intro v hv
  simp only [natsV, List.mem_map] at hv
  obtain ⟨x, _, rfl⟩ := hv
  rfl
theorem natsV_len (l : List Nat) : (natsV l).length = l.length := by simp [natsV]
theorem natsV_get {l : List Nat} {j : Nat} {v : Value} (h : (natsV l)[j]? = some v) : j < l.length ∧ v = .int .i64 (l.getD j 0 : Int) := by
  have hj : j < (natsV l).length := by
    by_cases hh : j < (natsV l).length
    · exact hh
    · rw [List.getElem?_eq_none (by omega)] at h; cases h
  rw [natsV_len] at hj
  refine ⟨hj, ?_⟩
  simp only [natsV, List.getElem?_map, List.getElem?_eq_getElem hj, Option.map_some, Option.some.injEq] at h
  rw [← h, List.getD_eq_getElem?_getD, List.getElem?_eq_getElem hj]
  rfl

theorem row_made {w : World} {g m : Nat} (h : w.ownsRow g 3 1 (.slice (some ⟨g, 0, none⟩) m m) m (madeCells (Value.int .i64 0).cells (m * 1)).toList) :
    w.heap[g]? = some (.cells (List.replicate m (Value.int .i64 0)).toArray 3 (0, 0)) := by
  have e : (madeCells (Value.int .i64 0).cells (m * 1)).toList = List.replicate m (.int .i64 0) := by
    show (madeCells #[Value.int .i64 0] (m * 1)).toList = _
    rw [toList_madeCells_one, Nat.mul_one]
  rw [e] at h
  rcases h.2 with ⟨h1, _⟩ | ⟨g', cap, cur, h1, _, h2, _, _, h3, h4⟩
  · cases h1
  · cases h1
    rw [h2]
    have : cur.toList = List.replicate m (.int .i64 0) := by
      rw [← h4, List.take_of_length_le (by simp; omega)]
    rw [← this]

theorem addB (b o j : Nat) : (⟨b, o, none⟩ : Addr).add j = ⟨b, o + j, none⟩ := by
  unfold Addr.add
  split
  · rename_i h; subst h; rfl
  · rfl

/-- The row behind the two copies. -/
theorem two_splices (m i : Nat) (X1 X2 Z : List Value) (h1 : X1.length = i) (h2 : i + X2.length = m) (hz : Z.length = m) : splice (splice Z 0 X1) i X2 = X1 ++ X2 := by
  subst h1
  unfold splice
  have e1 : Z.take 0 ++ (X1 ++ Z.drop (0 + X1.length)) = X1 ++ Z.drop X1.length := by simp
  rw [e1]
  have e2 : (X1 ++ Z.drop X1.length).take X1.length = X1 := by simp
  have e3 : (X1 ++ Z.drop X1.length).drop (X1.length + X2.length) = [] := by
    apply List.drop_eq_nil_of_le
    simp only [List.length_append, List.length_drop]; omega
  rw [e2, e3, List.append_nil]

theorem vars_row {w : World} {g m i : Nat} {l : List Nat} {T : TypeId} (hi : i ≤ m) (hl : l.length = m + 1) (h4 : m ≤ 4) (h : w.heap[g]? = some (.cells (natsV (l.take i) ++ natsV (l.drop (i + 1))).toArray T (0, 0))) :
    VarsAt w (.slice (some ⟨g, 0, none⟩) m m) (l.eraseIdx i) := by
  have hle : (l.eraseIdx i).length = m := by rw [List.length_eraseIdx_of_lt (by omega)]; omega
  refine ⟨_, m, by rw [hle], by omega, h4, fun _ => ⟨g, rfl, fun j hj => ?_⟩⟩
  have e : natsV (l.take i) ++ natsV (l.drop (i + 1)) = natsV (l.eraseIdx i) := by
    rw [List.eraseIdx_eq_take_drop_succ]; simp [natsV]
  rw [e] at h
  rw [cell_of_row w g j _ _ (0, 0) h]
  simp only [List.getElem?_toArray, natsV, List.getElem?_map, List.getElem?_eq_getElem hj, Option.map_some, List.getD_eq_getElem?_getD, Option.getD_some]

set_option maxRecDepth 100000 in
set_option maxHeartbeats 2000000 in
theorem Vw.at (m i b cap : Nat) (l : List Nat) (hl : l.length = m + 1) (hi : i ≤ m) (hcap : m + 1 ≤ cap) (hc4 : cap ≤ 4) (w : World)
    (hcells : ∀ j, j < m + 1 → w.cell? ⟨b, j, none⟩ = some (.int .i64 (l.getD j 0 : Int))) :
    Calls Tryd.prog 19 #[.slice (some ⟨b, 0, none⟩) (m + 1) cap, .int .i64 (i : Int)] w fun e w' => ∃ v, e = .returned v ∧ VarsAt w' v (l.eraseIdx i) ∧ Below w.heap.size w w' := by
  obtain ⟨i0, hi0, hz0, hz1, hz2⟩ := info_parts Tryd.infoInt
  have HCE := Lib.hid hcells
  have HLL := Lib.hid hl
  clear hcells hl
  have hic : (i : Int) ≤ (cap : Int) := by omega
  have him : (i : Int) ≤ (m : Int) := by omega
  have hw1 : IntKind.i64.wrap ((i : Int) + 1) = (i : Int) + 1 := IntWalk.i64_in _ (by omega)
  have hi1 : (i : Int) + 1 ≤ (cap : Int) := by omega
  have hi2 : (i : Int) + 1 ≤ (m : Int) + 1 := by omega
  have hi3 : (0 : Int) ≤ (i : Int) + 1 := by omega
  go_enter Tryd.func19, Tryd.ntmps19
  obtain ⟨X1, hX1⟩ : ∃ X1, X1 = natsV (l.take i) := ⟨_, rfl⟩
  obtain ⟨X2, hX2⟩ : ∃ X2, X2 = natsV (l.drop (i + 1)) := ⟨_, rfl⟩
  obtain ⟨Z, hZ⟩ : ∃ Z, Z = List.replicate m (Value.int .i64 0) := ⟨_, rfl⟩
  have HL1 : Hid (X1.length = i) := Lib.hid (by rw [hX1, natsV_len, List.length_take, HLL.out]; omega)
  have HL2 : Hid (X2.length = m - i) := Lib.hid (by rw [hX2, natsV_len, List.length_drop, HLL.out]; omega)
  have HLZ : Hid (Z.length = m) := Lib.hid (by rw [hZ, List.length_replicate])
  have HO1 : Hid (∀ v ∈ X1, v.oneCell' = true) := Lib.hid (by rw [hX1]; exact natsV_one _)
  have HO2 : Hid (∀ v ∈ X2, v.oneCell' = true) := Lib.hid (by rw [hX2]; exact natsV_one _)
  have HG1 : Hid (∀ j v, X1[j]? = some v → w.cell? ⟨b, j, none⟩ = some v) := Lib.hid fun j v h => by
    rw [hX1] at h
    obtain ⟨h1, h2⟩ := natsV_get h
    rw [List.length_take, HLL.out] at h1
    rw [h2, HCE.out j (by omega), List.getD_eq_getElem?_getD, List.getD_eq_getElem?_getD, List.getElem?_take_of_lt (by omega)]
  have HG2 : Hid (∀ j v, X2[j]? = some v → w.cell? ⟨b, i + 1 + j, none⟩ = some v) := Lib.hid fun j v h => by
    rw [hX2] at h
    obtain ⟨h1, h2⟩ := natsV_get h
    rw [List.length_drop, HLL.out] at h1
    rw [h2, HCE.out (i + 1 + j) (by omega), List.getD_eq_getElem?_getD, List.getD_eq_getElem?_getD, List.getElem?_drop]
  have HX1 := Lib.hid hX1
  have HX2 := Lib.hid hX2
  have HZ := Lib.hid hZ
  clear hX1 hX2 hZ
  go_wp2_with (first
    | (at_make; go_must (refine wpList_make_full _ rfl _ _ 34 rfl w.heap.size 3 i0 (.int .i64 0) 1 Tryd.underlying34 hi0 hz0 hz1 _ _ _ _ m rfl rfl (by first | rfl | (simp; done) | omega) (by first | rfl | (simp; done) | omega) (by rw [hz2]; omega) (by unfold maxLen; omega) (Nat.le_refl _) ?_; intro w1 hown hgrow; have HR1 : Hid (w1.heap[w.heap.size]? = some (.cells Z.toArray 3 (0, 0))) := Lib.hid (by rw [HZ.out]; exact row_made hown); have HB1 := Lib.hid ((Below.refl w.heap.size w).grown hgrow (Nat.le_refl _) (fun _ h => by cases h)); clear hown hgrow))
    | (refine wpList_copy_splice rfl _ _ _ _ rfl 3 Tryd.underlying34 (by kernel_rfl) _ _ _ _ _ _ rfl rfl w.heap.size 0 Z 3 HR1.out X1 (by rw [HL1.out]; exact (Nat.min_eq_left (by omega)).symm) (fun _ => ⟨rfl, _, rfl, fun j v h => by rw [addB, Nat.zero_add]; exact cellOn HB1.out (HG1.out j v h)⟩) (by rw [HL1.out, HLZ.out]; omega) HO1.out w.heap.size w HB1.out (Nat.le_refl _) ?_; intro w2 HR2 hb2; have HB2 := Lib.hid hb2; clear hb2)
    | fail)
  have HN2 : Hid (X2.length = Nat.min (m - i) (m - i)) := Lib.hid (by rw [HL2.out]; exact (Nat.min_self _).symm)
  have HFIT : Hid (i + X2.length ≤ (splice Z 0 X1).length) := Lib.hid (by rw [HL2.out, length_splice _ _ _ (by rw [HL1.out, HLZ.out]; omega), HLZ.out]; omega)
  have HROW : Hid (splice (splice Z 0 X1) i X2 = X1 ++ X2) := Lib.hid (two_splices m i X1 X2 Z HL1.out (by rw [HL2.out]; omega) HLZ.out)
  by_cases hlast : i = m
  · subst hlast
    go_region_law (refine step_copy_splice rfl (.tmp 17) (.tmp 21) 34 34 rfl 3 Tryd.underlying34 (by kernel_rfl) (some ⟨w.heap.size, 0, none⟩) (if cap = i + 1 then some ⟨b, 0, none⟩ else some ⟨b, i + 1, none⟩) 0 0 0 (cap - (i + 1)) (by simp [Act.eval, Act.put]) (by simp [Act.eval, Act.put]) w.heap.size i (splice Z 0 X1) 3 HR2.out X2 (by rw [HL2.out, Nat.sub_self]; rfl) (fun hp => absurd hp (by rw [HL2.out]; omega)) HFIT.out HO2.out w.heap.size w (bD HB2.out) (Nat.le_refl _) ?_; intro w3 HR3 hb3; have HB3 := Lib.hid hb3; clear hb3)
    all_goals
      rw [HROW.out] at HR3
      have HF := Lib.hid (vars_row (m := i) (i := i) (by omega) HLL.out (by omega) (by rw [← HX1.out, ← HX2.out]; exact HR3))
      go_wp2
      all_goals
        go_ret
        exact ⟨_, rfl, HF.out, HB3.out⟩
  · have hn1 : ¬ m = i := fun h => hlast h.symm
    have hn2 : ¬ cap = i + 1 := by omega
    go_region_law (refine step_copy_splice rfl (.tmp 17) (.tmp 21) 34 34 rfl 3 Tryd.underlying34 (by kernel_rfl) (some ⟨w.heap.size, i, none⟩) (some ⟨b, i + 1, none⟩) (m - i) (m - i) (m - i) (cap - (i + 1)) (by simp [Act.eval, Act.put]) (by simp [Act.eval, Act.put]) w.heap.size i (splice Z 0 X1) 3 HR2.out X2 (HN2.out) (fun hp => ⟨rfl, _, rfl, fun j v h => by rw [addB]; exact cellOn (bD HB2.out) (HG2.out j v h)⟩) HFIT.out HO2.out w.heap.size w (bD HB2.out) (Nat.le_refl _) ?_; intro w3 HR3 hb3; have HB3 := Lib.hid hb3; clear hb3)
    all_goals
      rw [HROW.out] at HR3
      have HF := Lib.hid (vars_row (m := m) (i := i) (by omega) HLL.out (by omega) (by rw [← HX1.out, ← HX2.out]; exact HR3))
      go_wp2
      all_goals
        go_ret
        exact ⟨_, rfl, HF.out, HB3.out⟩

/-- variablesWithout. -/
theorem Vw.any (v : Value) (l : List Nat) (i : Nat) (hi : i < l.length) (w : World) (h : VarsAt w v l) :
    Calls Tryd.prog 19 #[v, .int .i64 (i : Int)] w fun e w' => ∃ v', e = .returned v' ∧ VarsAt w' v' (l.eraseIdx i) ∧ Below w.heap.size w w' := by
  obtain ⟨a, cap, rfl, h2, h3, h4⟩ := h
  obtain ⟨b, rfl, hc⟩ := h4 (by omega)
  obtain ⟨m, hm⟩ : ∃ m, l.length = m + 1 := ⟨l.length - 1, by omega⟩
  rw [hm] at hc h2 ⊢
  exact Vw.at m i b cap l hm (by omega) h2 h3 w hc

end Go.Proofs.YthdcjldmafhcjaaDoor
