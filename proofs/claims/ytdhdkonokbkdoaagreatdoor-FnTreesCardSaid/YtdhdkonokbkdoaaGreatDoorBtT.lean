/-
  Chapter 7: variablesWithout of the program (make, two copies).
  Chapter 7: bestTree of the program.
  Chapter 7: the text of a tree, BestTree of the program.
  Chapter 7: BestTree of the program.
-/
import Derived.Test.YtdhdkonokbkdoaaGreatDoorBtN
import Derived.Test.YtdhdkonokbkdoaaGreatDoorRowB
import Derived.Laws.CopyOwn
import Derived.Deep.RegionLaw
import Derived.OwnWalk
import Derived.Test.YtdhdkonokbkdoaaGreatDoorTreI
import Derived.Test.YtdhdkonokbkdoaaGreatDoorDoor

namespace Go.Proofs.YtdhdkonokbkdoaaGreatDoor
open Go.RowKit Plain
set_option linter.unusedVariables false

/-- The numbers of the variables, as a slice tells them. -/
def VarsAt (w : World) (v : Value) (l : List Nat) : Prop := ∃ a cap, v = .slice a l.length cap ∧ l.length ≤ cap ∧ cap ≤ 4 ∧ (0 < l.length → ∃ b, a = some ⟨b, 0, none⟩ ∧ ∀ j, j < l.length → w.cell? ⟨b, j, none⟩ = some (.int .i64 (l.getD j 0 : Int)))
theorem VarsAt.keep {w w' : World} {v : Value} {l : List Nat} (h : VarsAt w v l) (hk : ∀ b j x, w.cell? ⟨b, j, none⟩ = some x → w'.cell? ⟨b, j, none⟩ = some x) : VarsAt w' v l := by
  obtain ⟨a, cap, h1, h2, h3, h4⟩ := h
  refine ⟨a, cap, h1, h2, h3, fun hp => ?_⟩
  obtain ⟨b, hb, hc⟩ := h4 hp
  exact ⟨b, hb, fun j hj => hk _ _ _ (hc j hj)⟩
theorem VarsAt.below {w w' : World} {v : Value} {l : List Nat} (h : VarsAt w v l) (hb : Below w.heap.size w w') : VarsAt w' v l := h.keep fun _ _ _ hc => cellOn hb hc

def natsV (l : List Nat) : List Value := l.map fun (x : Nat) => Value.int .i64 (x : Int)
theorem natsV_one (l : List Nat) : ∀ v ∈ natsV l, v.oneCell' = true := by
  intro v hv
  simp only [natsV, List.mem_map] at hv
  obtain ⟨x, _, rfl⟩ := hv
  rfl
theorem natsV_len (l : List Nat) : (natsV l).length = l.length := by simp [natsV]
theorem natsV_get {l : List Nat} {j : Nat} {v : Value} (h : (natsV l)[j]? = some v) : j < l.length ∧ v = .int .i64 (l.getD j 0 : Int) := by
  have hj : j < (natsV l).length := by
    by_cases hh : j < (natsV l).length
    · exact hh
    · rw [List.getElem?_eq_none (by omega)] at h; cases h
  rw [natsV_len] at hj
  refine ⟨hj, ?_⟩
  simp only [natsV, List.getElem?_map, List.getElem?_eq_getElem hj, Option.map_some, Option.some.injEq] at h
  rw [← h, List.getD_eq_getElem?_getD, List.getElem?_eq_getElem hj]
  rfl

theorem row_made {w : World} {g m : Nat} (h : w.ownsRow g 3 1 (.slice (some ⟨g, 0, none⟩) m m) m (madeCells (Value.int .i64 0).cells (m * 1)).toList) :
    w.heap[g]? = some (.cells (List.replicate m (Value.int .i64 0)).toArray 3 (0, 0)) := by
  have e : (madeCells (Value.int .i64 0).cells (m * 1)).toList = List.replicate m (.int .i64 0) := by
    show (madeCells #[Value.int .i64 0] (m * 1)).toList = _
    rw [toList_madeCells_one, Nat.mul_one]
  rw [e] at h
  rcases h.2 with ⟨h1, _⟩ | ⟨g', cap, cur, h1, _, h2, _, _, h3, h4⟩
  · cases h1
  · cases h1
    rw [h2]
    have : cur.toList = List.replicate m (.int .i64 0) := by
      rw [← h4, List.take_of_length_le (by simp; omega)]
    rw [← this]

theorem addB (b o j : Nat) : (⟨b, o, none⟩ : Addr).add j = ⟨b, o + j, none⟩ := by
  unfold Addr.add
  split
  · rename_i h; subst h; rfl
  · rfl

/-- The row behind the two copies. -/
theorem two_splices (m i : Nat) (X1 X2 Z : List Value) (h1 : X1.length = i) (h2 : i + X2.length = m) (hz : Z.length = m) : splice (splice Z 0 X1) i X2 = X1 ++ X2 := by
  subst h1
  unfold splice
  have e1 : Z.take 0 ++ (X1 ++ Z.drop (0 + X1.length)) = X1 ++ Z.drop X1.length := by simp
  rw [e1]
  have e2 : (X1 ++ Z.drop X1.length).take X1.length = X1 := by simp
  have e3 : (X1 ++ Z.drop X1.length).drop (X1.length + X2.length) = [] := by
    apply List.drop_eq_nil_of_le
    simp only [List.length_append, List.length_drop]; omega
  rw [e2, e3, List.append_nil]

theorem vars_row {w : World} {g m i : Nat} {l : List Nat} {T : TypeId} (hi : i ≤ m) (hl : l.length = m + 1) (h4 : m ≤ 4) (h : w.heap[g]? = some (.cells (natsV (l.take i) ++ natsV (l.drop (i + 1))).toArray T (0, 0))) :
    VarsAt w (.slice (some ⟨g, 0, none⟩) m m) (l.eraseIdx i) := by
  have hle : (l.eraseIdx i).length = m := by rw [List.length_eraseIdx_of_lt (by omega)]; omega
  refine ⟨_, m, by rw [hle], by omega, h4, fun _ => ⟨g, rfl, fun j hj => ?_⟩⟩
  have e : natsV (l.take i) ++ natsV (l.drop (i + 1)) = natsV (l.eraseIdx i) := by
    rw [List.eraseIdx_eq_take_drop_succ]; simp [natsV]
  rw [e] at h
  rw [cell_of_row w g j _ _ (0, 0) h]
  simp only [List.getElem?_toArray, natsV, List.getElem?_map, List.getElem?_eq_getElem hj, Option.map_some, List.getD_eq_getElem?_getD, Option.getD_some]

set_option maxRecDepth 100000 in
set_option maxHeartbeats 2000000 in
theorem Vw.at (m i b cap : Nat) (l : List Nat) (hl : l.length = m + 1) (hi : i ≤ m) (hcap : m + 1 ≤ cap) (hc4 : cap ≤ 4) (w : World)
    (hcells : ∀ j, j < m + 1 → w.cell? ⟨b, j, none⟩ = some (.int .i64 (l.getD j 0 : Int))) :
    Calls Tryz.prog 57 #[.slice (some ⟨b, 0, none⟩) (m + 1) cap, .int .i64 (i : Int)] w fun e w' => ∃ v, e = .returned v ∧ VarsAt w' v (l.eraseIdx i) ∧ Below w.heap.size w w' := by
  obtain ⟨i0, hi0, hz0, hz1, hz2⟩ := info_parts Tryz.infoInt
  have HCE := Lib.hid hcells
  have HLL := Lib.hid hl
  clear hcells hl
  have hic : (i : Int) ≤ (cap : Int) := by omega
  have him : (i : Int) ≤ (m : Int) := by omega
  have hw1 : IntKind.i64.wrap ((i : Int) + 1) = (i : Int) + 1 := IntWalk.i64_in _ (by omega)
  have hi1 : (i : Int) + 1 ≤ (cap : Int) := by omega
  have hi2 : (i : Int) + 1 ≤ (m : Int) + 1 := by omega
  have hi3 : (0 : Int) ≤ (i : Int) + 1 := by omega
  go_enter Tryz.func57, Tryz.ntmps57
  obtain ⟨X1, hX1⟩ : ∃ X1, X1 = natsV (l.take i) := ⟨_, rfl⟩
  obtain ⟨X2, hX2⟩ : ∃ X2, X2 = natsV (l.drop (i + 1)) := ⟨_, rfl⟩
  obtain ⟨Z, hZ⟩ : ∃ Z, Z = List.replicate m (Value.int .i64 0) := ⟨_, rfl⟩
  have HL1 : Hid (X1.length = i) := Lib.hid (by rw [hX1, natsV_len, List.length_take, HLL.out]; omega)
  have HL2 : Hid (X2.length = m - i) := Lib.hid (by rw [hX2, natsV_len, List.length_drop, HLL.out]; omega)
  have HLZ : Hid (Z.length = m) := Lib.hid (by rw [hZ, List.length_replicate])
  have HO1 : Hid (∀ v ∈ X1, v.oneCell' = true) := Lib.hid (by rw [hX1]; exact natsV_one _)
  have HO2 : Hid (∀ v ∈ X2, v.oneCell' = true) := Lib.hid (by rw [hX2]; exact natsV_one _)
  have HG1 : Hid (∀ j v, X1[j]? = some v → w.cell? ⟨b, j, none⟩ = some v) := Lib.hid fun j v h => by
    rw [hX1] at h
    obtain ⟨h1, h2⟩ := natsV_get h
    rw [List.length_take, HLL.out] at h1
    rw [h2, HCE.out j (by omega), List.getD_eq_getElem?_getD, List.getD_eq_getElem?_getD, List.getElem?_take_of_lt (by omega)]
  have HG2 : Hid (∀ j v, X2[j]? = some v → w.cell? ⟨b, i + 1 + j, none⟩ = some v) := Lib.hid fun j v h => by
    rw [hX2] at h
    obtain ⟨h1, h2⟩ := natsV_get h
    rw [List.length_drop, HLL.out] at h1
    rw [h2, HCE.out (i + 1 + j) (by omega), List.getD_eq_getElem?_getD, List.getD_eq_getElem?_getD, List.getElem?_drop]
  have HX1 := Lib.hid hX1
  have HX2 := Lib.hid hX2
  have HZ := Lib.hid hZ
  clear hX1 hX2 hZ
  go_wp2_with (first
    | (at_make; go_must (refine wpList_make_full _ rfl _ _ 44 rfl w.heap.size 3 i0 (.int .i64 0) 1 Tryz.underlying44 hi0 hz0 hz1 _ _ _ _ m rfl rfl (by first | rfl | (simp; done) | omega) (by first | rfl | (simp; done) | omega) (by rw [hz2]; omega) (by unfold maxLen; omega) (Nat.le_refl _) ?_; intro w1 hown hgrow; have HR1 : Hid (w1.heap[w.heap.size]? = some (.cells Z.toArray 3 (0, 0))) := Lib.hid (by rw [HZ.out]; exact row_made hown); have HB1 := Lib.hid ((Below.refl w.heap.size w).grown hgrow (Nat.le_refl _) (fun _ h => by cases h)); clear hown hgrow))
    | (refine wpList_copy_splice rfl _ _ _ _ rfl 3 Tryz.underlying44 (by kernel_rfl) _ _ _ _ _ _ rfl rfl w.heap.size 0 Z 3 HR1.out X1 (by rw [HL1.out]; exact (Nat.min_eq_left (by omega)).symm) (fun _ => ⟨rfl, _, rfl, fun j v h => by rw [addB, Nat.zero_add]; exact cellOn HB1.out (HG1.out j v h)⟩) (by rw [HL1.out, HLZ.out]; omega) HO1.out w.heap.size w HB1.out (Nat.le_refl _) ?_; intro w2 HR2 hb2; have HB2 := Lib.hid hb2; clear hb2)
    | fail)
  have HN2 : Hid (X2.length = Nat.min (m - i) (m - i)) := Lib.hid (by rw [HL2.out]; exact (Nat.min_self _).symm)
  have HFIT : Hid (i + X2.length ≤ (splice Z 0 X1).length) := Lib.hid (by rw [HL2.out, length_splice _ _ _ (by rw [HL1.out, HLZ.out]; omega), HLZ.out]; omega)
  have HROW : Hid (splice (splice Z 0 X1) i X2 = X1 ++ X2) := Lib.hid (two_splices m i X1 X2 Z HL1.out (by rw [HL2.out]; omega) HLZ.out)
  by_cases hlast : i = m
  · subst hlast
    go_region_law (refine step_copy_splice rfl (.tmp 17) (.tmp 21) 44 44 rfl 3 Tryz.underlying44 (by kernel_rfl) (some ⟨w.heap.size, 0, none⟩) (if cap = i + 1 then some ⟨b, 0, none⟩ else some ⟨b, i + 1, none⟩) 0 0 0 (cap - (i + 1)) (by simp [Act.eval, Act.put]) (by simp [Act.eval, Act.put]) w.heap.size i (splice Z 0 X1) 3 HR2.out X2 (by rw [HL2.out, Nat.sub_self]; rfl) (fun hp => absurd hp (by rw [HL2.out]; omega)) HFIT.out HO2.out w.heap.size w (bD HB2.out) (Nat.le_refl _) ?_; intro w3 HR3 hb3; have HB3 := Lib.hid hb3; clear hb3)
    all_goals
      rw [HROW.out] at HR3
      have HF := Lib.hid (vars_row (m := i) (i := i) (by omega) HLL.out (by omega) (by rw [← HX1.out, ← HX2.out]; exact HR3))
      go_wp2
      all_goals
        go_ret
        exact ⟨_, rfl, HF.out, HB3.out⟩
  · have hn1 : ¬ m = i := fun h => hlast h.symm
    have hn2 : ¬ cap = i + 1 := by omega
    go_region_law (refine step_copy_splice rfl (.tmp 17) (.tmp 21) 44 44 rfl 3 Tryz.underlying44 (by kernel_rfl) (some ⟨w.heap.size, i, none⟩) (some ⟨b, i + 1, none⟩) (m - i) (m - i) (m - i) (cap - (i + 1)) (by simp [Act.eval, Act.put]) (by simp [Act.eval, Act.put]) w.heap.size i (splice Z 0 X1) 3 HR2.out X2 (HN2.out) (fun hp => ⟨rfl, _, rfl, fun j v h => by rw [addB]; exact cellOn (bD HB2.out) (HG2.out j v h)⟩) HFIT.out HO2.out w.heap.size w (bD HB2.out) (Nat.le_refl _) ?_; intro w3 HR3 hb3; have HB3 := Lib.hid hb3; clear hb3)
    all_goals
      rw [HROW.out] at HR3
      have HF := Lib.hid (vars_row (m := m) (i := i) (by omega) HLL.out (by omega) (by rw [← HX1.out, ← HX2.out]; exact HR3))
      go_wp2
      all_goals
        go_ret
        exact ⟨_, rfl, HF.out, HB3.out⟩

/-- variablesWithout. -/
theorem Vw.any (v : Value) (l : List Nat) (i : Nat) (hi : i < l.length) (w : World) (h : VarsAt w v l) :
    Calls Tryz.prog 57 #[v, .int .i64 (i : Int)] w fun e w' => ∃ v', e = .returned v' ∧ VarsAt w' v' (l.eraseIdx i) ∧ Below w.heap.size w w' := by
  obtain ⟨a, cap, rfl, h2, h3, h4⟩ := h
  obtain ⟨b, rfl, hc⟩ := h4 (by omega)
  obtain ⟨m, hm⟩ : ∃ m, l.length = m + 1 := ⟨l.length - 1, by omega⟩
  rw [hm] at hc h2 ⊢
  exact Vw.at m i b cap l hm (by omega) h2 h3 w hc

end Go.Proofs.YtdhdkonokbkdoaaGreatDoor

namespace Go.Proofs.YtdhdkonokbkdoaaGreatDoor
open Go.RowKit Plain
set_option linter.unusedVariables false

theorem tripB0 {w : World} {b : Nat} {x y z : Value} {T : TypeId} (h : w.heap[b]? = some (.cells #[x, y, z] T (0, 0))) : w.cell? ⟨b, 0, none⟩ = some x := by simp [World.cell?, h]
theorem tripB1 {w : World} {b : Nat} {x y z : Value} {T : TypeId} (h : w.heap[b]? = some (.cells #[x, y, z] T (0, 0))) : w.cell? ⟨b, 1, none⟩ = some y := by simp [World.cell?, h]
theorem tripB2 {w : World} {b : Nat} {x y z : Value} {T : TypeId} (h : w.heap[b]? = some (.cells #[x, y, z] T (0, 0))) : w.cell? ⟨b, 2, none⟩ = some z := by simp [World.cell?, h]
theorem tripBF {w : World} {b : Nat} {x y z : Value} {T : TypeId} (h : w.heap[b]? = some (.cells #[x, y, z] T (0, 0))) (j : Nat) : w.frozen? ⟨b, j, none⟩ = false := frozen_of_row w b j _ _ h
theorem tripB_put1 {w : World} {b : Nat} {x y z : Value} {T : TypeId} (h : w.heap[b]? = some (.cells #[x, y, z] T (0, 0))) (u : Value) : (w.setCell ⟨b, 1, none⟩ u).heap[b]? = some (.cells #[x, u, z] T (0, 0)) := by
  rw [heap_setCell_same w b 1 _ _ u h]; rfl
theorem tripB_put2 {w : World} {b : Nat} {x y z : Value} {T : TypeId} (h : w.heap[b]? = some (.cells #[x, y, z] T (0, 0))) (u : Value) : (w.setCell ⟨b, 2, none⟩ u).heap[b]? = some (.cells #[x, y, u] T (0, 0)) := by
  rw [heap_setCell_same w b 2 _ _ u h]; rfl
theorem TrIn.drewB {base : Nat} {w : World} {T : DT} {b : Nat} (h : TrIn base w T b) : TrIn base w.drew T b := h.below (Below.refl _ _).drew
theorem TrIn.onB {base : Nat} {X w w' : World} (hb : Below X.heap.size X w') (hX : ∀ b, b < w.heap.size → X.heap[b]? = w.heap[b]?) {T : DT} {b : Nat} (h : TrIn base w T b) : TrIn base w' T b :=
  TrIn.below hb (h.keep fun b o v _ hc => by
    have hlt : b < w.heap.size := by
      by_cases hh : b < w.heap.size
      · exact hh
      · have hn : w.heap[b]? = none := Array.getElem?_eq_none (by omega)
        simp [World.cell?, hn] at hc
    rw [← hc]; unfold World.cell?; rw [hX b hlt])

theorem index0 (u0 u1 u2 u3 : Value) (w : World) : (Instr.index 72 (.agg #[u0, u1, u2, u3]) (.int .i64 0)).run Tryz.prog w = .ok (.agg #[u0, u1]) w := by kernel_rfl
theorem index1 (u0 u1 u2 u3 : Value) (w : World) : (Instr.index 72 (.agg #[u0, u1, u2, u3]) (.int .i64 1)).run Tryz.prog w = .ok (.agg #[u2, u3]) w := by kernel_rfl

theorem VarsAt.set {w : World} {v : Value} {l : List Nat} {p : Addr} {u : Value} {q : Option Addr} (h : VarsAt w v l) (hp : w.cell? p = some (.pointer q)) : VarsAt (w.setCell p u) v l := by
  obtain ⟨a, cap, h1, h2, h3, h4⟩ := h
  refine ⟨a, cap, h1, h2, h3, fun hl => ?_⟩
  obtain ⟨b, hb, hc⟩ := h4 hl
  refine ⟨b, hb, fun j hj => (World.cell?_setCell_other w p _ u ?_).trans (hc j hj)⟩
  intro e
  rw [e, hc j hj] at hp
  cases hp
theorem VarsAt.drew1 {w : World} {v : Value} {l : List Nat} (h : VarsAt w v l) : VarsAt w.drew v l := h.below (Below.refl _ _).drew

/-- ValueAt at the first input. -/
theorem Va.zero (n a : Nat) (hn : n ≤ 5) (ha : a ≤ fullN n) (w : World) :
    Calls Tryz.prog 55 #[.agg #[.int .i64 (n : Int), .int .i64 (a : Int)], .int .i64 0] w fun e w' => e = .returned (.int .i64 ((a.testBit 0).toNat : Int)) ∧ Below w.heap.size w w' := by
  have h2 : (((0 : Nat) : Int)) < 2 ^ n := by rw [up2]; have : 0 < 2 ^ n := Nat.pow_pos (by decide); omega
  have := Tab.valI n a ((0 : Nat) : Int) (by have := fullN_le n hn; omega) w
  rw [valAt_in n a 0 hn ha h2, bitN_test] at this
  exact this

set_option maxRecDepth 100000 in
set_option maxHeartbeats 4000000 in
theorem Btr.con (n a : Nat) (hn : n ≤ 4) (ha : a ≤ fullN n) (hc : conT (n : Int) (a : Int) = true) (v : Value) (vs : List Nat) (w : World) :
    Calls Tryz.prog 29 #[.agg #[.int .i64 (n : Int), .int .i64 (a : Int)], v] w fun e w' => ∃ b, e = .returned (.pointer (some ⟨b, 0, none⟩)) ∧ TrIn w.heap.size w' (bst n a vs) b ∧ Below w.heap.size w w' := by
  rw [bst_con hc]
  have hf := fullN_le n (by omega)
  have HC := Lib.hid (Tab.conI (n : Int) a (by omega))
  rw [hc] at HC
  have HV := Lib.hid (Va.zero n a (by omega) ha)
  clear hc hf ha
  generalize a.testBit 0 = t at *
  go_enter Tryz.func29, Tryz.ntmps29
  go_wp2_with fail
  refine (HC.out _).mono ?_
  rintro e w1 ⟨rfl, hb1⟩
  have HX0 : w1.heap[w.heap.size]? = some (.cells #[.int .i64 (n : Int), .int .i64 (a : Int)] 25 (0, 0)) := blockB hb1 (heap_alloc_new w _)
  obtain ⟨c0, c1, f0, f1⟩ := cells2 HX0
  have hz := lt_of_block HX0
  have HB1 := Lib.hid hb1
  clear hb1 HX0
  go_wp2_with fail
  refine (HV.out _).mono ?_
  rintro e w2 ⟨rfl, hb2⟩
  have hz2 := hb2.size
  have HB2 := Lib.hid hb2
  clear hb2
  go_wp2_with fail
  go_ret
  refine ⟨w2.heap.size, rfl, ⟨by omega, ?_, ?_, ?_⟩, bA (by omega) (bB HB2.out (by omega) (bB HB1.out (by simp) (bA (Nat.le_refl _) (Below.refl _ _))))⟩
  all_goals (refine keepN rfl rfl)

set_option maxRecDepth 100000 in
set_option maxHeartbeats 4000000 in
/-- bestTree. -/
theorem Btr.any (n : Nat) : ∀ (a : Nat) (v : Value) (vs : List Nat) (w : World), n ≤ 4 → a ≤ fullN n → VarsAt w v vs → vs.length = n → (∀ x ∈ vs, x < 5) →
    Calls Tryz.prog 29 #[.agg #[.int .i64 (n : Int), .int .i64 (a : Int)], v] w fun e w' => ∃ b, e = .returned (.pointer (some ⟨b, 0, none⟩)) ∧ TrIn w.heap.size w' (bst n a vs) b ∧ Below w.heap.size w w' := by
  induction n with
  | zero => intro a v vs w hn ha _ _ _; exact Btr.con 0 a hn ha (con_zero ha) v vs w
  | succ n ih =>
    intro a v vs w hn ha hv hlen hall
    cases hc : conT ((n + 1 : Nat) : Int) (a : Int) with
    | true => exact Btr.con (n + 1) a hn ha hc v vs w
    | false =>
      rw [bst_step hc]
      have hf := fullN_le (n + 1) (by omega)
      have HC := Lib.hid (Tab.conI ((n + 1 : Nat) : Int) a (by omega))
      rw [hc] at HC
      have HQ := Lib.hid (Bq.any n a hn ha)
      have hi : bqB (worse n a) (n + 1) < n + 1 := (bqB_spec (worse n a) (fun i => worse_lt n a i (by omega)) (n + 1) (by omega)).1
      generalize bqB (worse n a) (n + 1) = i at *
      have HS := Lib.hid (Sp.any n a i (by omega) ha hi)
      have hel : (vs.eraseIdx i).length = n := by rw [List.length_eraseIdx_of_lt (by omega)]; omega
      have hea : ∀ x ∈ vs.eraseIdx i, x < 5 := fun x hx => hall x (List.mem_of_mem_eraseIdx hx)
      have HA := Lib.hid (fun (v : Value) (w : World) (h : VarsAt w v (vs.eraseIdx i)) => ih (restW (n + 1) a i 0) v (vs.eraseIdx i) w (by omega) (tabN_full _ _) h hel hea)
      have HD := Lib.hid (fun (v : Value) (w : World) (h : VarsAt w v (vs.eraseIdx i)) => ih (restW (n + 1) a i 1) v (vs.eraseIdx i) w (by omega) (tabN_full _ _) h hel hea)
      have HVW := Lib.hid (fun (v : Value) (w : World) (h : VarsAt w v vs) => Vw.any v vs i (by omega) w h)
      have hx5 : vs.getD i 0 < 5 := by
        rw [List.getD_eq_getElem?_getD, List.getElem?_eq_getElem (by omega)]
        exact hall _ (List.getElem_mem _)
      have HFV : Hid (((finV (vs.getD i 0)).val : Int) = ((vs.getD i 0 : Nat) : Int)) := Lib.hid (by rw [finV_val hx5])
      generalize finV (vs.getD i 0) = F at *
      generalize bst n (restW (n + 1) a i 0) (vs.eraseIdx i) = T0 at *
      generalize bst n (restW (n + 1) a i 1) (vs.eraseIdx i) = T1 at *
      generalize restW (n + 1) a i 0 = r0 at *
      generalize restW (n + 1) a i 1 = r1 at *
      have HVA := Lib.hid hv
      obtain ⟨ad, cap, rfl, hc1, hc2, hc3⟩ := hv
      obtain ⟨b, rfl, hcell⟩ := hc3 (by omega)
      have hci := hcell i (by omega)
      rw [hlen] at HVA hc1
      have HCI := Lib.hid hci
      generalize vs.getD i 0 = x at *
      generalize vs.eraseIdx i = rest at *
      rw [hlen]
      have hi2 : (i : Int) < (n : Int) + 1 := by omega
      clear hc hf ha hcell hall hea hel hlen ih hc3 hci
      have hqe : ((n + 1 : Nat) : Int) = (n : Int) + 1 := by omega
      rw [hqe] at HC HQ HS ⊢
      go_enter Tryz.func29, Tryz.ntmps29
      go_wp2_with fail
      refine (HC.out _).mono ?_
      rintro e w1 ⟨rfl, hb1⟩
      have hx1 : w1.heap[w.heap.size]? = some (.cells #[.int .i64 ((n : Int) + 1), .int .i64 (a : Int)] 25 (0, 0)) := blockB hb1 (heap_alloc_new w _)
      obtain ⟨c0, c1, f0, f1⟩ := cells2 hx1
      have HX1 := Lib.hid hx1
      have hz1 := lt_of_block hx1
      have HB1 : Hid (Below w.heap.size w w1) := Lib.hid (bB hb1 (by simp) (bA (Nat.le_refl _) (Below.refl _ _)))
      clear hb1 hx1
      go_wp2_with fail
      refine (HQ.out _).mono ?_
      rintro e w2 ⟨rfl, hb2⟩
      have hx2 := blockB hb2 HX1.out
      obtain ⟨c0, c1, f0, f1⟩ := cells2 hx2
      have HX2 := Lib.hid hx2
      have hz2 := lt_of_block hx2
      have HB2 : Hid (Below w.heap.size w w2) := Lib.hid (bB hb2 (by omega) HB1.out)
      have hcx : w2.cell? ⟨b, i, none⟩ = some (.int .i64 (x : Int)) := cellOn HB2.out HCI.out
      clear hb2 hx2
      go_wp2_with fail
      refine (HVW.out _ _ (HVA.out.below (bA (by omega) HB2.out))).mono ?_
      rintro e w3 ⟨v', rfl, hv3, hb3⟩
      have hx3 := blockB hb3 ((heap_alloc_old w2 _ hz2).trans HX2.out)
      have ht3 := blockB hb3 (heap_alloc_new w2 (.cells #[.int .i64 (x : Int), .pointer none, .pointer none] 70 (0, 0)))
      obtain ⟨c0, c1, f0, f1⟩ := cells2 hx3
      have HX3 := Lib.hid hx3
      have HT3 := Lib.hid ht3
      have HV3 := Lib.hid hv3
      have hz3 := lt_of_block ht3
      have hz3' := lt_of_block hx3
      have HB3 : Hid (Below w.heap.size w w3) := Lib.hid (bB hb3 (by simp; omega) (bA (by omega) HB2.out))
      clear hb3 hx3 ht3 hv3
      go_wp2_with fail
      refine (HS.out _).mono ?_
      rintro e w4 ⟨rfl, hb4⟩
      have HT4 := Lib.hid (blockB hb4 HT3.out)
      have HV4 := Lib.hid (HV3.out.below hb4)
      have HB4 : Hid (Below w.heap.size w w4) := Lib.hid (bB hb4 (by omega) HB3.out)
      clear hb4 c0 c1 f0 f1
      go_wp2_with fail
      go_loopw [30] (fun y wr => ((y = .int .i64 0 ∧ wr.heap[w2.heap.size]? = some (.cells #[.int .i64 (x : Int), .pointer none, .pointer none] 70 (0, 0))) ∨ (y = .int .i64 1 ∧ ∃ bl, TrIn (w2.heap.size + 1) wr T0 bl ∧ wr.heap[w2.heap.size]? = some (.cells #[.int .i64 (x : Int), .pointer (some ⟨bl, 0, none⟩), .pointer none] 70 (0, 0))) ∨
          (y = .int .i64 2 ∧ ∃ bl br, (TrIn (w2.heap.size + 1) wr T0 bl ∧ TrIn (w2.heap.size + 1) wr T1 br) ∧ wr.heap[w2.heap.size]? = some (.cells #[.int .i64 (x : Int), .pointer (some ⟨bl, 0, none⟩), .pointer (some ⟨br, 0, none⟩)] 70 (0, 0)))) ∧ VarsAt wr v' rest ∧ Below w.heap.size w wr) (fun y _ => 4 - (intOf y).toNat)
      case atStart => exact ⟨.inl ⟨rfl, HT4.out⟩, HV4.out, HB4.out⟩
      case round =>
        obtain ⟨hcase, hvr, hbel⟩ := hrel
        have HB := Lib.hid hbel
        have HVR := Lib.hid hvr
        clear hbel hvr
        rcases hcase with ⟨rfl, hx⟩ | ⟨rfl, bl, htl, hx⟩ | ⟨rfl, bl, br, ⟨htl, htr⟩, hx⟩
        · have HX := Lib.hid hx
          have hlt2 : w2.heap.size < wr.heap.size := lt_of_block hx
          have hix := index0 (.int .i64 (n : Int)) (.int .i64 (r0 : Int)) (.int .i64 (n : Int)) (.int .i64 (r1 : Int))
          clear hx
          go_wp2_with fail
          go_region_with (refine (HA.out _ _ (HVR.out.below (by repeat (first | (with_reducible exact Below.refl _ _) | (with_reducible refine bD ?_) | (with_reducible refine bA (Nat.le_refl _) ?_))))).mono ?_; rintro e w5 ⟨bl, rfl, hti, hb5⟩; have X5 := blockB hb5 ((heap_alloc_old wr _ hlt2).trans HX.out); have x1 := tripB1 X5; have f1 := tripBF X5 1; have HX5 := Lib.hid X5; have HB1 := Lib.hid hb5; have HTL := Lib.hid hti; have HXC := Lib.hid x1; have HVR5 := Lib.hid ((HVR.out.below (by repeat (first | (with_reducible exact Below.refl _ _) | (with_reducible refine bD ?_) | (with_reducible refine bA (Nat.le_refl _) ?_)))).below hb5); clear X5 hb5 hti)
          all_goals
            go_wp2
            go_roundw
            case rel =>
              refine ⟨.inr (.inl ⟨rfl, bl, ?_, tripB_put1 HX5.out _⟩), ?_, ?_⟩
              · repeat (first | (with_reducible exact HTL.out.mono (by simp; omega)) | (with_reducible refine TrIn.drewB ?_) | ((with_reducible refine TrIn.set ?_ ?_); (focus (dsimp only; omega))))
              · repeat (first | (with_reducible exact HVR5.out) | (with_reducible refine VarsAt.drew1 ?_) | (with_reducible refine VarsAt.set ?_ HXC.out))
              · (repeat (first | (with_reducible exact HB.out) | ((with_reducible refine bS ?_ ?_); (focus (dsimp only; omega))) | (with_reducible refine bD ?_) | ((with_reducible refine bB HB1.out ?_ ?_); (focus (first | omega | (simp; done) | (simp; omega)))) | ((with_reducible refine bA ?_ ?_); (focus (first | omega | (simp; done) | (simp; omega))))))
            case measure => simp [intOf]
        · have HX := Lib.hid hx
          have hlt2 : w2.heap.size < wr.heap.size := lt_of_block hx
          have hix := index1 (.int .i64 (n : Int)) (.int .i64 (r0 : Int)) (.int .i64 (n : Int)) (.int .i64 (r1 : Int))
          have HTL0 := Lib.hid htl
          clear hx htl
          go_wp2_with fail
          go_region_with (refine (HD.out _ _ (HVR.out.below (by repeat (first | (with_reducible exact Below.refl _ _) | (with_reducible refine bD ?_) | (with_reducible refine bA (Nat.le_refl _) ?_))))).mono ?_; rintro e w5 ⟨br, rfl, hti, hb5⟩; have X5 := blockB hb5 ((heap_alloc_old wr _ hlt2).trans HX.out); have x1 := tripB2 X5; have f1 := tripBF X5 2; have HT1 := Lib.hid (TrIn.onB (w := wr) hb5 (fun _ hh => heap_alloc_old wr _ hh) HTL0.out); have HX5 := Lib.hid X5; have HB1 := Lib.hid hb5; have HTL := Lib.hid hti; have HXC := Lib.hid x1; have HVR5 := Lib.hid ((HVR.out.below (by repeat (first | (with_reducible exact Below.refl _ _) | (with_reducible refine bD ?_) | (with_reducible refine bA (Nat.le_refl _) ?_)))).below hb5); clear X5 hb5 hti)
          all_goals
            go_wp2
            go_roundw
            case rel =>
              refine ⟨.inr (.inr ⟨rfl, bl, br, ⟨?_, ?_⟩, tripB_put2 HX5.out _⟩), ?_, ?_⟩
              · repeat (first | (with_reducible exact HT1.out) | (with_reducible refine TrIn.drewB ?_) | ((with_reducible refine TrIn.set ?_ ?_); (focus (dsimp only; omega))))
              · repeat (first | (with_reducible exact HTL.out.mono (by simp; omega)) | (with_reducible refine TrIn.drewB ?_) | ((with_reducible refine TrIn.set ?_ ?_); (focus (dsimp only; omega))))
              · repeat (first | (with_reducible exact HVR5.out) | (with_reducible refine VarsAt.drew1 ?_) | (with_reducible refine VarsAt.set ?_ HXC.out))
              · (repeat (first | (with_reducible exact HB.out) | ((with_reducible refine bS ?_ ?_); (focus (dsimp only; omega))) | (with_reducible refine bD ?_) | ((with_reducible refine bB HB1.out ?_ ?_); (focus (first | omega | (simp; done) | (simp; omega)))) | ((with_reducible refine bA ?_ ?_); (focus (first | omega | (simp; done) | (simp; omega))))))
            case measure => simp [intOf]
        · have HX := Lib.hid hx
          have HTL := Lib.hid htl
          have HTR := Lib.hid htr
          clear hx htl htr
          go_wp2_with fail
          go_ret
          exact ⟨w2.heap.size, rfl, ⟨by omega, by rw [HFV.out]; exact tripB0 HX.out, bl, br, tripB1 HX.out, tripB2 HX.out, HTL.out.mono (by omega), HTR.out.mono (by omega)⟩, HB.out⟩

end Go.Proofs.YtdhdkonokbkdoaaGreatDoor

namespace Go.Proofs.YtdhdkonokbkdoaaGreatDoor
open Go.RowKit Plain
set_option linter.unusedVariables false

theorem finV_self (i : Fin 5) : finV i.val = i := Fin.ext (Nat.mod_eq_of_lt i.isLt)
theorem itoa_bit (b : Bool) : (⟨(Lib.itoa (b.toNat : Int)).toArray⟩ : ByteArray) = ⟨(txtD (.val b)).toArray⟩ := by
  cases b
  all_goals first | (kernel_rfl; done) | (decide +kernel) | (simp [Lib.itoa, txtD]; done)

set_option maxRecDepth 100000 in
set_option maxHeartbeats 8000000 in
/-- text. -/
theorem Txt.any (T : DT) (hT : (txtD T).length ≤ 1000) : ∀ (base b : Nat) (w : World), TrIn base w T b → Pow10 w →
    Calls Tryz.prog 30 #[.pointer (some ⟨b, 0, none⟩)] w fun e w' => e = .returned (.string ⟨(txtD T).toArray⟩) ∧ Below w.heap.size w w' := by
  induction T with
  | val v =>
    intro base b w hti hp
    obtain ⟨h0, c0, c1, c2⟩ := hti
    have HV := Lib.hid (fun w (hp : Pow10 w) => FmtI.impl (v.toNat : Int) (by cases v <;> decide) w hp)
    rw [itoa_bit v] at HV
    have HP := Lib.hid hp
    have HIV := Lib.hid (IsVal.yes w b c1)
    generalize (⟨(txtD (.val v)).toArray⟩ : ByteArray) = s at *
    generalize (v.toNat : Int) = z at *
    clear hp
    go_enter Tryz.func30, Tryz.ntmps30
    go_wp2_with fail
    refine HIV.out.mono ?_
    rintro e w1 ⟨rfl, rfl⟩
    go_wp2_with fail
    refine (HV.out _ HP.out).mono ?_
    rintro e w2 ⟨rfl, hb2⟩
    go_wp2_with fail
    go_ret
    exact ⟨rfl, hb2⟩
  | ask i l r ihl ihr =>
    intro base b w hti hp
    have hlen : (txtD (.ask i l r)).length = (txtD l).length + (txtD r).length + 1 := by simp [txtD]
    rw [hlen] at hT
    obtain ⟨h0, c0, bl, br, c1, c2, hl, hr⟩ := hti
    have HIV := Lib.hid (IsVal.no w b _ c1)
    have HA : Hid (∀ W, Below w.heap.size w W → Calls Tryz.prog 30 #[.pointer (some ⟨bl, 0, none⟩)] W fun e w' => e = .returned (.string ⟨(txtD l).toArray⟩) ∧ Below W.heap.size W w') := Lib.hid fun W hb => ihl (by omega) base bl W (hl.below hb) (hp.stays hb (Nat.le_refl _))
    have HD : Hid (∀ W, Below w.heap.size w W → Calls Tryz.prog 30 #[.pointer (some ⟨br, 0, none⟩)] W fun e w' => e = .returned (.string ⟨(txtD r).toArray⟩) ∧ Below W.heap.size W w') := Lib.hid fun W hb => ihr (by omega) base br W (hr.below hb) (hp.stays hb (Nat.le_refl _))
    have hsl := sliceD i.val i.isLt
    rw [finV_self] at hsl
    have hi5 : (i.val : Int) < 5 := by have := i.isLt; omega
    have hw1 : IntKind.i64.wrap ((i.val : Int) + 1) = (i.val : Int) + 1 := IntWalk.i64_in _ (by omega)
    have HJ1 : ∀ w, (Op.stringOp .add ⟨#[letC i]⟩ ⟨(txtD l).toArray⟩).run Tryz.prog w = .ok (.string ⟨(letC i :: txtD l).toArray⟩) w := fun w => join_text [letC i] _ (by simp; omega) w
    have HJ2 : ∀ w, (Op.stringOp .add ⟨(letC i :: txtD l).toArray⟩ ⟨(txtD r).toArray⟩).run Tryz.prog w = .ok (.string ⟨(txtD (.ask i l r)).toArray⟩) w := fun w => join_text _ _ (by simp; omega) w
    have hlt : b < w.heap.size := by
      by_cases hh : b < w.heap.size
      · exact hh
      · have hn : w.heap[b]? = none := Array.getElem?_eq_none (by omega)
        simp [World.cell?, hn] at c0
    generalize (⟨(txtD (.ask i l r)).toArray⟩ : ByteArray) = s0 at *
    generalize (⟨(letC i :: txtD l).toArray⟩ : ByteArray) = s3 at *
    generalize (⟨(txtD l).toArray⟩ : ByteArray) = s1 at *
    generalize (⟨(txtD r).toArray⟩ : ByteArray) = s2 at *
    generalize (⟨#[letC i]⟩ : ByteArray) = s4 at *
    generalize i.val = I at *
    clear ihl ihr hl hr hp hT hlen
    go_enter Tryz.func30, Tryz.ntmps30
    go_wp2_with fail
    refine HIV.out.mono ?_
    rintro e w1 ⟨rfl, rfl⟩
    go_wp2_with fail
    go_region_held3 (fun w' => w'.cell? ⟨b, 0, none⟩ = some (.int .i64 (I : Int)) ∧ w'.cell? ⟨b, 1, none⟩ = some (.pointer (some ⟨bl, 0, none⟩)) ∧ w'.cell? ⟨b, 2, none⟩ = some (.pointer (some ⟨br, 0, none⟩))) ((first | (go_split_ands; (try dsimp only); (refine ⟨?_, ?_, ?_⟩ <;> (repeat (first | with_reducible assumption | ((with_reducible refine keepU ?_); (with_reducible assumption)) | (with_reducible refine keepD ?_) | (with_reducible refine keepB hb ?_) | (with_reducible refine keepB hb' ?_)))); done) | go_keep))
      (first
        | (with_reducible refine (HA.out _ (by repeat (first | (with_reducible exact Below.refl _ _) | (with_reducible refine bD ?_)))).mono ?_; rintro e w14 ⟨rfl, hb⟩; obtain ⟨hc, hf⟩ := bcell hb; have hs := hb.size; try simp only [World.size_drew] at hs)
        | (with_reducible refine (HD.out _ (by repeat (first | (with_reducible exact Below.refl _ _) | (with_reducible refine bD ?_) | ((with_reducible refine bB hb ?_ ?_); (focus (first | omega | (simp; done) | (simp; omega))))))).mono ?_; rintro e w15 ⟨rfl, hb'⟩; obtain ⟨hc', hf'⟩ := bcell hb'; have hs' := hb'.size; try simp only [World.size_drew] at hs'))
    all_goals
      go_wp2
      go_ret
      exact ⟨rfl, by repeat (first | (with_reducible exact Below.refl _ _) | (with_reducible refine bD ?_) | ((with_reducible refine bB hb ?_ ?_); (focus (first | omega | (simp; done) | (simp; omega)))) | ((with_reducible refine bB hb' ?_ ?_); (focus (first | omega | (simp; done) | (simp; omega)))))⟩

end Go.Proofs.YtdhdkonokbkdoaaGreatDoor

namespace Go.Proofs.YtdhdkonokbkdoaaGreatDoor
open Go.RowKit Plain
set_option linter.unusedVariables false

theorem four_vars (n : Nat) (hn : n ≤ 4) {W : World} {g : Nat} {T : TypeId} (h : W.heap[g]? = some (.cells #[.int .i64 0, .int .i64 1, .int .i64 2, .int .i64 3] T (0, 0))) : VarsAt W (.slice (some ⟨g, 0, none⟩) n 4) (List.range n) := by
  have hl : (List.range n).length = n := List.length_range
  obtain ⟨q0, q1, q2, q3⟩ := quad_cells h
  refine ⟨_, 4, by rw [hl], by rw [hl]; exact hn, by decide, fun _ => ⟨g, rfl, fun j hj => ?_⟩⟩
  rw [hl] at hj
  have e : (List.range n).getD j 0 = j := by
    rw [List.getD_eq_getElem?_getD, List.getElem?_range hj]; rfl
  rw [e]
  have : j = 0 ∨ j = 1 ∨ j = 2 ∨ j = 3 := by omega
  rcases this with rfl | rfl | rfl | rfl
  · exact q0
  · exact q1
  · exact q2
  · exact q3

set_option maxRecDepth 100000 in
set_option maxHeartbeats 4000000 in
/-- BestTree of the program. -/
theorem Bst.impl (n a : Int) (hb : -9223372036854775808 ≤ a ∧ a ≤ 9223372036854775807) (w : World) (hp : Pow10 w) :
    Calls Tryz.prog 6 #[.agg #[.int .i64 n, .int .i64 a]] w fun e w' => e = .returned (btV n a) ∧ Below w.heap.size w w' := by
  have HH := Lib.hid (Hb.any n a hb)
  cases hc : btB n a with
  | false =>
    rw [btV_no hc]
    rw [hc] at HH
    clear hc hb hp
    go_enter Tryz.func6, Tryz.ntmps6
    go_wp2_with fail
    refine (HH.out _).mono ?_
    rintro e w1 ⟨rfl, hb1⟩
    go_wp2_with fail
    go_ret2
    exact ⟨rfl, bB hb1 (by simp) (bA (Nat.le_refl _) (Below.refl _ _))⟩
  | true =>
    rw [hc] at HH
    obtain ⟨m, x, rfl, rfl, hm, hx, _⟩ := btB_yes hc
    rw [btV_yes hc]
    have HP := Lib.hid hp
    have HTR := Lib.hid (fun (v : Value) (w : World) (h : VarsAt w v (List.range m)) => Btr.any m x v (List.range m) w hm hx h List.length_range (fun y hy => by have := List.mem_range.1 hy; omega))
    have hln := bst_len m x (List.range m)
    have hpw : 2 ^ (m + 1) ≤ 2 ^ 5 := Nat.pow_le_pow_right (n := 2) (by decide) (by omega)
    have HTX := Lib.hid (fun (base b : Nat) (w : World) (h1 : TrIn base w (bst m x (List.range m)) b) (h2 : Pow10 w) => Txt.any (bst m x (List.range m)) (by omega) base b w h1 h2)
    generalize bst m x (List.range m) = T at *
    have hm4 : (m : Int) ≤ 4 := by omega
    have HM := Lib.hid hm
    clear hc hb hx hp hln hpw hm
    go_enter Tryz.func6, Tryz.ntmps6
    go_wp2_with fail
    refine (HH.out _).mono ?_
    rintro e w1 ⟨rfl, hb1⟩
    have HX0 : w1.heap[w.heap.size]? = some (.cells #[.int .i64 (m : Int), .int .i64 (x : Int)] 25 (0, 0)) := blockB hb1 (heap_alloc_new w _)
    obtain ⟨c0, c1, f0, f1⟩ := cells2 HX0
    have hz := lt_of_block HX0
    have HB1 : Hid (Below w.heap.size w w1) := Lib.hid (bB hb1 (by simp) (bA (Nat.le_refl _) (Below.refl _ _)))
    clear hb1 HX0
    go_wp2_with fail
    have HVA := Lib.hid (four_vars m HM.out (heap_alloc_new w1 (.cells #[.int .i64 0, .int .i64 1, .int .i64 2, .int .i64 3] 41 (0, 0))))
    have HPW := Lib.hid (HP.out.stays (bA (B := w.heap.size) (o := .cells #[.int .i64 0, .int .i64 1, .int .i64 2, .int .i64 3] 41 (0, 0)) (by omega) HB1.out) (Nat.le_refl _))
    have HB2 : Hid (Below w.heap.size w (w1.alloc (.cells #[.int .i64 0, .int .i64 1, .int .i64 2, .int .i64 3] 41 (0, 0)))) := Lib.hid (bA (by omega) HB1.out)
    have k0 : (w1.alloc (.cells #[.int .i64 0, .int .i64 1, .int .i64 2, .int .i64 3] 41 (0, 0))).cell? ⟨w.heap.size, 0, none⟩ = some (.int .i64 (m : Int)) := keepA c0
    have k1 : (w1.alloc (.cells #[.int .i64 0, .int .i64 1, .int .i64 2, .int .i64 3] 41 (0, 0))).cell? ⟨w.heap.size, 1, none⟩ = some (.int .i64 (x : Int)) := keepA c1
    have hzw : (w1.alloc (.cells #[.int .i64 0, .int .i64 1, .int .i64 2, .int .i64 3] 41 (0, 0))).heap.size = w1.heap.size + 1 := by simp
    clear c0 c1 f0 f1
    generalize w1.alloc (.cells #[.int .i64 0, .int .i64 1, .int .i64 2, .int .i64 3] 41 (0, 0)) = W at *
    go_region_with (first
      | (go_at_call 29; refine (HTR.out _ _ (HVA.out.below (by repeat (first | (with_reducible exact Below.refl _ _) | (with_reducible refine bD ?_) | ((with_reducible refine bB hb3 ?_ ?_); (focus (first | omega | (simp; done) | (simp; omega)))))))).mono ?_; rintro e w3 ⟨b, rfl, hti, hb3⟩; have HTI := Lib.hid hti; have hs3 := hb3.size; (try simp only [World.size_drew] at hs3); clear hti)
      | (go_at_call 30; refine (HTX.out _ _ _ (HTI.out.below (by repeat (first | (with_reducible exact Below.refl _ _) | (with_reducible refine bD ?_) | ((with_reducible refine bB hb3 ?_ ?_); (focus (first | omega | (simp; done) | (simp; omega))))))) (HPW.out.stays (by repeat (first | (with_reducible exact Below.refl _ _) | (with_reducible refine bD ?_) | ((with_reducible refine bB hb3 ?_ ?_); (focus (first | omega | (simp; done) | (simp; omega)))))) (Nat.le_refl _))).mono ?_; rintro e w4 ⟨rfl, hb4⟩))
    all_goals
      go_wp2
      go_ret2
      exact ⟨rfl, by repeat (first | (with_reducible exact HB2.out) | (with_reducible refine bD ?_) | ((with_reducible refine bB hb4 ?_ ?_); (focus (first | omega | (simp; omega)))) | ((with_reducible refine bB hb3 ?_ ?_); (focus (first | omega | (simp; omega)))))⟩

end Go.Proofs.YtdhdkonokbkdoaaGreatDoor
