/-
  Tables of sums of terms, of the program and of its model; the laws' copy of a list of terms.
-/
import Derived.Test.YtkamopckpmiioaaTrmS

namespace Go.Proofs.Ytkamopckpmiioaa
open Go.RowKit Plain
set_option linter.unusedVariables false

/-! The copy. -/
theorem zeros_rep (n : Nat) : (madeCells (Value.agg #[.int .i64 0, .int .i64 0]).cells (n * 2)).toList = List.replicate (n * 2) (.int .i64 0) := by
  show (madeCells #[Value.int .i64 0, Value.int .i64 0] (n * 2)).toList = _
  refine List.eq_replicate_iff.2 ⟨by rw [Array.length_toList, size_madeCells], fun b hb => ?_⟩
  unfold madeCells at hb
  rw [Array.toList_map, List.mem_map] at hb
  obtain ⟨x, _, rfl⟩ := hb
  have hx : x % 2 = 0 ∨ x % 2 = 1 := by omega
  show #[Value.int .i64 0, Value.int .i64 0][x % 2]! = _
  rcases hx with h | h <;> rw [h] <;> rfl
theorem tmsV_rep (n : Nat) : tmsV (List.replicate n (0, 0)) = List.replicate (n * 2) (.int .i64 0) := by
  refine List.eq_replicate_iff.2 ⟨by rw [tmsV_len, List.length_replicate], fun b hb => ?_⟩
  unfold tmsV at hb
  rw [List.mem_flatMap] at hb
  obtain ⟨t, ht, hb⟩ := hb
  rw [(List.mem_replicate.1 ht).2] at hb
  simpa using hb
theorem TmRow.made {w : World} {B n : Nat} {v : Value} (h : w.ownsRow B 25 2 v n (madeCells (Value.agg #[.int .i64 0, .int .i64 0]).cells (n * 2)).toList) : TmRow w B v (List.replicate n (0, 0)) := by
  unfold TmRow
  rw [tmsV_rep, ← zeros_rep, List.length_replicate]
  exact h
theorem tcopy_set (l : List Ti) (k : Nat) (h : k < l.length) : (l.take k ++ List.replicate (l.length - k) (0, 0)).set k (l.getD k (0, 0)) = l.take (k + 1) ++ List.replicate (l.length - (k + 1)) (0, 0) := by
  have hk : (l.take k).length = k := by rw [List.length_take]; omega
  rw [List.set_append_right _ _ (by omega), hk, Nat.sub_self, show l.length - k = (l.length - (k + 1)) + 1 by omega, List.replicate_succ, List.set_cons_zero, List.take_succ_eq_append_getElem h, List.append_assoc]
  congr 1
  rw [List.getD_eq_getElem?_getD, List.getElem?_eq_getElem h]
  rfl
theorem tcopy_len (l : List Ti) (k : Nat) (h : k ≤ l.length) : (l.take k ++ List.replicate (l.length - k) (0, 0)).length = l.length := by
  rw [List.length_append, List.length_take, List.length_replicate]; omega
theorem TmRow.storeT {w : World} {B g cap n : Nat} {l : List Ti} (h : TmRow w B (.slice (some ⟨g, 0, none⟩) n cap) l) (hn : l.length = n) (j : Nat) (hj : j < n) (t : Ti) :
    TmRow ((w.setCell ⟨g, j * 2, none⟩ (.int .i64 t.1)).setCell ⟨g, j * 2 + 1, none⟩ (.int .i64 t.2)) B (.slice (some ⟨g, 0, none⟩) n cap) (l.set j t) := by
  have h1 := (h.store1 hn j t.1).1
  have h2 := (h1.store2 (by rw [List.length_set]; exact hn) j t.2).1
  rw [List.set_set, show (l.set j (t.1, (l.getD j (0, 0)).2)).getD j (0, 0) = (t.1, (l.getD j (0, 0)).2) by
    rw [List.getD_eq_getElem?_getD, List.getElem?_set_self (by omega)]; rfl] at h2
  exact h2

/-- A list of terms in new memory. -/
def TmCopy (l : List Ti) (w : World) (e : Ending) (w' : World) : Prop := ∃ g, e = .returned (.slice (some ⟨g, 0, none⟩) l.length l.length) ∧ TmRow w' w.heap.size (.slice (some ⟨g, 0, none⟩) l.length l.length) l ∧ Below w.heap.size w w'

set_option maxRecDepth 100000 in
set_option maxHeartbeats 1000000 in
theorem Trms.copy (v : Value) (l : List Ti) (w : World) (h : TmsIn w v l) :
    Calls Try.prog 40 #[v] w (TmCopy l w) := by
  obtain ⟨a, cap, rfl, hl, _, _, _, hrd⟩ := h
  obtain ⟨i0, hi, hz0, hz1, hz2⟩ := info_parts Try.infoTerm
  have HRD := Lib.hid hrd
  clear hrd
  go_enter Try.func40, Try.ntmps40
  go_wp2_with (at_make; go_must (refine wpList_make_full _ rfl _ _ 41 rfl w.heap.size 25 i0 (.agg #[.int .i64 0, .int .i64 0]) 2 Try.underlying41 hi hz0 hz1 _ _ _ _ l.length rfl rfl rfl rfl (by rw [hz2]; omega) (by unfold maxLen; omega) (Nat.le_refl _) ?_; intro w1 hown hgrow))
  have HROW := Lib.hid (TmRow.made hown)
  have HB := Lib.hid ((Below.refl w.heap.size w).grown hgrow (Nat.le_refl _) (fun _ h => by cases h))
  have hs1 : w.heap.size < w1.heap.size := by
    rcases hown.2 with ⟨h, _⟩ | ⟨g, cp, cur, h, hb, hg, _⟩
    · cases h
    · simp only [Value.slice.injEq, Option.some.injEq, Addr.mk.injEq, and_true, true_and] at h
      rw [h.1]; exact (Array.getElem?_eq_some_iff.1 hg).1
  clear hown hgrow hi hz0 hz1 hz2
  go_loopw [4] (fun i wr => ∃ k : Nat, i = .int .i64 (k : Int) ∧ k ≤ l.length ∧ TmRow wr w.heap.size (.slice (some ⟨w.heap.size, 0, none⟩) l.length l.length) (l.take k ++ List.replicate (l.length - k) (0, 0)) ∧ Below w.heap.size w wr ∧ w.heap.size < wr.heap.size) (fun i _ => l.length - (intOf i).toNat)
  case atStart => exact ⟨0, rfl, by omega, by simpa using HROW.out, HB.out, hs1⟩
  case round =>
    clear hs1
    obtain ⟨k, rfl, hk, hrow, hbel, hsz⟩ := hrel
    have HBEL := Lib.hid hbel
    by_cases hlt : k < l.length
    · obtain ⟨b, off, rfl, hbw, hcl⟩ := HRD.out (by omega)
      have hc0 : wr.cell? ⟨b, off + k * 2, none⟩ = some (.int .i64 (l.getD k (0, 0)).1) := (hbel.cell (p := ⟨b, off + k * 2, none⟩) hbw).trans (hcl k hlt).1
      have hc1 : wr.cell? ⟨b, off + k * 2 + 1, none⟩ = some (.int .i64 (l.getD k (0, 0)).2) := (hbel.cell (p := ⟨b, off + k * 2 + 1, none⟩) hbw).trans (hcl k hlt).2
      have hkz : (k : Int) < (l.length : Int) := by omega
      have HLT := Lib.hid hlt
      have HROW2 := Lib.hid hrow
      clear hbel hcl hrow hlt
      have HSET := Lib.hid (tcopy_set l k HLT.out)
      generalize l.getD k (0, 0) = t at hc0 hc1 HSET
      go_wp2_with fail
      refine (Trm.copy _ _ _).mono ?_
      rintro e w2 ⟨rfl, hb2⟩
      have hs2 := hb2.size
      have hrow := HROW2.out.below hb2
      have hlen := tcopy_len l k hk
      obtain ⟨d0, d1⟩ := TmRow.cell (w := w2) (B := w.heap.size) (g := w.heap.size) (cap := l.length) (l := l.take k ++ List.replicate (l.length - k) (0, 0)) (by rw [hlen]; exact hrow) k (by rw [hlen]; exact HLT.out)
      have f0 := TmRow.free (w := w2) (B := w.heap.size) (g := w.heap.size) (cap := l.length) (l := l.take k ++ List.replicate (l.length - k) (0, 0)) (by rw [hlen]; exact hrow) (k * 2)
      have f1 := TmRow.free (w := w2) (B := w.heap.size) (g := w.heap.size) (cap := l.length) (l := l.take k ++ List.replicate (l.length - k) (0, 0)) (by rw [hlen]; exact hrow) (k * 2 + 1)
      have hst := hrow.storeT hlen k HLT.out t
      rw [HSET.out] at hst
      have HST := Lib.hid hst
      have HB2 := Lib.hid (bB hb2 (by omega) HBEL.out)
      generalize ((l.take k ++ List.replicate (l.length - k) (0, 0)).getD k (0, 0)).1 = o0 at d0
      generalize ((l.take k ++ List.replicate (l.length - k) (0, 0)).getD k (0, 0)).2 = o1 at d1
      clear hst hrow hlen hb2
      go_wp2
      go_roundw
      case rel => exact ⟨k + 1, by go_num, by omega, HST.out, bS (Nat.le_refl _) (bS (Nat.le_refl _) HB2.out), by simp; omega⟩
      case measure => simp [intOf] <;> omega
    · obtain rfl : k = l.length := by omega
      have HR : Hid (TmRow wr w.heap.size (.slice (some ⟨w.heap.size, 0, none⟩) l.length l.length) l) := Lib.hid (by simpa using hrow)
      clear hrow hbel
      go_wp2
      go_ret
      exact ⟨_, rfl, HR.out, HBEL.out⟩

/-! TableOfTerms. -/
def Plain.natL (l : List Ti) : List Tm := l.map fun t => (t.1.toNat, t.2.toNat)
def Plain.allTm (n : Int) (l : List Ti) : Prop := ∀ j, j < l.length → isTm n (l.getD j (0, 0)).1 (l.getD j (0, 0)).2 = true
instance (n : Int) (l : List Ti) : Decidable (allTm n l) := inferInstanceAs (Decidable (∀ j, j < l.length → _))
/-- What TableOfTerms answers. -/
def Plain.totT (n : Int) (l : List Ti) : Int × Int × Bool := if (0 ≤ n ∧ n ≤ 5) ∧ allTm n l then (n, (orT n.toNat (natL l) l.length : Int), true) else (0, 0, false)
theorem totT_no1 {n : Int} {l : List Ti} (h : ¬ (0 ≤ n ∧ n ≤ 5)) : totT n l = (0, 0, false) := if_neg fun hh => h hh.1
theorem totT_no2 {n : Int} {l : List Ti} {j : Nat} (hj : j < l.length) (h : isTm n (l.getD j (0, 0)).1 (l.getD j (0, 0)).2 = false) : totT n l = (0, 0, false) :=
  if_neg fun hh => by have := hh.2 j hj; rw [h] at this; exact absurd this (by decide)
theorem totT_yes {n : Nat} {l : List Ti} (hn : n ≤ 5) (h : allTm n l) : totT n l = ((n : Int), (orT n (natL l) l.length : Int), true) := by
  unfold totT; rw [if_pos ⟨by omega, h⟩]; rfl
theorem natL_getD (l : List Ti) (j : Nat) (hj : j < l.length) : (natL l).getD j (0, 0) = ((l.getD j (0, 0)).1.toNat, (l.getD j (0, 0)).2.toNat) := by
  simp [natL, List.getD_eq_getElem?_getD, hj]

theorem Tot.I_no1 (n : Int) (hn : ¬ (0 ≤ n ∧ n ≤ 5)) (ad : Option Addr) (cl cap : Nat) (w : World) :
    Calls Try.prog 41 #[.int .i64 n, .slice ad cl cap] w fun e w' => e = .returned (.tuple #[.agg #[.int .i64 0, .int .i64 0], .bool false]) ∧ Below w.heap.size w w' := by
  have H := Lib.hid (inB_no hn)
  clear hn
  go_enter Try.func41, Try.ntmps41
  go_wp2_with fail
  refine (Tab.bits _ _).mono ?_
  rintro e w1 ⟨rfl, rfl⟩
  rw [H.out]
  go_wp2
  exact bodyPost_ret (v := .tuple #[.agg #[.int .i64 0, .int .i64 0], .bool false]) (by simp [results, Try.results41, go_sem]) rfl ⟨rfl, by
    repeat (first | (with_reducible exact Below.refl _ _) | (with_reducible assumption) | ((with_reducible refine bS ?_ ?_); (focus (dsimp only; omega))) | ((with_reducible refine bA ?_ ?_); (focus (first | omega | (simp; done) | (simp; omega)))) | (with_reducible refine bD ?_))⟩

def allU (n : Nat) (l : List Ti) (k : Nat) : Prop := ∀ j, j < k → isTm (n : Int) (l.getD j (0, 0)).1 (l.getD j (0, 0)).2 = true
theorem allU_step {n : Nat} {l : List Ti} {k : Nat} (h : allU n l k) (hk : isTm (n : Int) (l.getD k (0, 0)).1 (l.getD k (0, 0)).2 = true) : allU n l (k + 1) := by
  intro j hj
  rcases (show j < k ∨ j = k by omega) with g | rfl
  · exact h j g
  · exact hk
theorem or_u64 {n : Nat} (hn : n ≤ 5) (l : List Ti) (k m v : Nat) (hk : k < l.length) (e1 : (l.getD k (0, 0)).1 = (m : Int)) (e2 : (l.getD k (0, 0)).2 = (v : Int)) :
    Go.bits .or .u64 ((orT n (natL l) k : Nat) : Int) ((tmW m v (2 ^ n) : Nat) : Int) = ((orT n (natL l) (k + 1) : Nat) : Int) := by
  have h1 := orT_bound hn (natL l) k
  have h2 := tmW_bound m v (2 ^ n) (pow5q hn)
  rw [orU64 _ _ (by omega) (by omega)]
  show _ = ((orT n (natL l) k ||| wT n ((natL l).getD k (0, 0)) : Nat) : Int)
  rw [natL_getD l k hk, e1, e2, Int.toNat_natCast, Int.toNat_natCast]; rfl
theorem or_i64 {n : Nat} (hn : n ≤ 5) (l : List Ti) (k m v : Nat) (hk : k < l.length) (e1 : (l.getD k (0, 0)).1 = (m : Int)) (e2 : (l.getD k (0, 0)).2 = (v : Int)) :
    Go.bits .or .i64 ((orT n (natL l) k : Nat) : Int) ((tmW m v (2 ^ n) : Nat) : Int) = ((orT n (natL l) (k + 1) : Nat) : Int) := by
  have h1 := orT_bound hn (natL l) k
  have h2 := tmW_bound m v (2 ^ n) (pow5q hn)
  rw [or64 _ _ (by omega) (by omega)]
  show _ = ((orT n (natL l) k ||| wT n ((natL l).getD k (0, 0)) : Nat) : Int)
  rw [natL_getD l k hk, e1, e2, Int.toNat_natCast, Int.toNat_natCast]; rfl

set_option maxRecDepth 100000 in
set_option maxHeartbeats 2000000 in
theorem Tot.I_yes (n : Nat) (hn : n ≤ 5) (l : List Ti) (ad : Option Addr) (cap : Nat) (w : World) (h : TmsIn w (.slice ad l.length cap) l) :
    Calls Try.prog 41 #[.int .i64 n, .slice ad l.length cap] w fun e w' => e = .returned (.tuple #[.agg #[.int .i64 (totT n l).1, .int .i64 (totT n l).2.1], .bool (totT n l).2.2]) ∧ Below w.heap.size w w' := by
  have H : Hid (inB (n : Int) 0 5 = true) := Lib.hid (inB_yes (by omega))
  have HN := Lib.hid hn
  have hn5 : (n : Int) ≤ 5 := by omega
  obtain ⟨ad', cap', e, hl, hca, hca2, hsm, hrd⟩ := h
  simp only [Value.slice.injEq, true_and] at e
  obtain ⟨rfl, rfl⟩ := e
  have HRD := Lib.hid hrd
  have HSM := Lib.hid hsm
  clear hn hrd hsm
  go_enter Try.func41, Try.ntmps41
  go_wp2_with fail
  refine (Tab.bits _ _).mono ?_
  rintro e w1 ⟨rfl, rfl⟩
  rw [H.out]
  go_wp2
  obtain ⟨W1, hW1⟩ : ∃ W1, w.alloc (.cells #[.int .i64 0, .int .i64 0] 38) = W1 := ⟨_, rfl⟩
  have hs1 : W1.heap.size = w.heap.size + 1 := by rw [← hW1]; simp
  have k0 : W1.cell? ⟨w.heap.size, 0, none⟩ = some (.int .i64 0) := hW1 ▸ keepN rfl rfl
  have k1 : W1.cell? ⟨w.heap.size, 1, none⟩ = some (.int .i64 0) := hW1 ▸ keepN rfl rfl
  have f0 : ∀ j, W1.frozen? ⟨w.heap.size, j, none⟩ = false := fun j => hW1 ▸ World.frozen?_alloc_new w _ _ j
  have HBW : Hid (Below w.heap.size w W1) := Lib.hid (hW1 ▸ (Below.refl _ _).alloc (Nat.le_refl _) _)
  rw [hW1]
  go_loopw [6, 8, 15] (fun u _ i wr => ∃ k : Nat, i = .int .i64 (k : Int) ∧ k ≤ l.length ∧ u = .int .u64 (orT n (natL l) k : Int) ∧ allU n l k ∧ Below (w.heap.size + 1) W1 wr) (fun _ _ i _ => l.length - (intOf i).toNat)
  case atStart => exact ⟨0, rfl, by omega, rfl, fun j hj => absurd hj (by omega), Below.refl _ _⟩
  case round =>
    obtain ⟨k, rfl, hk, rfl, hall, hbel⟩ := hrel
    have HALL := Lib.hid hall
    have HBEL := Lib.hid hbel
    have hsz := hbel.size
    have hz : w.heap.size < wr.heap.size := by omega
    clear hall
    by_cases hlt : k < l.length
    · obtain ⟨b, off, rfl, hbw, hcl⟩ := HRD.out (by omega)
      have hbw1 : b < w.heap.size + 1 := by omega
      have hbx : W1.heap[b]? = w.heap[b]? := by rw [← hW1]; exact Below.heap_alloc w _ b hbw
      have hc0 : wr.cell? ⟨b, off + k * 2, none⟩ = some (.int .i64 (l.getD k (0, 0)).1) := ((hbel.cell (p := ⟨b, off + k * 2, none⟩) hbw1).trans (World.cell?_of_block (a := ⟨b, off + k * 2, none⟩) hbx)).trans (hcl k hlt).1
      have hc1 : wr.cell? ⟨b, off + k * 2 + 1, none⟩ = some (.int .i64 (l.getD k (0, 0)).2) := ((hbel.cell (p := ⟨b, off + k * 2 + 1, none⟩) hbw1).trans (World.cell?_of_block (a := ⟨b, off + k * 2 + 1, none⟩) hbx)).trans (hcl k hlt).2
      have hkz : (k : Int) < (l.length : Int) := by omega
      have HLT := Lib.hid hlt
      have HV := Lib.hid (HSM.out _ (getDt hlt)).2
      clear hbel hcl hlt hbx
      cases ht : isTm (n : Int) (l.getD k (0, 0)).1 (l.getD k (0, 0)).2 with
      | true =>
        obtain ⟨n', m, v, e0, e1, e2, _, hm, hv⟩ := isTm_nat ht
        obtain rfl : n = n' := by omega
        have hle := tm_le HN.out hm hv
        have HT := Lib.hid ht
        have HX := Lib.hid (allU_step HALL.out ht)
        have HOR := Lib.hid (or_u64 HN.out l k m v HLT.out e1 e2)
        have HM : Hid ((m : Int) ≤ 31) := Lib.hid (by omega)
        rw [e1] at hc0
        rw [e2] at hc1
        rw [e1, e2] at HT
        rw [e2] at HV
        clear ht e0 e1 e2 hm hv hle
        go_wp2_with fail
        refine (Trm.isI n m v HV.out _).mono ?_
        rintro e w2 ⟨rfl, hb2⟩
        have hs2 := hb2.size
        simp only [World.size_alloc] at hs2
        have q0 : w2.cell? ⟨wr.heap.size, 0, none⟩ = some (.int .i64 m) := keepB hb2 (keepN rfl rfl)
        have q1 : w2.cell? ⟨wr.heap.size, 1, none⟩ = some (.int .i64 v) := keepB hb2 (keepN rfl rfl)
        have HB2 := Lib.hid (bB hb2 (by simp; omega) (bA (by omega) HBEL.out))
        rw [HT.out]
        clear hb2
        go_wp2_with fail
        refine (Trm.inputs n m v HN.out HM.out _).mono ?_
        rintro e w3 ⟨rfl, hb3⟩
        have HB3 := Lib.hid (bB hb3 (by omega) HB2.out)
        clear hb3
        go_wp2
        go_roundw
        case rel => exact ⟨k + 1, by go_num, by omega, by rw [HOR.out], HX.out, HB3.out⟩
        case measure => simp [intOf] <;> omega
      | false =>
        have HT := Lib.hid ht
        have HE := Lib.hid (totT_no2 HLT.out ht)
        clear ht
        generalize (l.getD k (0, 0)).1 = m at hc0 HT
        generalize (l.getD k (0, 0)).2 = v at hc1 HT HV
        have c0 := (HBEL.out.cell (p := ⟨w.heap.size, 0, none⟩) (by dsimp only; omega)).trans k0
        have c1 := (HBEL.out.cell (p := ⟨w.heap.size, 1, none⟩) (by dsimp only; omega)).trans k1
        have g0 := (HBEL.out.frozen (p := ⟨w.heap.size, 0, none⟩) (by dsimp only; omega)).trans (f0 0)
        have g1 := (HBEL.out.frozen (p := ⟨w.heap.size, 1, none⟩) (by dsimp only; omega)).trans (f0 1)
        go_wp2_with fail
        refine (Trm.isI n m v HV.out _).mono ?_
        rintro e w2 ⟨rfl, hb2⟩
        have hs2 := hb2.size
        simp only [World.size_alloc] at hs2
        have hc2 : w2.cell? ⟨w.heap.size, 0, none⟩ = some (.int .i64 0) := keepB hb2 (keepA c0)
        have hc3 : w2.cell? ⟨w.heap.size, 1, none⟩ = some (.int .i64 0) := keepB hb2 (keepA c1)
        have hf2 : w2.frozen? ⟨w.heap.size, 0, none⟩ = false := ((bcell hb2).2 _ _ (by simp; omega)).trans ((World.frozen?_alloc_past _ _ 0 (by omega)).trans g0)
        have hf3 : w2.frozen? ⟨w.heap.size, 1, none⟩ = false := ((bcell hb2).2 _ _ (by simp; omega)).trans ((World.frozen?_alloc_past _ _ 1 (by omega)).trans g1)
        have HB2 := Lib.hid (bB hb2 (by simp; omega) (bA (by omega) HBEL.out))
        rw [HT.out]
        clear hb2
        go_wp2
        exact bodyPost_ret (v := .tuple #[.agg #[.int .i64 0, .int .i64 0], .bool false]) (by simp [results, Try.results41, go_sem, hc2, hc3]) rfl ⟨by rw [HE.out], by exact bS (Nat.le_refl _) (bS (Nat.le_refl _) (HBW.out.trans (HB2.out.mono (by omega))))⟩
    · obtain rfl : k = l.length := by omega
      have HE := Lib.hid (totT_yes HN.out HALL.out)
      have HU := Lib.hid (orT_bound HN.out (natL l) l.length)
      have c0 := (HBEL.out.cell (p := ⟨w.heap.size, 0, none⟩) (by dsimp only; omega)).trans k0
      have c1 := (HBEL.out.cell (p := ⟨w.heap.size, 1, none⟩) (by dsimp only; omega)).trans k1
      have g0 := (HBEL.out.frozen (p := ⟨w.heap.size, 0, none⟩) (by dsimp only; omega)).trans (f0 0)
      have g1 := (HBEL.out.frozen (p := ⟨w.heap.size, 1, none⟩) (by dsimp only; omega)).trans (f0 1)
      generalize orT n (natL l) l.length = u at HU HE ⊢
      have hu := HU.out
      go_wp2_with fail
      refine (Tab.tableX' n u (by omega) _).mono ?_
      rintro e w2 ⟨rfl, rfl⟩
      obtain ⟨t0, t1⟩ := keepT (u := .int .i64 (n : Int)) (v := .int .i64 (u : Int)) c0 c1
      have q0 := keepA (o := .cells #[.int .i64 (n : Int), .int .i64 (u : Int)] 38) t0
      have q1 := keepA (o := .cells #[.int .i64 (n : Int), .int .i64 (u : Int)] 38) t1
      have HBB := HBW.out.trans (HBEL.out.mono (show w.heap.size ≤ w.heap.size + 1 by omega))
      go_wp2
      exact bodyPost_ret (v := .tuple #[.agg #[.int .i64 n, .int .i64 u], .bool true]) (by simp [results, Try.results41, go_sem, q0, q1]) rfl ⟨by rw [HE.out], by
        repeat (first | (with_reducible assumption) | ((with_reducible refine bS ?_ ?_); (focus (dsimp only; omega))) | ((with_reducible refine bA ?_ ?_); (focus (first | omega | (simp; done) | (simp; omega)))) | (with_reducible refine bD ?_))⟩

/-- TableOfTerms of the program. -/
theorem Tot.I (n : Int) (l : List Ti) (ad : Option Addr) (cap : Nat) (w : World) (h : TmsIn w (.slice ad l.length cap) l) :
    Calls Try.prog 41 #[.int .i64 n, .slice ad l.length cap] w fun e w' => e = .returned (.tuple #[.agg #[.int .i64 (totT n l).1, .int .i64 (totT n l).2.1], .bool (totT n l).2.2]) ∧ Below w.heap.size w w' := by
  by_cases hn : 0 ≤ n ∧ n ≤ 5
  · obtain ⟨k, rfl⟩ := Int.eq_ofNat_of_zero_le hn.1
    exact Tot.I_yes k (by omega) l ad cap w h
  · rw [totT_no1 hn]
    exact Tot.I_no1 n hn ad l.length cap w

/-! The model's. -/
set_option maxRecDepth 100000 in
set_option maxHeartbeats 1000000 in
theorem Tot.M_no1 (n : Int) (hn : ¬ (0 ≤ n ∧ n ≤ 5)) (l : List Ti) (ad : Option Addr) (cap : Nat) (w : World) (h : TmsIn w (.slice ad l.length cap) l) :
    Calls Try.prog 39 #[.int .i64 n, .slice ad l.length cap] w fun e w' => e = .returned (.tuple #[.agg #[.int .i64 0, .int .i64 0], .bool false]) ∧ Below w.heap.size w w' := by
  obtain ⟨ad', cap', e, hl, hca, hca2, hsm, hrd⟩ := h
  simp only [Value.slice.injEq, true_and] at e
  obtain ⟨rfl, rfl⟩ := e
  have HRD := Lib.hid hrd
  have H := Lib.hid hn
  clear hrd hsm hn
  go_enter Try.func39, Try.ntmps39
  go_wp2
  refine wp_loop_rounds 1 ?_
  rw [rounds_succ]
  by_cases hlt : 0 < l.length
  · obtain ⟨b, off, rfl, hbw, hcl⟩ := HRD.out hlt
    have hc0 := (hcl 0 hlt).1
    have hc1 := (hcl 0 hlt).2
    rw [Nat.zero_mul, Nat.add_zero] at hc0 hc1
    have hkz : (0 : Int) < (l.length : Int) := by omega
    have HT : Hid (isTm n (l.getD 0 (0, 0)).1 (l.getD 0 (0, 0)).2 = false) := Lib.hid (isTm_no fun h => H.out h.1)
    clear hcl hlt
    generalize (l.getD 0 (0, 0)).1 = m at hc0 HT
    generalize (l.getD 0 (0, 0)).2 = v at hc1 HT
    go_wp2_with fail
    refine (Trm.isM n m v _).mono ?_
    rintro e w2 ⟨rfl, hb2⟩
    obtain ⟨hc2, hf2⟩ := bcell hb2
    have hz2 : w.heap.size < w2.heap.size := by have := hb2.size; simp at this; omega
    rw [HT.out]
    go_wp2
    exact bodyPost_ret (v := .tuple #[.agg #[.int .i64 0, .int .i64 0], .bool false]) (by simp [results, Try.results39, go_sem, hc2]) rfl ⟨rfl, by exact bS (Nat.le_refl _) (bS (Nat.le_refl _) (bB hb2 (by simp) (bA (Nat.le_refl _) (Below.refl _ _))))⟩
  · have hl0 : l.length = 0 := by omega
    rw [hl0]
    go_wp2_with fail
    refine (Widths.in_no _ _ _ H.out _).mono ?_
    rintro e w2 ⟨rfl, rfl⟩
    go_wp2
    exact bodyPost_ret (v := .tuple #[.agg #[.int .i64 0, .int .i64 0], .bool false]) (by simp [results, Try.results39, go_sem]) rfl ⟨rfl, by
      repeat (first | (with_reducible exact Below.refl _ _) | (with_reducible assumption) | ((with_reducible refine bS ?_ ?_); (focus (dsimp only; omega))) | ((with_reducible refine bA ?_ ?_); (focus (first | omega | (simp; done) | (simp; omega)))) | (with_reducible refine bD ?_))⟩

set_option maxRecDepth 100000 in
set_option maxHeartbeats 2000000 in
theorem Tot.M_yes (n : Nat) (hn : n ≤ 5) (l : List Ti) (ad : Option Addr) (cap : Nat) (w : World) (h : TmsIn w (.slice ad l.length cap) l) :
    Calls Try.prog 39 #[.int .i64 n, .slice ad l.length cap] w fun e w' => e = .returned (.tuple #[.agg #[.int .i64 (totT n l).1, .int .i64 (totT n l).2.1], .bool (totT n l).2.2]) ∧ Below w.heap.size w w' := by
  have H : Hid ((0 : Int) ≤ n ∧ (n : Int) ≤ 5) := Lib.hid (by omega)
  have HN := Lib.hid hn
  have hn5 : (n : Int) ≤ 5 := by omega
  obtain ⟨ad', cap', e, hl, hca, hca2, hsm, hrd⟩ := h
  simp only [Value.slice.injEq, true_and] at e
  obtain ⟨rfl, rfl⟩ := e
  have HRD := Lib.hid hrd
  clear hn hrd hsm
  go_enter Try.func39, Try.ntmps39
  go_wp2
  obtain ⟨W1, hW1⟩ : ∃ W1, w.alloc (.cells #[.int .i64 0, .int .i64 0] 38) = W1 := ⟨_, rfl⟩
  have hs1 : W1.heap.size = w.heap.size + 1 := by rw [← hW1]; simp
  have k0 : W1.cell? ⟨w.heap.size, 0, none⟩ = some (.int .i64 0) := hW1 ▸ keepN rfl rfl
  have k1 : W1.cell? ⟨w.heap.size, 1, none⟩ = some (.int .i64 0) := hW1 ▸ keepN rfl rfl
  have f0 : ∀ j, W1.frozen? ⟨w.heap.size, j, none⟩ = false := fun j => hW1 ▸ World.frozen?_alloc_new w _ _ j
  have HBW : Hid (Below w.heap.size w W1) := Lib.hid (hW1 ▸ (Below.refl _ _).alloc (Nat.le_refl _) _)
  rw [hW1]
  go_loopw [6, 7] (fun u i wr => ∃ k : Nat, i = .int .i64 (k : Int) ∧ k ≤ l.length ∧ u = .int .i64 (orT n (natL l) k : Int) ∧ allU n l k ∧ Below (w.heap.size + 1) W1 wr) (fun _ i _ => l.length - (intOf i).toNat)
  case atStart => exact ⟨0, rfl, by omega, rfl, fun j hj => absurd hj (by omega), Below.refl _ _⟩
  case round =>
    obtain ⟨k, rfl, hk, rfl, hall, hbel⟩ := hrel
    have HALL := Lib.hid hall
    have HBEL := Lib.hid hbel
    have hsz := hbel.size
    have hz : w.heap.size < wr.heap.size := by omega
    clear hall
    by_cases hlt : k < l.length
    · obtain ⟨b, off, rfl, hbw, hcl⟩ := HRD.out (by omega)
      have hbw1 : b < w.heap.size + 1 := by omega
      have hbx : W1.heap[b]? = w.heap[b]? := by rw [← hW1]; exact Below.heap_alloc w _ b hbw
      have hc0 : wr.cell? ⟨b, off + k * 2, none⟩ = some (.int .i64 (l.getD k (0, 0)).1) := ((hbel.cell (p := ⟨b, off + k * 2, none⟩) hbw1).trans (World.cell?_of_block (a := ⟨b, off + k * 2, none⟩) hbx)).trans (hcl k hlt).1
      have hc1 : wr.cell? ⟨b, off + k * 2 + 1, none⟩ = some (.int .i64 (l.getD k (0, 0)).2) := ((hbel.cell (p := ⟨b, off + k * 2 + 1, none⟩) hbw1).trans (World.cell?_of_block (a := ⟨b, off + k * 2 + 1, none⟩) hbx)).trans (hcl k hlt).2
      have hkz : (k : Int) < (l.length : Int) := by omega
      have HLT := Lib.hid hlt
      clear hbel hcl hlt hbx
      cases ht : isTm (n : Int) (l.getD k (0, 0)).1 (l.getD k (0, 0)).2 with
      | true =>
        obtain ⟨n', m, v, e0, e1, e2, _, hm, hv⟩ := isTm_nat ht
        obtain rfl : n = n' := by omega
        have hle := tm_le HN.out hm hv
        have HT := Lib.hid ht
        have HX := Lib.hid (allU_step HALL.out ht)
        have HOR := Lib.hid (or_i64 HN.out l k m v HLT.out e1 e2)
        have HM : Hid ((m : Int) ≤ 31) := Lib.hid (by omega)
        rw [e1] at hc0
        rw [e2] at hc1
        rw [e1, e2] at HT
        clear ht e0 e1 e2 hm hv hle
        go_wp2_with fail
        refine (Trm.isM n m v _).mono ?_
        rintro e w2 ⟨rfl, hb2⟩
        have hs2 := hb2.size
        have q0 := keepB hb2 hc0
        have q1 := keepB hb2 hc1
        have HB2 := Lib.hid (bB hb2 (by omega) HBEL.out)
        rw [HT.out]
        clear hb2
        go_wp2_with fail
        refine (Trm.word n m v HN.out HM.out _).mono ?_
        rintro e w3 ⟨rfl, hb3⟩
        have HB3 := Lib.hid (bB hb3 (by omega) HB2.out)
        clear hb3
        go_wp2
        go_roundw
        case rel => exact ⟨k + 1, by go_num, by omega, by rw [HOR.out], HX.out, HB3.out⟩
        case measure => simp [intOf] <;> omega
      | false =>
        have HT := Lib.hid ht
        have HE := Lib.hid (totT_no2 HLT.out ht)
        clear ht
        generalize (l.getD k (0, 0)).1 = m at hc0 HT
        generalize (l.getD k (0, 0)).2 = v at hc1 HT
        have c0 := (HBEL.out.cell (p := ⟨w.heap.size, 0, none⟩) (by dsimp only; omega)).trans k0
        have c1 := (HBEL.out.cell (p := ⟨w.heap.size, 1, none⟩) (by dsimp only; omega)).trans k1
        have g0 := (HBEL.out.frozen (p := ⟨w.heap.size, 0, none⟩) (by dsimp only; omega)).trans (f0 0)
        have g1 := (HBEL.out.frozen (p := ⟨w.heap.size, 1, none⟩) (by dsimp only; omega)).trans (f0 1)
        go_wp2_with fail
        refine (Trm.isM n m v _).mono ?_
        rintro e w2 ⟨rfl, hb2⟩
        have hc2 : w2.cell? ⟨w.heap.size, 0, none⟩ = some (.int .i64 0) := keepB hb2 c0
        have hc3 : w2.cell? ⟨w.heap.size, 1, none⟩ = some (.int .i64 0) := keepB hb2 c1
        have hf2 : w2.frozen? ⟨w.heap.size, 0, none⟩ = false := ((bcell hb2).2 _ _ hz).trans g0
        have hf3 : w2.frozen? ⟨w.heap.size, 1, none⟩ = false := ((bcell hb2).2 _ _ hz).trans g1
        have HB2 := Lib.hid (bB hb2 (by omega) HBEL.out)
        rw [HT.out]
        clear hb2
        go_wp2
        exact bodyPost_ret (v := .tuple #[.agg #[.int .i64 0, .int .i64 0], .bool false]) (by simp [results, Try.results39, go_sem, hc2, hc3]) rfl ⟨by rw [HE.out], by exact bS (Nat.le_refl _) (bS (Nat.le_refl _) (HBW.out.trans (HB2.out.mono (by omega))))⟩
    · obtain rfl : k = l.length := by omega
      have HE := Lib.hid (totT_yes HN.out HALL.out)
      have c0 := (HBEL.out.cell (p := ⟨w.heap.size, 0, none⟩) (by dsimp only; omega)).trans k0
      have c1 := (HBEL.out.cell (p := ⟨w.heap.size, 1, none⟩) (by dsimp only; omega)).trans k1
      have g0 := (HBEL.out.frozen (p := ⟨w.heap.size, 0, none⟩) (by dsimp only; omega)).trans (f0 0)
      have g1 := (HBEL.out.frozen (p := ⟨w.heap.size, 1, none⟩) (by dsimp only; omega)).trans (f0 1)
      generalize orT n (natL l) l.length = u at HE ⊢
      obtain ⟨t0, t1⟩ := keepT (u := .int .i64 (n : Int)) (v := .int .i64 (u : Int)) c0 c1
      have HBB := HBW.out.trans (HBEL.out.mono (show w.heap.size ≤ w.heap.size + 1 by omega))
      go_wp2_with fail
      refine (Widths.in_yes _ _ _ H.out _).mono ?_
      rintro e w2 ⟨rfl, rfl⟩
      go_wp2
      exact bodyPost_ret (v := .tuple #[.agg #[.int .i64 n, .int .i64 u], .bool true]) (by simp [results, Try.results39, go_sem, t0, t1]) rfl ⟨by rw [HE.out], by
        repeat (first | (with_reducible assumption) | ((with_reducible refine bS ?_ ?_); (focus (dsimp only; omega))) | ((with_reducible refine bA ?_ ?_); (focus (first | omega | (simp; done) | (simp; omega)))) | (with_reducible refine bD ?_))⟩

/-- TableOfTerms of the model. -/
theorem Tot.M (n : Int) (l : List Ti) (ad : Option Addr) (cap : Nat) (w : World) (h : TmsIn w (.slice ad l.length cap) l) :
    Calls Try.prog 39 #[.int .i64 n, .slice ad l.length cap] w fun e w' => e = .returned (.tuple #[.agg #[.int .i64 (totT n l).1, .int .i64 (totT n l).2.1], .bool (totT n l).2.2]) ∧ Below w.heap.size w w' := by
  by_cases hn : 0 ≤ n ∧ n ≤ 5
  · obtain ⟨k, rfl⟩ := Int.eq_ofNat_of_zero_le hn.1
    exact Tot.M_yes k (by omega) l ad cap w h
  · rw [totT_no1 hn]
    exact Tot.M_no1 n hn l ad cap w h

end Go.Proofs.Ytkamopckpmiioaa
