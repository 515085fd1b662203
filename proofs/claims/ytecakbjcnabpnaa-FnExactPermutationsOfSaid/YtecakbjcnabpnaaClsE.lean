/-
  The laws' functions on lists of lists of ints; PermutationsOf of both.
-/
import Derived.Test.YtecakbjcnabpnaaClsV
namespace Go.Proofs.Ytecakbjcnabpnaa
open Go.RowKit Plain
set_option linter.unusedVariables false

theorem RowsRd.cell {w : World} {a : Option Addr} {cap : Nat} {L : List (List Int)} (h : RowsRd w (.slice a L.length cap) L) (j : Nat) (hj : j < L.length) :
    ∃ b off ad cp, a = some ⟨b, off, none⟩ ∧ w.cell? ⟨b, off + j, none⟩ = some (.slice ad (L.getD j []).length cp) ∧ IntsIn w (.slice ad (L.getD j []).length cp) (L.getD j []) := by
  obtain ⟨a', cap', he, _, hr⟩ := h
  simp only [Value.slice.injEq, true_and] at he
  obtain ⟨rfl, rfl⟩ := he
  obtain ⟨b, off, rfl, _, hc⟩ := hr (by omega)
  obtain ⟨u, hu, hi⟩ := hc j hj
  obtain ⟨ad, cp, rfl, _⟩ := id hi
  exact ⟨b, off, ad, cp, rfl, hu, hi⟩

/-- Two lists of lists that read alike are equal. -/
theorem Lists.same (va vb : Value) (L : List (List Int)) (w : World) (ha : RowsRd w va L) (hb : RowsRd w vb L) :
    Calls Try.prog 49 #[va, vb] w fun e w' => e = .returned (.bool true) ∧ ∃ m, w' = w.drewN m := by
  obtain ⟨a, ca, rfl, hl, _⟩ := id ha
  obtain ⟨b, cb, rfl, _, _⟩ := id hb
  have H1 := Lib.hid ha
  have H2 := Lib.hid hb
  have hlz : (L.length : Int) ≤ 1000 := by omega
  clear ha hb
  go_enter Try.func49, Try.ntmps49
  go_wp2
  go_loopw [5] (fun i wr => ∃ k m : Nat, i = .int .i64 (k : Int) ∧ k ≤ L.length ∧ wr = w.drewN m) (fun i _ => L.length - (intOf i).toNat)
  case atStart => exact ⟨0, 0, rfl, by omega, rfl⟩
  case round =>
    obtain ⟨k, m, rfl, hk, rfl⟩ := hrel
    by_cases hlt : k < L.length
    · obtain ⟨ba, oa, aa, pa, rfl, ka, ia⟩ := H1.out.cell k hlt
      obtain ⟨bb, ob, ab, pb, rfl, kb, ib⟩ := H2.out.cell k hlt
      have hbw : Below w.heap.size w (w.drewN m) := below_drewN (Below.refl _ _) m
      have IA := Lib.hid (ia.below hbw)
      have IB := Lib.hid (ib.below hbw)
      replace ka := keepB hbw ka
      replace kb := keepB hbw kb
      have hlz : (k : Int) < (L.length : Int) := by omega
      clear ia ib hbw
      generalize L.getD k [] = l at ka kb IA IB
      obtain ⟨W1, hW1⟩ : ∃ W1, W1 = w.drewN m := ⟨_, rfl⟩
      rw [← hW1] at ka kb IA IB ⊢
      have HW := Lib.hid hW1
      clear hW1
      go_wp2
      go_quiet ((go_at_call 99; refine Calls.quiet_of (Ints.same _ _ l _ ?_ ?_); (exact IA.out.below (below_drewN (Below.refl _ _) _)); (exact IB.out.below (below_drewN (Below.refl _ _) _))))
      go_wp2
      go_roundw
      case rel => exact ⟨k + 1, _, by go_num, by omega, by rw [HW.out, World.drewN_drewN]⟩
      case measure => simp [intOf] <;> omega
    · go_wp2
      go_ret
      exact ⟨rfl, _, rfl⟩

/-! Marks in rows -/
def Plain.totL (L : List (List Int)) : Nat := (L.map List.length).sum
def Plain.marksL : Nat → List (List Int) → List (List Int)
  | _, [] => []
  | k, l :: ls => marks k l.length :: marksL (k + l.length) ls
theorem marksL_length (L : List (List Int)) : ∀ k, (marksL k L).length = L.length := by
  induction L with
  | nil => intro k; rfl
  | cons l L ih => intro k; show (marksL (k + l.length) L).length + 1 = L.length + 1; rw [ih]
theorem marksL_getD (L : List (List Int)) : ∀ k j, j < L.length → (marksL k L).getD j [] = marks (k + totL (L.take j)) (L.getD j []).length := by
  induction L with
  | nil => intro k j hj; exact absurd hj (by simp)
  | cons l L ih =>
    intro k j hj
    cases j with
    | zero => simp [marksL, totL]
    | succ j =>
      have := ih (k + l.length) j (by simpa using hj)
      simp only [marksL, List.getD_cons_succ, List.take_succ_cons]
      rw [this]
      simp [totL, Nat.add_assoc]
theorem tot_take (L : List (List Int)) (j : Nat) (h : j < L.length) : totL (L.take (j + 1)) = totL (L.take j) + (L.getD j []).length := by
  unfold totL
  rw [List.take_succ_eq_append_getElem h, List.map_append, List.sum_append, List.getD_eq_getElem?_getD, List.getElem?_eq_getElem h]
  simp
theorem tot_le (L : List (List Int)) (h : Small L) : totL L ≤ 1000000 := by
  have h2 : ∀ M : List (List Int), (∀ l ∈ M, l.length ≤ 1000) → totL M ≤ M.length * 1000 := by
    intro M
    induction M with
    | nil => intro _; simp [totL]
    | cons l M ih =>
      intro hM
      have e : totL (l :: M) = l.length + totL M := by simp [totL]
      have := ih fun x hx => hM x (List.mem_cons_of_mem _ hx)
      have := hM l (by simp)
      rw [e, List.length_cons, Nat.succ_mul]
      omega
  have := h2 L fun l hl => (h.2 l hl).1
  have := h.1
  have h4 : L.length * 1000 ≤ 1000 * 1000 := Nat.mul_le_mul_right _ this
  omega
theorem tot_take_le (L : List (List Int)) (j : Nat) (hj : j ≤ L.length) : totL (L.take j) ≤ totL L := by
  unfold totL
  conv => rhs; rw [← List.take_append_drop j L, List.map_append, List.sum_append]
  omega
/-- What stands in the rows while j of them bear marks. -/
def Plain.halfL (k : Nat) (L : List (List Int)) (j : Nat) : List (List Int) := (marksL k L).take j ++ L.drop j
theorem half_length (k : Nat) (L : List (List Int)) (j : Nat) (h : j ≤ L.length) : (halfL k L j).length = L.length := by
  unfold halfL; rw [List.length_append, List.length_take, List.length_drop, marksL_length]; omega
theorem half_zero (k : Nat) (L : List (List Int)) : halfL k L 0 = L := by simp [halfL]
theorem half_all (k : Nat) (L : List (List Int)) : halfL k L L.length = marksL k L := by
  unfold halfL; rw [List.drop_length, List.append_nil, List.take_of_length_le (by rw [marksL_length]; exact Nat.le_refl _)]
theorem half_at (k : Nat) (L : List (List Int)) (j : Nat) (h : j < L.length) : (halfL k L j).getD j [] = L.getD j [] := by
  unfold halfL
  have hl : ((marksL k L).take j).length = j := by rw [List.length_take, marksL_length]; omega
  rw [List.getD_eq_getElem?_getD, List.getElem?_append_right (by omega), hl, Nat.sub_self, List.getElem?_drop, Nat.add_zero, List.getD_eq_getElem?_getD]
theorem half_set (k : Nat) (L : List (List Int)) (j : Nat) (h : j < L.length) : (halfL k L j).set j ((marksL k L).getD j []) = halfL k L (j + 1) := by
  unfold halfL
  have hm := marksL_length L k
  have hl : ((marksL k L).take j).length = j := by rw [List.length_take]; omega
  rw [List.set_append_right _ _ (by omega), hl, Nat.sub_self, List.drop_eq_getElem_cons h, List.set_cons_zero, List.take_succ_eq_append_getElem (by omega), List.append_assoc, List.getD_eq_getElem?_getD, List.getElem?_eq_getElem (by omega)]
  rfl

/-- The rows of a list of lists of the call's own, by their values. -/
def RowsUs (w : World) (B : Nat) (v : Value) (us : List Value) (L : List (List Int)) : Prop :=
  us.length = L.length ∧ SlRow w B v us ∧ (∀ j, j < L.length → IntRow w B (us.getD j nilS) (L.getD j [])) ∧
    ∀ i j, i < L.length → j < L.length → i ≠ j → (us.getD i nilS).ownBlock = none ∨ (us.getD i nilS).ownBlock ≠ (us.getD j nilS).ownBlock
theorem RowsUs.own {w : World} {B : Nat} {v : Value} {us : List Value} {L : List (List Int)} (h : RowsUs w B v us L) : RowsOwn w B v L := ⟨us, h⟩
theorem getD_set {α : Type} (l : List α) (i j : Nat) (x d : α) (hi : i < l.length) : (l.set i x).getD j d = if i = j then x else l.getD j d := by
  rw [List.getD_eq_getElem?_getD, List.getElem?_set]
  by_cases h : i = j
  · subst h; simp [hi]
  · simp [h, List.getD_eq_getElem?_getD]
theorem RowsUs.step {w w' : World} {B : Nat} {v : Value} {us : List Value} {L : List (List Int)} {j : Nat} {m : List Int} (h : RowsUs w B v us L) (hj : j < L.length) (hm : IntRow w' B (us.getD j nilS) m) (hg : w.grownBy w' (us.getD j nilS).ownBlock) :
    RowsUs w' B v us (L.set j m) := by
  obtain ⟨h1, h2, h3, h4⟩ := h
  refine ⟨by rw [List.length_set]; exact h1, h2.kept hg ?_, fun i hi => ?_, fun i k hi hk => h4 i k (by simpa using hi) (by simpa using hk)⟩
  · rcases apart h2 (h3 j hj) with e | e
    · cases hv : v.ownBlock with
      | none => exact .inl rfl
      | some b => exact .inr (by rw [e]; simp)
    · exact .inr fun he => e he.symm
  · rw [List.length_set] at hi
    rw [getD_set L j i m [] hj]
    by_cases e : j = i
    · subst e; rw [if_pos rfl]; exact hm
    · rw [if_neg e]
      exact (h3 i hi).kept hg (h4 i j hi hj (fun h => e h.symm))
theorem below_own {w w' : World} {B : Nat} {u : Value} {l : List Int} (hu : IntRow w B u l) (hg : w.grownBy w' u.ownBlock) (hB : B ≤ w.heap.size) : Below B w w' :=
  (Below.refl B w).grown hg hB (fun j hj => (hu.lt j hj).1)

theorem Lists.mark (B : Nat) (v : Value) (us : List Value) (L : List (List Int)) (k : Nat) (w : World) (hk : k ≤ 1000) (hs : Small L) (h : RowsUs w B v us L) (hB : B ≤ w.heap.size) :
    Calls Try.prog 50 #[v, .int .i64 k] w fun e w' => (e = .returned (.int .i64 ((k + totL L : Nat) : Int)) ∧ RowsUs w' B v us (marksL k L)) ∧ Below B w w' := by
  have hrd := h.own.rd hs
  obtain ⟨a, cap, rfl, hl, _⟩ := id hrd
  have H := Lib.hid h
  have HS := Lib.hid hs
  have HK := Lib.hid hk
  have HT := Lib.hid (tot_le L hs)
  have hlz : (L.length : Int) ≤ 1000 := by omega
  clear h hs hrd hk
  go_enter Try.func50, Try.ntmps50
  go_wp2
  go_loopw [1, 5] (fun c i wr => ∃ j : Nat, i = .int .i64 (j : Int) ∧ j ≤ L.length ∧ c = .int .i64 ((k + totL (L.take j) : Nat) : Int) ∧ RowsUs wr B (.slice a L.length cap) us (halfL k L j) ∧ Below B w wr) (fun _ i _ => L.length - (intOf i).toNat)
  case atStart => exact ⟨0, rfl, by omega, by simp [totL], by rw [half_zero]; exact H.out, Below.refl _ _⟩
  case round =>
    obtain ⟨j, rfl, hj, rfl, hrow, hbel⟩ := hrel
    have HROW := Lib.hid hrow
    have HBEL := Lib.hid hbel
    have hwr : B ≤ wr.heap.size := Nat.le_trans hB hbel.size
    by_cases hlt : j < L.length
    · have hlen := half_length k L j hj
      obtain ⟨h1, h2, h3, h4⟩ := hrow
      have hr := h3 j (by omega)
      rw [half_at k L j hlt] at hr
      obtain ⟨g, gcap, cur, hv, _, _⟩ : ∃ g gcap cur, (Value.slice a L.length cap) = .slice (some ⟨g, 0, none⟩) L.length gcap ∧ wr.heap[g]? = some (.cells cur 34 (0, 0)) ∧ True := by
        rcases h2.2 with ⟨hv, hn⟩ | ⟨g, gcap, cur, hv, _, hg, _⟩
        · omega
        · exact ⟨g, gcap, cur, by rw [hv]; congr 1; omega, hg, trivial⟩
      simp only [Value.slice.injEq, true_and] at hv
      obtain ⟨rfl, rfl⟩ := hv
      have hlu : us.length = L.length := h1.trans hlen
      have h2' : wr.ownsRow B 34 1 (.slice (some ⟨g, 0, none⟩) L.length cap) L.length us := by unfold SlRow at h2; rw [hlu] at h2; exact h2
      have hcell := World.ownsRow.cellAt h2' j (by omega)
      rw [List.getElem?_eq_getElem (by omega), show us[j]'(by omega) = us.getD j nilS by rw [List.getD_eq_getElem?_getD, List.getElem?_eq_getElem (by omega)]; rfl] at hcell
      obtain ⟨ad, cp, hu⟩ : ∃ ad cp, us.getD j nilS = .slice ad (L.getD j []).length cp := by
        rcases hr.shape with ⟨e, e2⟩ | ⟨g2, cp, e, _⟩
        · exact ⟨none, 0, by rw [e, e2]; rfl⟩
        · exact ⟨_, cp, e⟩
      have HST := Lib.hid (fun (w' : World) (m : List Int) (hm : IntRow w' B (us.getD j nilS) m) (hg : wr.grownBy w' (us.getD j nilS).ownBlock) => (HROW.out.step (by omega) hm hg))
      rw [hu] at hcell hr HST
      have HR := Lib.hid hr
      have HMG := Lib.hid (marksL_getD L k j hlt)
      have HSET := Lib.hid (half_set k L j hlt)
      have HTT := Lib.hid (tot_take L j hlt)
      have htl := tot_take_le L j hj
      have htl2 := tot_take_le L (j + 1) (by omega)
      have hln := (HS.out.2 _ (getD_mem' (d := []) hlt)).1
      have hb1 : ((k + totL (L.take j) : Nat) : Int) + (L.getD j []).length ≤ 2000000 := by have := HT.out; have := HK.out; omega
      have HB1 := Lib.hid hb1
      have hjz : (j : Int) < (L.length : Int) := by omega
      have HJ := Lib.hid hlt
      clear hr h1 h2 h3 h4 hu hlen htl htl2 hln hb1 hbel hlt hj
      have hqz : ((k + totL (L.take j) : Nat) : Int) ≤ 2000000 := by have := HB1.out; omega
      generalize hq : k + totL (L.take j) = q at HMG HB1 HTT hqz ⊢
      have HQ := Lib.hid hq
      clear hq
      go_wp2_with fail
      refine (Ints.mark B _ (L.getD j []) q _ HB1.out HR.out).mono ?_
      rintro e w2 ⟨rfl, hm2, hg2⟩
      have HM2 := Lib.hid (HST.out _ _ hm2 hg2)
      have HB2 := Lib.hid (HBEL.out.trans (below_own HR.out hg2 hwr))
      clear hm2 hg2
      go_wp2
      go_roundw
      case rel => exact ⟨j + 1, by go_num, by have := HJ.out; omega, by rw [HTT.out, ← Nat.add_assoc, HQ.out, List.getD_eq_getElem?_getD]; go_num, by rw [← HSET.out, HMG.out]; exact HM2.out, HB2.out⟩
      case measure => simp [intOf] <;> omega
    · obtain rfl : j = L.length := by omega
      rw [half_all] at HROW
      rw [List.take_length]
      clear hrow hbel
      go_wp2
      go_ret
      exact ⟨⟨rfl, HROW.out⟩, HBEL.out⟩
end Go.Proofs.Ytecakbjcnabpnaa
