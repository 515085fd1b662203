/-
  PermutationsOf of the program: by the number of variables.
-/
import Derived.Test.YtecakbjcnabpnaaClsS
namespace Go.Proofs.Ytecakbjcnabpnaa
open Go.RowKit Plain
set_option linter.unusedVariables false

theorem perms_in (n : Nat) (h : n ≤ 4) : ∀ p ∈ permsL n, p.length ≤ 4 ∧ ∀ e ∈ p, 0 ≤ e ∧ e ≤ 1000 := by
  have h1 : (permsL n).all (fun p => decide (p.length ≤ 4) && p.all (fun e => decide (0 ≤ e) && decide (e ≤ 1000))) = true := by rcases lt5 h with rfl | rfl | rfl | rfl | rfl <;> decide +kernel
  intro p hp
  have h2 := List.all_eq_true.1 h1 p hp
  simp only [Bool.and_eq_true, decide_eq_true_eq, List.all_eq_true] at h2
  exact h2
theorem perms_small (n : Nat) (h : n ≤ 4) : Small (permsL n) := by
  refine ⟨by have := perms_le n h; omega, fun p hp => ?_⟩
  obtain ⟨h1, h2⟩ := perms_in n h p hp
  exact ⟨by omega, fun x hx => by have := h2 x hx; omega⟩
/-- Those that begin with a number below k. -/
def Plain.headsL (n k : Nat) : List (List Int) := (List.range k).flatMap fun (x : Nat) => (permsL n).map (startL (x : Int))
theorem heads_succ (n k : Nat) : headsL n (k + 1) = headsL n k ++ (permsL n).map (startL (k : Int)) := by
  unfold headsL; rw [List.range_succ, List.flatMap_append]; simp
theorem heads_all (n : Nat) : headsL n (n + 1) = permsL (n + 1) := rfl
theorem heads_len (n k : Nat) : (headsL n k).length = k * (permsL n).length := by
  induction k with
  | zero => simp [headsL]
  | succ k ih => rw [heads_succ, List.length_append, ih, List.length_map, Nat.succ_mul]
theorem map_take {α β : Type} (f : α → β) (l : List α) (d : α) (j : Nat) (h : j < l.length) : (l.take (j + 1)).map f = (l.take j).map f ++ [f (l.getD j d)] := by
  rw [List.take_succ_eq_append_getElem h, List.map_append, List.getD_eq_getElem?_getD, List.getElem?_eq_getElem h]
  rfl

theorem rowsOne {w : World} {B g s : Nat} {l : List Int} (hg : g = w.heap.size) (hB : B ≤ g) (hs : IntRow w B (.slice (some ⟨s, 0, none⟩) l.length l.length) l) :
    RowsOwn (w.alloc (.cells #[.slice (some ⟨s, 0, none⟩) l.length l.length] 34)) B (.slice (some ⟨g, 0, none⟩) 1 1) [l] := by
  subst hg
  refine ⟨[.slice (some ⟨s, 0, none⟩) l.length l.length], rfl, ?_, fun j hj => ?_, fun i j hi hj hne => ?_⟩
  · exact World.ownsRow_lit (e := 34) (size := 1) (base := B) w #[.slice (some ⟨s, 0, none⟩) l.length l.length] 1 hB (by unfold maxLen; omega) rfl
  · obtain rfl : j = 0 := by simp at hj; omega
    exact hs.alloc _
  · simp at hi hj; omega

set_option maxRecDepth 100000 in
theorem Perm.zero (w : World) :
    Calls Try.prog 48 #[.int .i64 0] w fun e w' => (∃ v, e = .returned (.tuple #[v, .bool true]) ∧ RowsOwn w' w.heap.size v (permsL 0)) ∧ Below w.heap.size w w' := by
  have HE : Hid (∀ g, g = w.heap.size → RowsOwn ((w.alloc (.cells #[] 3)).alloc (.cells #[.slice (some ⟨g, 0, none⟩) 0 0] 34)) w.heap.size (.slice (some ⟨g + 1, 0, none⟩) 1 1) [[]]) := Lib.hid (by
    rintro g rfl
    exact rowsOne (l := []) (by simp) (by simp) (rowLit w w.heap.size w.heap.size [] rfl (Nat.le_refl _) (by simp)).1)
  go_enter Try.func48, Try.ntmps48
  go_wp2
  exact bodyPost_ret (v := .tuple #[.slice (some ⟨w.heap.size + 1, 0, none⟩) 1 1, .bool true]) (by simp [results, Try.results48, go_sem]) rfl ⟨⟨_, rfl, HE.out _ rfl⟩, ((Below.refl _ _).alloc (Nat.le_refl _) _).alloc (by simp) _⟩

set_option maxRecDepth 100000 in
theorem Perm.succ (n : Nat) (hn : n ≤ 3) (ih : ∀ w, Calls Try.prog 48 #[.int .i64 n] w fun e w' => (∃ v, e = .returned (.tuple #[v, .bool true]) ∧ RowsOwn w' w.heap.size v (permsL n)) ∧ Below w.heap.size w w') (w : World) :
    Calls Try.prog 48 #[.int .i64 ((n : Int) + 1)] w fun e w' => (∃ v, e = .returned (.tuple #[v, .bool true]) ∧ RowsOwn w' w.heap.size v (permsL (n + 1))) ∧ Below w.heap.size w w' := by
  have HIH := Lib.hid ih
  have hnz : (n : Int) ≤ 3 := by omega
  have HN := Lib.hid hn
  clear ih hn
  go_enter Try.func48, Try.ntmps48
  go_wp2_with fail
  refine (HIH.out _).mono ?_
  rintro e w1 ⟨⟨v, rfl, hown⟩, hb1⟩
  have hrd := hown.rd (perms_small n (by have := HN.out; omega))
  obtain ⟨a, cap, rfl, hl, hr⟩ := hrd
  have HR := Lib.hid hr
  have HB1 := Lib.hid hb1
  have hl24 := perms_le n (by have := HN.out; omega)
  have HL := Lib.hid hl24
  have hl24z : ((permsL n).length : Int) ≤ 24 := by omega
  have hs1 := hb1.size
  clear hown hr hb1 hl hl24
  go_wp2
  go_loopw [4, 7, 9, 27, 32] (fun p _ _ i _ wr => ∃ k : Nat, i = .int .i64 (k : Int) ∧ k ≤ n + 1 ∧ RowsOwn wr w1.heap.size p (headsL n k) ∧ Below w1.heap.size w1 wr) (fun _ _ _ i _ _ => n + 1 - (intOf i).toNat)
  case atStart => exact ⟨0, rfl, by omega, RowsOwn.nil _ _, Below.refl _ _⟩
  case round =>
    obtain ⟨k, rfl, hk, hown, hbel⟩ := hrel
    have HOWN := Lib.hid hown
    have HBEL := Lib.hid hbel
    clear hown hbel
    by_cases hlt : k < n + 1
    · have hkz : (k : Int) < (n : Int) + 1 := by omega
      go_wp2
      obtain ⟨wo, rfl⟩ : ∃ wo : World, wo = wr := ⟨_, rfl⟩
      go_loopw [4, 9, 32] (fun p _ i wr => ∃ j : Nat, i = .int .i64 (j : Int) ∧ j ≤ (permsL n).length ∧ RowsOwn wr w1.heap.size p (headsL n k ++ ((permsL n).take j).map (startL (k : Int))) ∧ Below w1.heap.size w1 wr) (fun _ _ i _ => (permsL n).length - (intOf i).toNat)
      case atStart => exact ⟨0, rfl, by omega, by simpa using HOWN.out, HBEL.out⟩
      case round =>
        obtain ⟨j, rfl, hj, hown, hbel⟩ := hrel
        by_cases hlt2 : j < (permsL n).length
        · obtain ⟨b, off, rfl, hbw, hcl⟩ := HR.out (by omega)
          obtain ⟨u, hu, hi⟩ := hcl j hlt2
          obtain ⟨hp1, hp2⟩ := perms_in n (by have := HN.out; omega) _ (getD_mem' (d := []) hlt2)
          have hcp := (hbel.cell (p := ⟨b, off + j, none⟩) hbw).trans hu
          have hi2 := hi.below (w' := wr) (hbel.mono (Nat.le_refl _))
          obtain ⟨ad, cp, rfl, _⟩ := id hi2
          have HI := Lib.hid hi2
          have HS := Lib.hid hp2
          have HT := Lib.hid (map_take (startL (k : Int)) (permsL n) [] j hlt2)
          have hpl : ((permsL n).getD j []).length ≤ 4 := hp1
          have HPL := Lib.hid hpl
          have HOWN2 := Lib.hid hown
          have HBEL2 := Lib.hid hbel
          have HK := Lib.hid hk
          have HJ := Lib.hid hlt2
          have hjz : (j : Int) < ((permsL n).length : Int) := by omega
          have HLEN : Hid ((headsL n k ++ ((permsL n).take j).map (startL (k : Int))).length ≤ 10000) := Lib.hid (by
            rw [List.length_append, heads_len, List.length_map, List.length_take]
            have h1 := HL.out
            have h2 := HN.out
            have h3 : k * (permsL n).length ≤ 4 * 24 := Nat.mul_le_mul (by omega) h1
            omega)
          have hwr := hbel.size
          clear hcl hu hi hi2 hp1 hp2 hpl hown hbel hlt2 hlt hk hj
          obtain ⟨pre, hpre⟩ : ∃ pre, pre = headsL n k ++ ((permsL n).take j).map (startL (k : Int)) := ⟨_, rfl⟩
          rw [← hpre] at HOWN2 HLEN
          have HPRE := Lib.hid hpre
          clear hpre
          generalize (permsL n).getD j [] = y at hcp HI HS HT HPL
          go_wp2_with fail
          refine (Perm.start k y ad y.length cp (by have := HK.out; have := HN.out; omega) (by have := HPL.out; omega) HS.out _ HI.out).mono ?_
          rintro e w2 ⟨⟨u, rfl, hrow⟩, hb2⟩
          obtain ⟨ad2, cp2, rfl⟩ : ∃ ad2 cp2, u = .slice ad2 (y.length + 1) cp2 := by
            rcases hrow.shape with ⟨_, h⟩ | ⟨g, cp2, h, _⟩
            · simp [startL] at h
            · exact ⟨some ⟨g, 0, none⟩, cp2, by rw [h]; simp [startL]⟩
          have HROW := Lib.hid hrow
          have HB2 := Lib.hid hb2
          have HB12 := Lib.hid (bstep HBEL2.out hb2)
          have hw2 := hb2.size
          clear hrow hb2
          go_wp2_with (first | (at_builtin; go_must (refine wp_row rfl _ _ rfl w1.heap.size w1 wr w2 _ ad2 (y.length + 1) cp2 _ (startL (k : Int) y) _ HOWN2.out HB2.out HROW.out HB12.out hwr HLEN.out rfl rfl rfl ?_; intro v' w3 hown3 hbel3)) | fail)
          go_roundw
          case rel => exact ⟨j + 1, by go_num, by have := HJ.out; omega, by rw [HT.out, ← List.append_assoc, ← HPRE.out]; exact hown3, hbel3⟩
          case measure => simp [intOf] <;> omega
        · obtain rfl : j = (permsL n).length := by omega
          rw [List.take_length] at hown
          have HO := Lib.hid hown
          have HB := Lib.hid hbel
          clear hown hbel
          go_wp2
          go_roundw
          case rel => exact ⟨k + 1, by go_num, by omega, by rw [heads_succ]; exact HO.out, HB.out⟩
          case measure => simp [intOf] <;> omega
    · obtain rfl : k = n + 1 := by omega
      rw [heads_all] at HOWN
      have HW := Lib.hid (HOWN.out.base hs1)
      go_wp2
      exact bodyPost_ret (by simp [results, Try.results48, go_sem]) rfl ⟨⟨_, rfl, HW.out⟩, bstep HB1.out HBEL.out⟩

theorem Perm.impl_in (n : Nat) (hn : n ≤ 4) : ∀ w, Calls Try.prog 48 #[.int .i64 n] w fun e w' => (∃ v, e = .returned (.tuple #[v, .bool true]) ∧ RowsOwn w' w.heap.size v (permsL n)) ∧ Below w.heap.size w w' := by
  induction n with
  | zero => exact Perm.zero
  | succ n ih => exact Perm.succ n (by omega) (ih (by omega))

theorem Perm.impl_out (n : Int) (hn : ¬ (0 ≤ n ∧ n ≤ 4)) (w : World) : Calls Try.prog 48 #[.int .i64 n] w fun e w' => e = .returned (.tuple #[.slice none 0 0, .bool false]) ∧ w = w' := by
  go_enter Try.func48, Try.ntmps48
  by_cases h0 : n < 0
  · go_wp2
    exact bodyPost_ret (v := .tuple #[.slice none 0 0, .bool false]) (by simp [results, Try.results48, go_sem]) rfl ⟨rfl, rfl⟩
  · have h4 : 4 < n := by omega
    go_wp2
    exact bodyPost_ret (v := .tuple #[.slice none 0 0, .bool false]) (by simp [results, Try.results48, go_sem]) rfl ⟨rfl, rfl⟩
end Go.Proofs.Ytecakbjcnabpnaa
