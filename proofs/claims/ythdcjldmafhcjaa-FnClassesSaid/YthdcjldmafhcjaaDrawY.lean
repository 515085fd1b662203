/-
  The law of classes: what it needs where a table has classes.
-/
import Derived.Test.YthdcjldmafhcjaaDrawX
import Derived.Test.YthdcjldmafhcjaaLdJ
import Derived.Test.YthdcjldmafhcjaaResIM
namespace Go.Proofs.Ythdcjldmafhcjaa
open Go.RowKit Plain
set_option linter.unusedVariables false

theorem class_yes {n a p q sy sz : Int} (h : canT n a = (p, q, true)) (h1 : symT n a = sy) (h2 : sizT n a = sz) :
    ∃ N A : Nat, n = N ∧ a = A ∧ N ≤ 4 ∧ A ≤ fullN N ∧ p = N ∧ q = (leastW N A : Int) ∧ sy = ((waysL N A).count A : Int) ∧ sz = (((waysL N A).length / (waysL N A).count A : Nat) : Int) := by
  by_cases hc : isT n a = true ∧ n ≤ 4
  · obtain ⟨N, A, rfl, rfl, hN, hA⟩ := isT_nat hc.1
    have hN4 : N ≤ 4 := by omega
    rw [canT_yes hc.1 hN4] at h
    rw [symT_yes hc.1 hN4] at h1
    rw [sizT_yes hc.1 hN4] at h2
    simp only [Prod.mk.injEq, and_true] at h
    exact ⟨N, A, rfl, rfl, hN4, hA, h.1.symm, h.2.symm, h1.symm, h2.symm⟩
  · rw [canT_no hc] at h
    simp at h

set_option maxRecDepth 100000 in
set_option maxHeartbeats 2000000 in
/-- The laws' own 'at': always the same byte. -/
theorem Law.atF (av : Value) (len : Nat) (i : Nat) (hi : i ≤ 100) (W : World) (hc : CodeIn W av len) : ∃ x : Nat, x ≤ 255 ∧ ∀ w, Below W.heap.size W w →
    Calls Try.prog 21 #[av, .int .i64 (i : Int)] w fun e w' => e = .returned (.int .i64 (x : Int)) ∧ w = w' := by
  obtain ⟨ad, cap, rfl, hl, hrest⟩ := hc
  by_cases hlt : (i : Int) < (len : Int)
  · obtain ⟨ab, off, rfl, hab, hcs⟩ := hrest (by omega)
    obtain ⟨z, hz1, hz2, hz⟩ := hcs i (by omega)
    refine ⟨z.toNat, by omega, fun w hb => ?_⟩
    have hzw : w.cell? ⟨ab, off + i, none⟩ = some (.int .u8 z) := (hb.cell (p := ⟨ab, off + i, none⟩) hab).trans hz
    have he : ((z.toNat : Nat) : Int) = z := by omega
    clear hcs hrest hz hb
    go_enter Try.func21, Try.ntmps21
    go_wp2
    go_ret
    exact ⟨by rw [he]; rfl, rfl⟩
  · refine ⟨(i * 37 + len * 11) % 256, by omega, fun w hb => ?_⟩
    clear hrest hb
    have hge : (len : Int) ≤ (i : Int) := by omega
    go_enter Try.func21, Try.ntmps21
    go_wp2
    go_ret
    exact ⟨ret_int (by omega), rfl⟩

/-- One way, and the table behind it. -/
theorem law_way {N A : Nat} (hN : N ≤ 4) (hA : A ≤ fullN N) {p : List Int} (hp : p ∈ permsL N) {s : Nat} (hs : s < 2 ^ N) :
    shiW N (perW N A p) s ≤ fullN N ∧ leastW N (shiW N (perW N A p) s) = leastW N A ∧ leastW N (fullN N - shiW N (perW N A p) s) = leastW N A ∧ cst JA N (shiW N (perW N A p) s) = cst JA N A := by
  have e1 : shiW N (perW N A p) s = act N A p s 0 := way_act N A p s hs
  have e2 : fullN N - shiW N (perW N A p) s = act N A p s 1 := full_act N A p s hs
  refine ⟨tabN_full _ _, ?_, ?_, avg_way hN hA hp hs⟩
  · rw [e1]; exact leastW_act hN hA hp hs (by decide)
  · rw [e2]; exact leastW_act hN hA hp hs (by decide)

theorem ali_yes {N A Z : Nat} (hN : N ≤ 4) (hA : A ≤ fullN N) (hZ : Z ≤ fullN N) (h : leastW N Z = leastW N A) : aliT N A N Z = true := by
  unfold Plain.aliT
  rw [canT_yes (isT_yes (by omega) hA) hN, canT_yes (isT_yes (by omega) hZ) hN, h]
  simp

theorem all_mul {N A : Nat} (hN : N ≤ 4) (hA : A ≤ fullN N) : (((waysL N A).length / (waysL N A).count A : Nat) : Int) * ((waysL N A).count A : Int) = 2 * 2 ^ N * ((permsL N).length : Int) := by
  rw [← Int.natCast_mul, ways_mul hN hA, waysL_len]
  rw [Int.natCast_mul, Int.natCast_mul, Int.natCast_pow]
  exact Int.mul_comm _ _

theorem tmodN (x L : Nat) : Int.tmod (x : Int) (L : Int) = ((x % L : Nat) : Int) := by
  rw [Int.tmod_eq_emod_of_nonneg (Int.natCast_nonneg _), ← Int.natCast_emod]
theorem dropD4 {X : World} {b : Nat} {o : Option Obj} (h : X.heap[b]? = o) : X.drew.heap[b]? = o := h
theorem getD_in {L : List (List Int)} {i : Nat} (h : i < L.length) : L.getD i [] ∈ L := by
  rw [List.getD_eq_getElem?_getD, List.getElem?_eq_getElem h]
  exact List.getElem_mem _

end Go.Proofs.Ythdcjldmafhcjaa
