/-
  Chapter 6: the law's own functions and facts.
-/
import Derived.Test.YtkamopckpmiioaaTrmN
import Derived.Test.YtkamopckpmiioaaTrmH
import Derived.Test.YtkamopckpmiioaaDrawS
import Derived.Test.YtkamopckpmiioaaDrawB
import Derived.Deep.RegionWith
namespace Go.Proofs.Ytkamopckpmiioaa
open Go.RowKit Plain
set_option linter.unusedVariables false

theorem Big.no (a : Option Addr) (len cap : Nat) (h : (len : Int) ≤ 1048576) (w : World) :
    Calls Try.prog 43 #[.slice a len cap] w fun e w' => e = .returned (.bool false) ∧ w = w' :=
  (Draw.big a len cap (by omega) w).mono fun e w' ⟨h1, h2⟩ => ⟨by rw [h1, decide_eq_false (by omega)], h2⟩

theorem Big.yes (a : Option Addr) (len cap : Nat) (h : ¬ (len : Int) ≤ 1048576) (hl : (len : Int) ≤ 9223372036854775807) (w : World) :
    Calls Try.prog 43 #[.slice a len cap] w fun e w' => e = .returned (.bool true) ∧ w = w' :=
  (Draw.big a len cap hl w).mono fun e w' ⟨h1, h2⟩ => ⟨by rw [h1, decide_eq_true (by omega)], h2⟩

set_option maxRecDepth 100000 in
set_option maxHeartbeats 1000000 in
/-- sameTerms of the laws, at two rows with the same terms. -/
theorem Terms.same (va vb : Value) (l : List Ti) (w : World) (ha : TmsIn w va l) (hb : TmsIn w vb l) :
    Calls Try.prog 45 #[va, vb] w fun e w' => e = .returned (.bool true) ∧ Below w.heap.size w w' := by
  obtain ⟨a, ca, rfl, hl, hca, hca2, _, h1⟩ := ha
  obtain ⟨b, cb, rfl, _, hcb, hcb2, _, h2⟩ := hb
  have H1 := Lib.hid h1
  have H2 := Lib.hid h2
  clear h1 h2
  go_enter Try.func45, Try.ntmps45
  go_wp2
  go_loopw [5] (fun i wr => ∃ k : Nat, i = .int .i64 (k : Int) ∧ k ≤ l.length ∧ Below w.heap.size w wr) (fun i _ => l.length - (intOf i).toNat)
  case atStart => exact ⟨0, rfl, by omega, Below.refl _ _⟩
  case round =>
    obtain ⟨k, rfl, hk, hB⟩ := hrel
    have HB := Lib.hid hB
    clear hB
    by_cases hlt : k < l.length
    · obtain ⟨ba, oa, rfl, la, ka⟩ := H1.out (by omega)
      obtain ⟨bb, ob, rfl, lb, kb⟩ := H2.out (by omega)
      obtain ⟨c1, c2⟩ := ka k hlt
      obtain ⟨d1, d2⟩ := kb k hlt
      replace c1 := (HB.out.cell (p := ⟨ba, oa + k * 2, none⟩) la).trans c1
      replace c2 := (HB.out.cell (p := ⟨ba, oa + k * 2 + 1, none⟩) la).trans c2
      replace d1 := (HB.out.cell (p := ⟨bb, ob + k * 2, none⟩) lb).trans d1
      replace d2 := (HB.out.cell (p := ⟨bb, ob + k * 2 + 1, none⟩) lb).trans d2
      clear ka kb la lb
      have hlz : (k : Int) < (l.length : Int) := by omega
      generalize l.getD k (0, 0) = t at c1 c2 d1 d2
      go_wp2
      go_region_with (fail)
      all_goals
        go_wp2
        go_roundw
        case rel => exact ⟨k + 1, by go_num, by omega, bD HB.out⟩
        case measure => simp [intOf] <;> omega
    · go_wp2
      go_ret
      exact ⟨rfl, HB.out⟩

/-! What the law asks, about lists alone. -/
theorem natL_tiL (l : List Tm) : natL (tiL l) = l := by
  unfold natL tiL
  rw [List.map_map]
  exact (List.map_congr_left fun t _ => rfl).trans (List.map_id l)
theorem isTm_of_prime {n a : Nat} (hn : n ≤ 5) {t : Tm} (h : t ∈ primesL n a) : isTm n t.1 t.2 = true := by
  have h1 := (mem_primes.1 h).1
  exact isTm_yes hn h1.1 h1.2
theorem law_prime (n a : Int) : ∀ j, j < (primesT n a).length → prmT n a ((primesT n a).getD j (0, 0)).1 ((primesT n a).getD j (0, 0)).2 = true ∧ impT n a ((primesT n a).getD j (0, 0)).1 ((primesT n a).getD j (0, 0)).2 = true := by
  cases ht : isT n a with
  | false => rw [primesT_no ht]; exact fun j hj => absurd hj (by simp)
  | true =>
    obtain ⟨k, x, rfl, rfl, hk, hx⟩ := isT_nat ht
    rw [primesT_yes ht, tiL_len]
    intro j hj
    rw [tiL_getD _ _ hj]
    have hm := getD_of_lt hj
    have hi := isTm_of_prime hk hm
    have hp := (mem_primes.1 hm).2
    dsimp only
    rw [prmT_nat ht hi, impT_nat ht hi]
    exact ⟨hp, ((primeB_iff _ _ _ _).1 hp).1⟩
theorem law_tables {n a : Int} (h : minOk n a = true) : totT n (minT n a) = (n, a, true) ∧ totT n (primesT n a) = (n, a, true) := by
  obtain ⟨k, x, rfl, rfl, hk, hx, ht⟩ := minOk_nat h
  have hk5 : k ≤ 5 := by omega
  obtain ⟨hs, hc⟩ := minS_sub hk hx
  have key : ∀ s : List Tm, (∀ t ∈ s, t ∈ primesL k x) → (∀ z, x.testBit z = true → ∃ t ∈ s, (wT k t).testBit z = true) → totT k (tiL s) = ((k : Int), (x : Int), true) := by
    intro s h1 h2
    rw [totT_yes hk5, natL_tiL, tiL_len, orT_same h1 h2]
    intro j hj
    rw [tiL_len] at hj
    rw [tiL_getD _ _ hj]
    exact isTm_of_prime hk5 (h1 _ (getD_of_lt hj))
  rw [minT_yes h, primesT_yes ht]
  exact ⟨key _ (fun t h => hs.subset h) hc, key _ (fun t h => h) fun z hz => prime_at hk5 hx hz⟩
theorem law_few {n a : Int} (h : minOk n a = true) : ((minT n a).length : Int) < ((essT n a).length : Int) ↔ False := by
  obtain ⟨k, x, rfl, rfl, hk, hx, ht⟩ := minOk_nat h
  obtain ⟨hs, hc⟩ := minS_sub hk hx
  have := ess_few (a := x) (show k ≤ 5 by omega) (ess_in (by omega) hs hc)
  rw [minT_yes h, essT_yes ht, tiL_len, tiL_len]
  constructor
  · intro h; omega
  · intro h; exact h.elim
theorem law_found {n a : Int} (h : minOk n a = true) : ∀ i, i < (essT n a).length → ∃ j, j < (minT n a).length ∧ (minT n a).getD j (0, 0) = (essT n a).getD i (0, 0) := by
  obtain ⟨k, x, rfl, rfl, hk, hx, ht⟩ := minOk_nat h
  obtain ⟨hs, hc⟩ := minS_sub hk hx
  rw [minT_yes h, essT_yes ht, tiL_len, tiL_len]
  intro i hi
  obtain ⟨j, hj, he⟩ := List.getElem_of_mem (ess_in (show k ≤ 5 by omega) hs hc _ (getD_of_lt hi))
  refine ⟨j, hj, ?_⟩
  rw [tiL_getD _ _ hj, tiL_getD _ _ hi]
  have e : (minS k x).getD j (0, 0) = (essL k x).getD i (0, 0) := by
    rw [← he]; simp [List.getD, hj]
  rw [e]

/-- Found among the first k. -/
def foundU (l : List Ti) (t : Ti) : Nat → Bool
  | 0 => false
  | k + 1 => foundU l t k || decide (l.getD k (0, 0) = t)
theorem foundU_iff (l : List Ti) (t : Ti) (k : Nat) : foundU l t k = true ↔ ∃ j, j < k ∧ l.getD j (0, 0) = t := by
  induction k with
  | zero => simp [foundU]
  | succ k ih =>
    rw [foundU, Bool.or_eq_true, ih, decide_eq_true_iff]
    constructor
    · rintro (⟨j, h1, h2⟩ | h)
      · exact ⟨j, by omega, h2⟩
      · exact ⟨k, by omega, h⟩
    · rintro ⟨j, h1, h2⟩
      by_cases hj : j = k
      · subst hj; exact .inr h2
      · exact .inl ⟨j, by omega, h2⟩

theorem parT_nil (n : Int) : parT n [] = none := by
  cases h : parT n [] with
  | none => rfl
  | some t =>
    obtain ⟨h1, h2⟩ := parT_some h
    exact absurd h2 (fmtTm_ne h1)

end Go.Proofs.Ytkamopckpmiioaa
