/-
  Chapter 9, lists and words only: which sets are certificates, and the least of those with fewest variables.
-/
import Derived.Test.YtlmhdocfdpbhmaaResKB
import Derived.Test.YtlmhdocfdpbhmaaTabI
import Derived.Test.YtlmhdocfdpbhmaaRowB
namespace Go.Proofs.Ytlmhdocfdpbhmaa
open Go.RowKit Plain
set_option linter.unusedVariables false

theorem blockC {X w' : World} {b : Nat} {o : Obj} (hb : Below X.heap.size X w') (h : X.heap[b]? = some o) : w'.heap[b]? = some o := blockOn h hb

theorem pop_top (n : Nat) : ∀ m, m < 2 ^ n → popN m ≤ n ∧ (popN m = n → m = 2 ^ n - 1) := by
  induction n with
  | zero =>
    intro m hm
    obtain rfl : m = 0 := by simpa using hm
    exact ⟨by rw [popN_zero]; exact Nat.le_refl _, fun _ => rfl⟩
  | succ n ih =>
    intro m hm
    have h2 : m / 2 < 2 ^ n := by rw [Nat.pow_succ] at hm; omega
    obtain ⟨h3, h4⟩ := ih (m / 2) h2
    rw [popN_half m]
    refine ⟨by omega, fun h => ?_⟩
    have h5 : m % 2 = 1 := by omega
    have h6 := h4 (by omega)
    have := Nat.two_pow_pos n
    rw [Nat.pow_succ]; omega
theorem pop_full (n : Nat) : popN (2 ^ n - 1) = n := by
  induction n with
  | zero => exact popN_zero
  | succ n ih =>
    have := Nat.two_pow_pos n
    rw [popN_half, show (2 ^ (n + 1) - 1) % 2 = 1 by rw [Nat.pow_succ]; omega, show (2 ^ (n + 1) - 1) / 2 = 2 ^ n - 1 by rw [Nat.pow_succ]; omega, ih]; omega

/-- Is the set m a certificate of the input x? -/
def Plain.certB (n a x m : Nat) : Bool := decide (cubV n a m (x &&& m) < 2)
theorem and_twice (x m : Nat) : (x &&& m) &&& m = x &&& m := by rw [Nat.and_assoc, Nat.and_self]
theorem cubV_cases (n a m v : Nat) : cubV n a m v = 0 ∨ cubV n a m v = 1 ∨ cubV n a m v = 2 := by
  have h := bitN_lt a v
  unfold Plain.cubV
  split <;> omega
theorem certB_ne (n a x m : Nat) : (cubV n a m (x &&& m) != 2) = certB n a x m := by
  unfold Plain.certB
  rcases cubV_cases n a m (x &&& m) with h | h | h <;> rw [h] <;> decide

/-- The model's best set behind k sets. -/
def Plain.bestS (n a x : Nat) : Nat → Nat
  | 0 => 2 ^ n - 1
  | k + 1 => if popN k < popN (bestS n a x k) ∧ certB n a x k = true then k else bestS n a x k
def Plain.setN (n a x : Nat) : Nat := bestS n a x (2 ^ n)
theorem bestS_yes {n a x k : Nat} (h : popN k < popN (bestS n a x k)) (hc : certB n a x k = true) : bestS n a x (k + 1) = k := if_pos ⟨h, hc⟩
theorem bestS_no {n a x k : Nat} (h : ¬ (popN k < popN (bestS n a x k) ∧ certB n a x k = true)) : bestS n a x (k + 1) = bestS n a x k := if_neg h
theorem bestS_lt (n a x k : Nat) (hk : k ≤ 2 ^ n) : bestS n a x k < 2 ^ n := by
  induction k with
  | zero => have := Nat.two_pow_pos n; show 2 ^ n - 1 < 2 ^ n; omega
  | succ k ih =>
    have := ih (by omega)
    show (if _ then k else _) < _
    split <;> omega
theorem setN_lt (n a x : Nat) : setN n a x < 2 ^ n := bestS_lt n a x _ (Nat.le_refl _)

/-- The program's list of the certificates below k. -/
def Plain.certL (n a x : Nat) : Nat → List Int
  | 0 => []
  | k + 1 => if certB n a x k = true then certL n a x k ++ [(k : Int)] else certL n a x k
theorem certL_yes {n a x k : Nat} (h : certB n a x k = true) : certL n a x (k + 1) = certL n a x k ++ [(k : Int)] := if_pos h
theorem certL_no {n a x k : Nat} (h : certB n a x k = false) : certL n a x (k + 1) = certL n a x k := if_neg (by rw [h]; decide)
theorem certL_len (n a x k : Nat) : (certL n a x k).length ≤ k := by
  induction k with
  | zero => exact Nat.le_refl _
  | succ k ih =>
    show (if _ then _ else _ : List Int).length ≤ _
    split
    · simp; omega
    · omega
theorem certL_mem {n a x k : Nat} : ∀ y ∈ certL n a x k, ∃ m : Nat, y = (m : Int) ∧ m < k := by
  induction k with
  | zero => intro y hy; exact absurd hy (by simp [Plain.certL])
  | succ k ih =>
    intro y hy
    replace hy : y ∈ (if certB n a x k = true then certL n a x k ++ [(k : Int)] else certL n a x k) := hy
    split at hy
    · rcases List.mem_append.1 hy with h | h
      · obtain ⟨m, rfl, hm⟩ := ih y h; exact ⟨m, rfl, by omega⟩
      · exact ⟨k, by simpa using h, by omega⟩
    · obtain ⟨m, rfl, hm⟩ := ih y hy; exact ⟨m, rfl, by omega⟩

/-- The first element with the fewest bits, of those behind b too. -/
def Plain.minI (b : Int) (l : List Int) : Int := l.foldl (fun b m => if popN m.toNat < popN b.toNat then m else b) b
theorem minI_take {b : Int} {l : List Int} {i : Nat} (h : i < l.length) : minI b (l.take (i + 1)) = if popN (l.getD i 0).toNat < popN (minI b (l.take i)).toNat then l.getD i 0 else minI b (l.take i) := by
  have e : l.take (i + 1) = l.take i ++ [l.getD i 0] := by
    rw [List.take_add_one, List.getD_eq_getElem?_getD, List.getElem?_eq_getElem h]; rfl
  rw [e]
  unfold Plain.minI
  rw [List.foldl_append]
  rfl
theorem minI_best (n a x k : Nat) : minI ((2 ^ n - 1 : Nat) : Int) (certL n a x k) = (bestS n a x k : Int) := by
  induction k with
  | zero => rfl
  | succ k ih =>
    cases hc : certB n a x k with
    | false => rw [certL_no hc, ih, bestS_no fun h => by rw [hc] at h; exact absurd h.2 (by decide)]
    | true =>
      rw [certL_yes hc]
      have e : minI ((2 ^ n - 1 : Nat) : Int) (certL n a x k ++ [(k : Int)]) = if popN ((k : Nat) : Int).toNat < popN (minI ((2 ^ n - 1 : Nat) : Int) (certL n a x k)).toNat then (k : Int) else minI ((2 ^ n - 1 : Nat) : Int) (certL n a x k) := by
        unfold Plain.minI; rw [List.foldl_append]; rfl
      rw [e, ih, Int.toNat_natCast, Int.toNat_natCast]
      by_cases h : popN k < popN (bestS n a x k)
      · rw [if_pos h, bestS_yes h hc]
      · rw [if_neg h, bestS_no fun q => h q.1]
theorem cert_full {n a x : Nat} (hx : x < 2 ^ n) : certB n a x (2 ^ n - 1) = true := by
  unfold Plain.certB
  rw [Nat.and_two_pow_sub_one_of_lt_two_pow hx, cubV_same]
  · have := bitN_lt a x; exact decide_eq_true (by omega)
  · rw [Bool.eq_false_iff]
    intro hc
    obtain ⟨y, hy, he, hne⟩ := (cubX_iff a (2 ^ n - 1) x (2 ^ n)).1 hc
    rw [Nat.and_two_pow_sub_one_of_lt_two_pow hy] at he
    exact hne (by rw [he])
theorem certL_pos {n a x : Nat} (hx : x < 2 ^ n) : 0 < (certL n a x (2 ^ n)).length := by
  have h := Nat.two_pow_pos n
  have e : certL n a x (2 ^ n) = certL n a x (2 ^ n - 1) ++ [((2 ^ n - 1 : Nat) : Int)] := by
    have := certL_yes (cert_full (a := a) hx)
    rwa [show 2 ^ n - 1 + 1 = 2 ^ n by omega] at this
  rw [e]; simp
/-- The first of the program's list with fewest bits is the model's set. -/
theorem minI_set {n a x : Nat} (hx : x < 2 ^ n) : minI ((certL n a x (2 ^ n)).getD 0 0) (certL n a x (2 ^ n)) = (setN n a x : Int) := by
  have hp := certL_pos (a := a) hx
  have hb := minI_best n a x (2 ^ n)
  have hm := certL_mem (n := n) (a := a) (x := x) (k := 2 ^ n)
  show _ = ((bestS n a x (2 ^ n) : Nat) : Int)
  rw [← hb]
  cases hl : certL n a x (2 ^ n) with
  | nil => rw [hl] at hp; exact absurd hp (by decide)
  | cons y t =>
    rw [hl] at hm
    obtain ⟨m, rfl, hlt⟩ := hm _ List.mem_cons_self
    obtain ⟨h1, h2⟩ := pop_top n m hlt
    show List.foldl _ (if popN ((m : Nat) : Int).toNat < popN ((m : Nat) : Int).toNat then (m : Int) else (m : Int)) t = List.foldl _ (if popN ((m : Nat) : Int).toNat < popN ((2 ^ n - 1 : Nat) : Int).toNat then (m : Int) else ((2 ^ n - 1 : Nat) : Int)) t
    rw [Int.toNat_natCast, Int.toNat_natCast, pop_full, ite_self]
    by_cases h : popN m < n
    · rw [if_pos h]
    · rw [if_neg h, h2 (by omega)]

end Go.Proofs.Ytlmhdocfdpbhmaa
