/-
  Plain mathematics of the law of restrictions: joined again, shifted back, counted, reduced.
-/
import Derived.Test.YtecakbjcnabpnaaResE
import Derived.Test.YtecakbjcnabpnaaResF
import Derived.Test.YtecakbjcnabpnaaResG
import Derived.Test.YtecakbjcnabpnaaResH
import Derived.Test.YtecakbjcnabpnaaResJ
import Derived.Test.YtecakbjcnabpnaaResKB
import Derived.Test.YtecakbjcnabpnaaResL
import Derived.Test.YtecakbjcnabpnaaResIM
import Derived.Test.YtecakbjcnabpnaaTabI
import Derived.Test.YtecakbjcnabpnaaTabJ
namespace Go.Proofs.Ytecakbjcnabpnaa
open Go.RowKit Plain
set_option linter.unusedVariables false

/-! Bits of a restriction -/
theorem restW_bit {n a i b z : Nat} (hz : z < 2 ^ (n - 1)) : bitN (restW n a i b) z = bitN a (insN z i b) := tabN_bitN _ _ _ hz bitN_any
theorem ins_lt {n x i b : Nat} (hn : n ≤ 5) (hi : i < n) (hb : b < 2) (hx : x < 2 ^ (n - 1)) : insN x i b < 2 ^ n := by
  have h := ins_size (n - 1) (by omega) x hx (by have := two_pow_le (n - 1) (by omega); omega) i (by omega) b hb
  rwa [show n - 1 + 1 = n by omega] at h
theorem rem_lt {n z i : Nat} (hn : n ≤ 5) (hi : i < n) (hz : z < 2 ^ n) : remN z i < 2 ^ (n - 1) := by
  have h5 := two_pow_le n hn
  exact rem_size (n - 1) (by omega) z (by rwa [show n - 1 + 1 = n by omega]) (by omega) i (by omega)
theorem ins_rem {n z i : Nat} (hn : n ≤ 5) (hi : i < n) (hz : z < 2 ^ n) : insN (remN z i) i (bitN z i) = z := by
  have h5 := two_pow_le n hn
  exact (rem_all z (by omega) i (by omega)).2.1

/-- A table is joined from both restrictions. -/
theorem join_back {n a i : Nat} (hn : n ≤ 5) (hi : i < n) (ha : a < 2 ^ 2 ^ n) : joinW (n - 1) (restW n a i 0) (restW n a i 1) i = a := by
  unfold joinW
  rw [show n - 1 + 1 = n by omega]
  refine (tabN_congr fun x hx => ?_).trans (tabN_self a (2 ^ n) ha)
  have h1 := rem_lt hn hi hx
  have h2 := ins_rem hn hi hx
  unfold joinV
  rcases bitN_cases x i with hb | hb
  · rw [hb, if_neg (by decide), restW_bit h1]; rw [hb] at h2; rw [h2]
  · rw [hb, if_pos rfl, restW_bit h1]; rw [hb] at h2; rw [h2]

theorem shi_back {n a s : Nat} (hs : s < 2 ^ n) (ha : a < 2 ^ 2 ^ n) : shiW n (shiW n a s) s = a := by
  unfold shiW
  refine (tabN_congr fun y hy => ?_).trans (tabN_self a (2 ^ n) ha)
  unfold shiV
  rw [tabN_bitN (fun y => bitN a (y ^^^ s)) _ _ (Nat.xor_lt_two_pow hy hs) bitN_any, xor_back]

/-! Sums -/
def Plain.sumN (f : Nat → Nat) : Nat → Nat
  | 0 => 0
  | k + 1 => sumN f k + f k
theorem sumN_congr {f g : Nat → Nat} {k : Nat} (h : ∀ x, x < k → f x = g x) : sumN f k = sumN g k := by
  induction k with
  | zero => rfl
  | succ k ih =>
    show sumN f k + f k = sumN g k + g k
    rw [ih fun x hx => h x (by omega), h k (by omega)]
theorem sumN_shift (f : Nat → Nat) (k : Nat) : sumN f (k + 1) = f 0 + sumN (fun i => f (i + 1)) k := by
  induction k with
  | zero => show 0 + f 0 = f 0 + 0; omega
  | succ k ih =>
    show sumN f (k + 1) + f (k + 1) = f 0 + (sumN (fun i => f (i + 1)) k + f (k + 1))
    omega
theorem sumN_add (f g : Nat → Nat) (k : Nat) : sumN (fun x => f x + g x) k = sumN f k + sumN g k := by
  induction k with
  | zero => rfl
  | succ k ih =>
    show sumN (fun x => f x + g x) k + (f k + g k) = (sumN f k + f k) + (sumN g k + g k)
    omega
theorem sumN_zero (k : Nat) : sumN (fun _ => 0) k = 0 := by
  induction k with
  | zero => rfl
  | succ k ih => show sumN (fun _ => 0) k + 0 = 0; omega
theorem sumN_swap (f : Nat → Nat → Nat) (k m : Nat) : sumN (fun x => sumN (fun y => f x y) m) k = sumN (fun y => sumN (fun x => f x y) k) m := by
  induction k with
  | zero => exact (sumN_zero m).symm
  | succ k ih =>
    show sumN (fun x => sumN (fun y => f x y) m) k + sumN (fun y => f k y) m = sumN (fun y => sumN (fun x => f x y) k + f k y) m
    rw [sumN_add, ih]
theorem sumN_one (v : Nat) (j : Nat) (k : Nat) (hj : j < k) : sumN (fun x => if x = j then v else 0) k = v := by
  induction k with
  | zero => omega
  | succ k ih =>
    show sumN (fun x => if x = j then v else 0) k + (if k = j then v else 0) = v
    by_cases h : k = j
    · subst h
      rw [if_pos rfl, sumN_congr (g := fun _ => 0) fun x hx => if_neg (by omega), sumN_zero]; omega
    · rw [if_neg h, ih (by omega), Nat.add_zero]
/-- A sum does not depend on the order. -/
theorem sumN_perm (v g h : Nat → Nat) (k : Nat) (hg : ∀ y, y < k → g y < k) (hh : ∀ x, x < k → h x < k) (hgh : ∀ x, x < k → g (h x) = x) (hhg : ∀ y, y < k → h (g y) = y) :
    sumN (fun y => v (g y)) k = sumN v k := by
  have e1 : sumN (fun y => v (g y)) k = sumN (fun y => sumN (fun x => if x = g y then v x else 0) k) k := by
    refine sumN_congr fun y hy => ?_
    rw [sumN_congr (g := fun x => if x = g y then v (g y) else 0) fun x hx => by by_cases e : x = g y <;> simp [e], sumN_one _ _ _ (hg y hy)]
  rw [e1, sumN_swap]
  refine sumN_congr fun x hx => ?_
  rw [sumN_congr (g := fun y => if y = h x then v x else 0) fun y hy => by
    by_cases e : x = g y
    · rw [if_pos e, if_pos (by rw [e, hhg y hy])]
    · rw [if_neg e, if_neg (by rintro rfl; exact e (hgh x hx).symm)], sumN_one _ _ _ (hh x hx)]
theorem bitN_half (a i : Nat) : bitN a (i + 1) = bitN (a / 2) i := by
  unfold Plain.bitN
  rw [Nat.pow_succ, Nat.mul_comm, Nat.div_div_eq_div_mul]
theorem popN_sum (k : Nat) : ∀ a, a < 2 ^ k → popN a = sumN (bitN a) k := by
  induction k with
  | zero =>
    intro a h
    have : a = 0 := by simpa using h
    subst this
    exact popN_zero
  | succ k ih =>
    intro a h
    rw [popN_half, ih (a / 2) (by rw [Nat.pow_succ] at h; omega), sumN_shift]
    congr 1
    · unfold Plain.bitN; rw [Nat.pow_zero, Nat.div_one]
    · exact sumN_congr fun i _ => (bitN_half a i).symm

/-- A permuted table has as many ones. -/
theorem per_ones (n a : Nat) (l : List Int) (hn : n ≤ 5) (h : permB l n = true) (ha : a < 2 ^ 2 ^ n) : popN (perW n a l) = popN a := by
  obtain ⟨hl, hr, hp, hi, hs⟩ := permB_facts hn h
  unfold perW
  rw [popN_sum (2 ^ n) _ (tabN_lt _ _), popN_sum (2 ^ n) a ha]
  rw [sumN_congr (g := fun y => bitN a (gatN l n y)) fun y hy => tabN_bitN (perV a l n) _ _ hy bitN_any]
  exact sumN_perm (bitN a) (gatN l n) (scaN l n) (2 ^ n) (fun y hy => gat_lt l n y) (fun x hx => sca_lt l n x hp) (fun x hx => gat_sca l n x hi hx) (fun y hy => sca_gat l n y hs hp hy)

/-! The cube of one variable -/
theorem and_pow (x i : Nat) : x &&& 2 ^ i = bitN x i * 2 ^ i := by
  apply Nat.eq_of_testBit_eq
  intro z
  rw [Nat.testBit_and, Nat.testBit_two_pow, mulBit bitN_any]
  by_cases hz : i = z
  · subst hz
    rw [decide_eq_true rfl, Bool.and_true]
    cases hb : x.testBit i with
    | true => exact (decide_eq_true ⟨rfl, (bitN_one x i).2 hb⟩).symm
    | false => exact (decide_eq_false fun h => by rw [(bitN_one x i).1 h.2] at hb; cases hb).symm
  · rw [decide_eq_false hz, Bool.and_false]
    exact (decide_eq_false fun h => hz h.1).symm
theorem and_one {x i b : Nat} (hb : b < 2) : x &&& 2 ^ i = b * 2 ^ i ↔ bitN x i = b := by
  rw [and_pow]
  exact ⟨fun h => Nat.eq_of_mul_eq_mul_right (Nat.two_pow_pos i) h, fun h => by rw [h]⟩
theorem ins_zero (i b : Nat) : insN 0 i b = b * 2 ^ i := by unfold insN; rw [Nat.zero_div, Nat.zero_mul, Nat.zero_mod]; omega
theorem cub_mix {n a i b : Nat} (hn : n ≤ 5) (hi : i < n) (hb : b < 2) :
    cubX a (2 ^ i) (b * 2 ^ i) (2 ^ n) = true ↔ ∃ z, z < 2 ^ (n - 1) ∧ bitN (restW n a i b) z ≠ bitN (restW n a i b) 0 := by
  have h0 : bitN (restW n a i b) 0 = bitN a (b * 2 ^ i) := by rw [restW_bit (Nat.two_pow_pos _), ins_zero]
  rw [cubX_iff, h0]
  constructor
  · rintro ⟨x, hx, he, hne⟩
    rw [and_one hb] at he
    refine ⟨remN x i, rem_lt hn hi hx, ?_⟩
    have h2 := ins_rem hn hi hx
    rw [he] at h2
    rw [restW_bit (rem_lt hn hi hx), h2]; exact hne
  · rintro ⟨z, hz, hne⟩
    rw [restW_bit hz] at hne
    have hz32 : z < 32 := by have := two_pow_le (n - 1) (by omega); omega
    exact ⟨insN z i b, ins_lt hn hi hb hz, (and_one hb).2 (ins_all z hz32 i (by omega) b hb).2.2.1, hne⟩
theorem full_bit {n z : Nat} (hz : z < 2 ^ n) : bitN (fullN n) z = 1 := by
  rw [bitN_one]
  unfold fullN
  rw [Nat.testBit_two_pow_sub_one]
  exact decide_eq_true hz
theorem eq_full {n a : Nat} (ha : a < 2 ^ 2 ^ n) (h : ∀ z, z < 2 ^ n → bitN a z = 1) : a = fullN n := by
  apply Nat.eq_of_testBit_eq
  intro z
  unfold fullN
  rw [Nat.testBit_two_pow_sub_one]
  by_cases hz : z < 2 ^ n
  · rw [decide_eq_true hz]; exact (bitN_one a z).1 (h z hz)
  · rw [decide_eq_false hz]
    exact Nat.testBit_lt_two_pow (Nat.lt_of_lt_of_le ha (Nat.pow_le_pow_right (by decide) (by omega)))
theorem eq_zero {n a : Nat} (ha : a < 2 ^ 2 ^ n) (h : ∀ z, z < 2 ^ n → bitN a z = 0) : a = 0 := by
  apply Nat.eq_of_testBit_eq
  intro z
  rw [Nat.zero_testBit]
  by_cases hz : z < 2 ^ n
  · cases hb : a.testBit z with
    | false => rfl
    | true =>
      have := h z hz
      rw [(bitN_one a z).2 hb] at this
      cases this
  · exact Nat.testBit_lt_two_pow (Nat.lt_of_lt_of_le ha (Nat.pow_le_pow_right (by decide) (by omega)))
/-- What cubeOf answers of a table. -/
def Plain.conV (m h : Nat) : Int := if conT m h = true then (bitN h 0 : Int) else 2
theorem con_same {m h : Nat} (hm : m ≤ 5) (hh : h < 2 ^ 2 ^ m) : conT m h = true ↔ ∀ z, z < 2 ^ m → bitN h z = bitN h 0 := by
  have hf : h ≤ fullN m := by unfold fullN; omega
  have hp := Nat.two_pow_pos m
  constructor
  · intro hc z hz
    by_cases h0 : h = 0
    · subst h0; unfold Plain.bitN; rw [Nat.zero_div, Nat.zero_div]
    · rw [← conT_pos hm hf h0] at hc
      have : h = fullN m := by have := beq_iff_eq.1 hc; omega
      subst this
      rw [full_bit hz, full_bit hp]
  · intro hs
    by_cases h0 : h = 0
    · subst h0; exact conT_zero hm
    · rw [← conT_pos hm hf h0, beq_iff_eq]
      rcases bitN_cases h 0 with hb | hb
      · exact absurd (eq_zero hh fun z hz => (hs z hz).trans hb) h0
      · rw [eq_full hh fun z hz => (hs z hz).trans hb]
theorem cub_one {n a i b : Nat} (hn : n ≤ 5) (hi : i < n) (hb : b < 2) : cubV n a (2 ^ i) (b * 2 ^ i) = conV (n - 1) (restW n a i b) := by
  have h0 : bitN (restW n a i b) 0 = bitN a (b * 2 ^ i) := by rw [restW_bit (Nat.two_pow_pos _), ins_zero]
  unfold conV
  cases hc : conT ((n - 1 : Nat) : Int) (restW n a i b) with
  | true =>
    rw [if_pos rfl, h0]
    refine cubV_same ?_
    rw [Bool.eq_false_iff]
    intro hx
    obtain ⟨z, hz, hne⟩ := (cub_mix hn hi hb).1 hx
    exact hne ((con_same (m := n - 1) (h := restW n a i b) (by omega) (tabN_lt _ _)).1 hc z hz)
  | false =>
    rw [if_neg (by decide)]
    refine cubV_mixed ((cub_mix hn hi hb).2 ?_)
    have hnot : ¬ ∀ z, z < 2 ^ (n - 1) → bitN (restW n a i b) z = bitN (restW n a i b) 0 := fun h => by
      rw [(con_same (m := n - 1) (h := restW n a i b) (by omega) (tabN_lt _ _)).2 h] at hc; cases hc
    simpa using hnot

/-! Reduced tables -/
theorem dep_iff {n a j : Nat} : depW n a j = true ↔ ∃ x, x < 2 ^ (n - 1) ∧ bitN a (insN x j 0) ≠ bitN a (insN x j 1) := by
  constructor
  · intro h
    have hne := depW_true h
    refine Classical.byContradiction fun hno => hne (tabN_congr fun x hx => ?_)
    exact Classical.byContradiction fun hc => hno ⟨x, hx, hc⟩
  · rintro ⟨x, hx, hne⟩
    refine decide_eq_true fun he => hne ?_
    exact tabN_same he (fun _ _ => bitN_any) (fun _ _ => bitN_any) x hx
theorem dep_not {n a i z : Nat} (h : depW n a i = false) (hz : z < 2 ^ (n - 1)) (c : Nat) (hc : c < 2) : bitN a (insN z i c) = bitN a (insN z i 0) := by
  rcases (show c = 0 ∨ c = 1 by omega) with rfl | rfl
  · rfl
  · exact (tabN_same (depW_false h) (fun _ _ => bitN_any) (fun _ _ => bitN_any) z hz).symm
theorem ins_comm_lo : ∀ x, x < 8 → ∀ i, i < 5 → ∀ j, j < i → ∀ b, b < 2 → ∀ c, c < 2 → insN (insN x j b) i c = insN (insN x (i - 1) c) j b := by decide +kernel
theorem ins_comm_hi : ∀ x, x < 8 → ∀ i, i < 5 → ∀ t, t < 4 → ∀ b, b < 2 → ∀ c, c < 2 → insN (insN x (i + t) b) i c = insN (insN x i c) (i + t + 1) b := by decide +kernel
/-- What matters in the restriction to a variable that does not matter. -/
theorem dep_shift {n a i j p q : Nat} (hn : n ≤ 5) (h2 : 2 ≤ n) (hi : i < n) (hd : depW n a i = false) (hj : j < n - 1) (hp : p < n - 1) (hq : q < n)
    (hcomm : ∀ x, x < 8 → ∀ b, b < 2 → ∀ c, c < 2 → insN (insN x j b) i c = insN (insN x p c) q b) : depW (n - 1) (restW n a i 0) j = depW n a q := by
  have hx8 : ∀ x, x < 2 ^ (n - 1 - 1) → x < 8 := fun x hx => by
    have : 2 ^ (n - 1 - 1) ≤ 2 ^ 3 := Nat.pow_le_pow_right (by decide) (by omega)
    omega
  rw [Bool.eq_iff_iff, dep_iff, dep_iff]
  constructor
  · rintro ⟨x, hx, hne⟩
    rw [restW_bit (ins_lt (by omega) hj (by decide) hx), restW_bit (ins_lt (by omega) hj (by decide) hx), hcomm x (hx8 x hx) 0 (by decide) 0 (by decide), hcomm x (hx8 x hx) 1 (by decide) 0 (by decide)] at hne
    exact ⟨insN x p 0, ins_lt (by omega) hp (by decide) hx, hne⟩
  · rintro ⟨y, hy, hne⟩
    have hr := rem_lt (n := n - 1) (by omega) hp hy
    have he := ins_rem (n := n - 1) (by omega) hp hy
    have hc : bitN y p < 2 := bitN_any
    refine ⟨remN y p, hr, ?_⟩
    rw [restW_bit (ins_lt (by omega) hj (by decide) hr), restW_bit (ins_lt (by omega) hj (by decide) hr)]
    rw [← dep_not hd (ins_lt (by omega) hj (by decide) hr) (bitN y p) hc, ← dep_not hd (ins_lt (by omega) hj (by decide) hr) (bitN y p) hc]
    rw [hcomm _ (hx8 _ hr) 0 (by decide) _ hc, hcomm _ (hx8 _ hr) 1 (by decide) _ hc, he]
    exact hne
theorem dep_lo {n a i j : Nat} (hn : n ≤ 5) (hi : i < n) (hd : depW n a i = false) (hj : j < i) : depW (n - 1) (restW n a i 0) j = depW n a j :=
  dep_shift hn (by omega) hi hd (by omega) (p := i - 1) (by omega) (by omega) fun x hx b hb c hc => ins_comm_lo x hx i (by omega) j hj b hb c hc
theorem dep_hi {n a i j : Nat} (hn : n ≤ 5) (hi : i < n) (hd : depW n a i = false) (hj : i ≤ j) (hjn : j + 1 < n) : depW (n - 1) (restW n a i 0) j = depW n a (j + 1) :=
  dep_shift hn (by omega) hi hd (by omega) (p := i) (by omega) (by omega) fun x hx b hb c hc => by
    have h := ins_comm_hi x hx i (by omega) (j - i) (by omega) b hb c hc
    rwa [show i + (j - i) = j by omega] at h

theorem vars_sum (n a k : Nat) : (varsL n a k).length = sumN (fun j => (depW n a j).toNat) k := by
  induction k with
  | zero => rfl
  | succ k ih =>
    show _ = sumN (fun j => (depW n a j).toNat) k + (depW n a k).toNat
    cases h : depW n a k with
    | true => rw [varsL_yes h, List.length_append, ih]; rfl
    | false => rw [varsL_no h, ih]; rfl
theorem sum_skip (f g : Nat → Nat) (i : Nat) (hf : f i = 0) (k : Nat) (hlo : ∀ j, j < i → g j = f j) (hhi : ∀ j, i ≤ j → j < i + k → g j = f (j + 1)) : sumN f (i + 1 + k) = sumN g (i + k) := by
  induction k with
  | zero =>
    show sumN f i + f i = sumN g i
    rw [hf, Nat.add_zero]
    exact sumN_congr fun x hx => (hlo x hx).symm
  | succ k ih =>
    show sumN f (i + 1 + k) + f (i + 1 + k) = sumN g (i + k) + g (i + k)
    rw [ih fun j h1 h2 => hhi j h1 (by omega), hhi (i + k) (by omega) (by omega), show i + k + 1 = i + 1 + k by omega]
theorem vars_rest {n a i : Nat} (hn : n ≤ 5) (hi : i < n) (hd : depW n a i = false) : (varsL (n - 1) (restW n a i 0) (n - 1)).length = (varsL n a n).length := by
  rw [vars_sum, vars_sum]
  have := sum_skip (fun j => (depW n a j).toNat) (fun j => (depW (n - 1) (restW n a i 0) j).toNat) i (by show (depW n a i).toNat = 0; rw [hd]; rfl) (n - 1 - i)
    (fun j hj => by show (depW _ _ j).toNat = _; rw [dep_lo hn hi hd hj]) (fun j h1 h2 => by show (depW _ _ j).toNat = _; rw [dep_hi hn hi hd h1 (by omega)])
  rw [show i + 1 + (n - 1 - i) = n by omega, show i + (n - 1 - i) = n - 1 by omega] at this
  exact this.symm
theorem vars_all (n a k : Nat) (h : ∀ j, j < k → depW n a j = true) : (varsL n a k).length = k := by
  induction k with
  | zero => rfl
  | succ k ih => rw [varsL_yes (h k (by omega)), List.length_append, ih fun j hj => h j (by omega)]; rfl
/-- A reduced table has the variables that matter, and all of its variables do. -/
theorem red_all : ∀ (i n a : Nat), n ≤ 5 → i ≤ n → (∀ j, i ≤ j → j < n → depW n a j = true) →
    (redS i n a).1 = (varsL n a n).length ∧ (redS i n a).1 ≤ 5 ∧ ∀ j, j < (redS i n a).1 → depW (redS i n a).1 (redS i n a).2 j = true := by
  intro i
  induction i with
  | zero =>
    intro n a hn _ hall
    exact ⟨(vars_all n a n fun j hj => hall j (by omega) hj).symm, hn, fun j hj => hall j (by omega) hj⟩
  | succ i ih =>
    intro n a hn hi hall
    cases hd : depW n a i with
    | true =>
      rw [redS_yes hd]
      refine ih n a hn (by omega) fun j h1 h2 => ?_
      rcases (show j = i ∨ i + 1 ≤ j by omega) with rfl | h
      · exact hd
      · exact hall j h h2
    | false =>
      rw [redS_no hd, ← vars_rest hn (by omega) hd]
      refine ih (n - 1) (restW n a i 0) (by omega) (by omega) fun j h1 h2 => ?_
      rw [dep_hi hn (by omega) hd h1 (by omega)]
      exact hall (j + 1) (by omega) (by omega)
end Go.Proofs.Ytecakbjcnabpnaa
