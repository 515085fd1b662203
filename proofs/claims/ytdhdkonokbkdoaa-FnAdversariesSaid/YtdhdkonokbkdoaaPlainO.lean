/-
  Plain mathematics of orders of variables: lists that contain each variable once.
-/
import Derived.Test.YtdhdkonokbkdoaaPlainR
namespace Go.Proofs.Ytdhdkonokbkdoaa
open Plain Go.RowKit
set_option linter.unusedVariables false

/-- Does the list contain each of n variables once? As the model asks it: in range, no two alike, n of them. -/
def Plain.inR (n : Nat) (x : Int) : Bool := decide (0 ≤ x ∧ x < (n : Int))
def Plain.permB (l : List Int) (n : Nat) : Bool := decide (l.length = n ∧ (∀ i, i < l.length → inR n (l.getD i 0) = true) ∧ ∀ i, i < l.length → ∀ k, k < i → l.getD k 0 ≠ l.getD i 0)
theorem permB_iff {l : List Int} {n : Nat} : permB l n = true ↔ l.length = n ∧ (∀ i, i < l.length → inR n (l.getD i 0) = true) ∧ ∀ i, i < l.length → ∀ k, k < i → l.getD k 0 ≠ l.getD i 0 := decide_eq_true_iff
theorem inR_iff {n : Nat} {x : Int} : inR n x = true ↔ 0 ≤ x ∧ x < (n : Int) := decide_eq_true_iff

def Plain.pAt (l : List Int) (i : Nat) : Nat := (l.getD i 0).toNat
theorem pAt_int {l : List Int} {n i : Nat} (h : inR n (l.getD i 0) = true) : (pAt l i : Int) = l.getD i 0 ∧ pAt l i < n := by
  have := inR_iff.1 h
  unfold Plain.pAt
  omega

theorem sur2 : ∀ a, a < 2 → ∀ b, b < 2 → a ≠ b → ∀ j, j < 2 → j = a ∨ j = b := by decide
theorem sur3 (a : Nat) (ha : a < 3) (b : Nat) (hb : b < 3) (ab : a ≠ b) (c : Nat) (hc : c < 3) (ac : a ≠ c) (bc : b ≠ c) (j : Nat) (hj : j < 3) : j = a ∨ j = b ∨ j = c := by omega
def Plain.chk4 : Bool := (List.range 4).all fun a => (List.range 4).all fun b => a == b || ((List.range 4).all fun c => a == c || (b == c || ((List.range 4).all fun d => a == d || (b == d || (c == d || ((List.range 4).all fun j => j == a || (j == b || (j == c || j == d))))))))
theorem chk4_yes : chk4 = true := by decide +kernel
theorem sur4 (a : Nat) (ha : a < 4) (b : Nat) (hb : b < 4) (ab : a ≠ b) (c : Nat) (hc : c < 4) (ac : a ≠ c) (bc : b ≠ c) (d : Nat) (hd : d < 4) (ad : a ≠ d) (bd : b ≠ d) (cd : c ≠ d) (j : Nat) (hj : j < 4) : j = a ∨ j = b ∨ j = c ∨ j = d := by
  have h := chk4_yes
  simp only [Plain.chk4, List.all_eq_true, List.mem_range, Bool.or_eq_true, beq_iff_eq] at h
  exact ((((((h a ha b hb).resolve_left ab c hc).resolve_left ac).resolve_left bc d hd).resolve_left ad).resolve_left bd).resolve_left cd j hj
def Plain.chk5 : Bool := (List.range 5).all fun a => (List.range 5).all fun b => a == b || ((List.range 5).all fun c => a == c || (b == c || ((List.range 5).all fun d => a == d || (b == d || (c == d || ((List.range 5).all fun e => a == e || (b == e || (c == e || (d == e || ((List.range 5).all fun j => j == a || (j == b || (j == c || (j == d || j == e)))))))))))))
theorem chk5_yes : chk5 = true := by decide +kernel
theorem sur5 (a : Nat) (ha : a < 5) (b : Nat) (hb : b < 5) (ab : a ≠ b) (c : Nat) (hc : c < 5) (ac : a ≠ c) (bc : b ≠ c) (d : Nat) (hd : d < 5) (ad : a ≠ d) (bd : b ≠ d) (cd : c ≠ d) (e : Nat) (he : e < 5) (ae : a ≠ e) (be : b ≠ e) (ce : c ≠ e) (de : d ≠ e) (j : Nat) (hj : j < 5) : j = a ∨ j = b ∨ j = c ∨ j = d ∨ j = e := by
  have h := chk5_yes
  simp only [Plain.chk5, List.all_eq_true, List.mem_range, Bool.or_eq_true, beq_iff_eq] at h
  exact ((((((((((h a ha b hb).resolve_left ab c hc).resolve_left ac).resolve_left bc d hd).resolve_left ad).resolve_left bd).resolve_left cd e he).resolve_left ae).resolve_left be).resolve_left ce).resolve_left de j hj

/-- p maps the numbers below n to themselves, no two to one: then each is met. -/
theorem sur (p : Nat → Nat) (n : Nat) (hn : n ≤ 5) (h1 : ∀ i, i < n → p i < n) (h2 : ∀ i, i < n → ∀ k, k < i → p k ≠ p i) : ∀ j, j < n → ∃ i, i < n ∧ p i = j := by
  intro j hj
  rcases cases5 n hn with rfl | rfl | rfl | rfl | rfl | rfl
  · omega
  · exact ⟨0, by omega, by have := h1 0 (by omega); omega⟩
  · rcases sur2 (p 0) (h1 0 (by omega)) (p 1) (h1 1 (by omega)) (h2 1 (by omega) 0 (by omega)) j hj with h | h
    · exact ⟨0, by omega, h.symm⟩
    · exact ⟨1, by omega, h.symm⟩
  · rcases sur3 (p 0) (h1 0 (by omega)) (p 1) (h1 1 (by omega)) (h2 1 (by omega) 0 (by omega)) (p 2) (h1 2 (by omega)) (h2 2 (by omega) 0 (by omega)) (h2 2 (by omega) 1 (by omega)) j hj with h | h | h
    · exact ⟨0, by omega, h.symm⟩
    · exact ⟨1, by omega, h.symm⟩
    · exact ⟨2, by omega, h.symm⟩
  · rcases sur4 (p 0) (h1 0 (by omega)) (p 1) (h1 1 (by omega)) (h2 1 (by omega) 0 (by omega)) (p 2) (h1 2 (by omega)) (h2 2 (by omega) 0 (by omega)) (h2 2 (by omega) 1 (by omega)) (p 3) (h1 3 (by omega)) (h2 3 (by omega) 0 (by omega)) (h2 3 (by omega) 1 (by omega)) (h2 3 (by omega) 2 (by omega)) j hj with h | h | h | h
    · exact ⟨0, by omega, h.symm⟩
    · exact ⟨1, by omega, h.symm⟩
    · exact ⟨2, by omega, h.symm⟩
    · exact ⟨3, by omega, h.symm⟩
  · rcases sur5 (p 0) (h1 0 (by omega)) (p 1) (h1 1 (by omega)) (h2 1 (by omega) 0 (by omega)) (p 2) (h1 2 (by omega)) (h2 2 (by omega) 0 (by omega)) (h2 2 (by omega) 1 (by omega)) (p 3) (h1 3 (by omega)) (h2 3 (by omega) 0 (by omega)) (h2 3 (by omega) 1 (by omega)) (h2 3 (by omega) 2 (by omega)) (p 4) (h1 4 (by omega)) (h2 4 (by omega) 0 (by omega)) (h2 4 (by omega) 1 (by omega)) (h2 4 (by omega) 2 (by omega)) (h2 4 (by omega) 3 (by omega)) j hj with h | h | h | h | h
    · exact ⟨0, by omega, h.symm⟩
    · exact ⟨1, by omega, h.symm⟩
    · exact ⟨2, by omega, h.symm⟩
    · exact ⟨3, by omega, h.symm⟩
    · exact ⟨4, by omega, h.symm⟩

/-- How often a number is among the first k of a list. -/
def Plain.cntK (l : List Int) (k : Nat) (j : Int) : Nat := (l.take k).count j
theorem cntK_succ {l : List Int} {k : Nat} (h : k < l.length) (j : Int) : cntK l (k + 1) j = cntK l k j + if l.getD k 0 = j then 1 else 0 := by
  unfold Plain.cntK
  rw [List.take_succ_eq_append_getElem h, List.count_append]
  congr 1
  rw [List.getD_eq_getElem?_getD, List.getElem?_eq_getElem h]
  simp [List.count_cons, List.count_nil]
theorem cntK_le (l : List Int) (k : Nat) (j : Int) : cntK l k j ≤ k := by
  unfold Plain.cntK
  exact Nat.le_trans List.count_le_length (List.length_take_le _ _)
theorem cntK_all (l : List Int) (j : Int) : cntK l l.length j = l.count j := by unfold Plain.cntK; rw [List.take_length]

theorem sum5 (l : List Int) (h : ∀ x ∈ l, 0 ≤ x ∧ x < 5) : l.count 0 + l.count 1 + l.count 2 + l.count 3 + l.count 4 = l.length := by
  induction l with
  | nil => simp
  | cons x l ih =>
    have ih' := ih fun y hy => h y (List.mem_cons_of_mem _ hy)
    have hx := h x (by simp)
    rcases (show x = 0 ∨ x = 1 ∨ x = 2 ∨ x = 3 ∨ x = 4 by omega) with rfl | rfl | rfl | rfl | rfl <;> simp <;> omega

theorem two_count {l : List Int} {i k : Nat} (hi : i < l.length) (hk : k < i) (he : l.getD k 0 = l.getD i 0) : 2 ≤ l.count (l.getD i 0) := by
  have h1 : l.count (l.getD i 0) = (l.take i).count (l.getD i 0) + (l.drop i).count (l.getD i 0) := by
    rw [← List.count_append, List.take_append_drop]
  have h2 : 0 < (l.take i).count (l.getD i 0) := by
    rw [List.count_pos_iff, ← he, List.getD_eq_getElem?_getD, List.getElem?_eq_getElem (by omega)]
    show l[k] ∈ _
    rw [List.mem_take_iff_getElem]
    exact ⟨k, by omega, rfl⟩
  have h3 : 0 < (l.drop i).count (l.getD i 0) := by
    rw [List.count_pos_iff, List.getD_eq_getElem?_getD, List.getElem?_eq_getElem hi, List.drop_eq_getElem_cons hi]
    exact List.mem_cons_self
  omega

theorem mem_getD {l : List Int} {x : Int} (h : x ∈ l) : ∃ i, i < l.length ∧ l.getD i 0 = x := by
  obtain ⟨i, hi, rfl⟩ := List.getElem_of_mem h
  exact ⟨i, hi, by rw [List.getD_eq_getElem?_getD, List.getElem?_eq_getElem hi]; rfl⟩

/-- As the program asks it: each variable is counted once, nothing else is. -/
theorem perm_count (l : List Int) (n : Nat) (hn : n ≤ 5) (hr : ∀ i, i < l.length → inR n (l.getD i 0) = true) :
    permB l n = true ↔ ∀ j : Nat, j < 5 → l.count (j : Int) = if j < n then 1 else 0 := by
  have hmem : ∀ x ∈ l, 0 ≤ x ∧ x < (n : Int) := by
    intro x hx
    obtain ⟨i, hi, rfl⟩ := mem_getD hx
    exact inR_iff.1 (hr i hi)
  have hs := sum5 l fun x hx => by have := hmem x hx; omega
  constructor
  · intro hp
    obtain ⟨hl, _, hd⟩ := permB_iff.1 hp
    have hsur := sur (pAt l) n hn (fun i hi => (pAt_int (hr i (by omega))).2) (fun i hi k hk e => hd i (by omega) k hk (by rw [← (pAt_int (hr k (by omega))).1, ← (pAt_int (hr i (by omega))).1, e]))
    have hpos : ∀ j : Nat, j < n → 0 < l.count (j : Int) := by
      intro j hj
      obtain ⟨i, hi, e⟩ := hsur j hj
      rw [List.count_pos_iff, ← e, (pAt_int (hr i (by omega))).1, List.getD_eq_getElem?_getD, List.getElem?_eq_getElem (by omega)]
      exact List.getElem_mem _
    have hzero : ∀ j : Nat, ¬ j < n → l.count (j : Int) = 0 := by
      intro j hj
      rw [List.count_eq_zero]
      intro hm
      have := hmem _ hm
      omega
    have p0 := hpos 0; have p1 := hpos 1; have p2 := hpos 2; have p3 := hpos 3; have p4 := hpos 4
    have z0 := hzero 0; have z1 := hzero 1; have z2 := hzero 2; have z3 := hzero 3; have z4 := hzero 4
    simp only [Int.cast_ofNat_Int] at p0 p1 p2 p3 p4 z0 z1 z2 z3 z4
    intro j hj
    rcases (show j = 0 ∨ j = 1 ∨ j = 2 ∨ j = 3 ∨ j = 4 by omega) with rfl | rfl | rfl | rfl | rfl <;> simp only [Int.cast_ofNat_Int] <;> split <;> omega
  · intro hc
    have c0 := hc 0 (by omega); have c1 := hc 1 (by omega); have c2 := hc 2 (by omega); have c3 := hc 3 (by omega); have c4 := hc 4 (by omega)
    simp only [Int.cast_ofNat_Int] at c0 c1 c2 c3 c4
    rw [c0, c1, c2, c3, c4] at hs
    refine permB_iff.2 ⟨?_, hr, ?_⟩
    · rcases cases5 n hn with rfl | rfl | rfl | rfl | rfl | rfl <;> simp at hs <;> omega
    · intro i hi k hk e
      have h2 := two_count hi hk e
      have hb := pAt_int (hr i hi)
      rw [← hb.1] at h2
      have := hc (pAt l i) (by omega)
      rw [if_pos hb.2] at this
      omega

/-- What the order p makes of inputs: gathered, scattered. -/
def Plain.gatN (l : List Int) (n : Nat) (y : Nat) : Nat := tabN (fun i => bitN y (pAt l i)) n
def Plain.scaN (l : List Int) (n : Nat) (x : Nat) : Nat := scN (pAt l) (bitN x) n
theorem gat_lt (l : List Int) (n y : Nat) : gatN l n y < 2 ^ n := tabN_lt _ _
theorem sca_lt (l : List Int) (n x : Nat) (h : ∀ i, i < n → pAt l i < n) : scaN l n x < 2 ^ n := scN_lt _ _ _ _ (fun _ _ => bitN_lt _ _) h
theorem gat_sca (l : List Int) (n x : Nat) (hd : ∀ i, i < n → ∀ k, k < n → pAt l k = pAt l i → k = i) (hx : x < 2 ^ n) : gatN l n (scaN l n x) = x := by
  apply Nat.eq_of_testBit_eq
  intro i
  unfold Plain.gatN
  rw [tabN_bit, Bool.eq_iff_iff]
  simp only [decide_eq_true_eq, bitN_one]
  unfold Plain.scaN
  rw [scN_bit _ _ _ _ (fun _ _ => bitN_lt _ _)]
  constructor
  · rintro ⟨hi, k, hk, e, hb⟩
    rw [hd i hi k hk e] at hb
    exact (bitN_one x i).1 hb
  · intro hb
    have hi : i < n := by
      rcases Nat.lt_or_ge i n with h | h
      · exact h
      · rw [Nat.testBit_lt_two_pow (Nat.lt_of_lt_of_le hx (Nat.pow_le_pow_right (by decide) h))] at hb; cases hb
    exact ⟨hi, i, hi, rfl, (bitN_one x i).2 hb⟩
theorem sca_gat (l : List Int) (n z : Nat) (hs : ∀ j, j < n → ∃ i, i < n ∧ pAt l i = j) (hr : ∀ i, i < n → pAt l i < n) (hz : z < 2 ^ n) : scaN l n (gatN l n z) = z := by
  apply Nat.eq_of_testBit_eq
  intro j
  unfold Plain.scaN
  rw [Bool.eq_iff_iff, scN_bit _ _ _ _ (fun _ _ => bitN_lt _ _)]
  constructor
  · rintro ⟨i, hi, rfl, hb⟩
    rw [bitN_one] at hb
    unfold Plain.gatN at hb
    rw [tabN_bit] at hb
    have := of_decide_eq_true hb
    exact (bitN_one _ _).1 this.2
  · intro hb
    have hj : j < n := by
      rcases Nat.lt_or_ge j n with h | h
      · exact h
      · rw [Nat.testBit_lt_two_pow (Nat.lt_of_lt_of_le hz (Nat.pow_le_pow_right (by decide) h))] at hb; cases hb
    obtain ⟨i, hi, e⟩ := hs j hj
    refine ⟨i, hi, e, ?_⟩
    rw [bitN_one]
    unfold Plain.gatN
    rw [tabN_bit]
    exact decide_eq_true ⟨hi, by rw [e]; exact (bitN_one _ _).2 hb⟩

/-- The word of the permuted table. -/
def Plain.perV (a : Nat) (l : List Int) (n : Nat) : Nat → Nat := fun y => bitN a (gatN l n y)
def Plain.perW (n a : Nat) (l : List Int) : Nat := tabN (perV a l n) (2 ^ n)
def Plain.perS (n a : Nat) (l : List Int) : Nat → Nat := scN (scaN l n) (bitN a)
theorem permB_facts {l : List Int} {n : Nat} (hn : n ≤ 5) (h : permB l n = true) :
    l.length = n ∧ (∀ i, i < n → inR n (l.getD i 0) = true) ∧ (∀ i, i < n → pAt l i < n) ∧ (∀ i, i < n → ∀ k, k < n → pAt l k = pAt l i → k = i) ∧ ∀ j, j < n → ∃ i, i < n ∧ pAt l i = j := by
  obtain ⟨hl, hr, hd⟩ := permB_iff.1 h
  have hr' : ∀ i, i < n → inR n (l.getD i 0) = true := fun i hi => hr i (by omega)
  have hne : ∀ i, i < n → ∀ k, k < i → pAt l k ≠ pAt l i := fun i hi k hk e => hd i (by omega) k hk (by rw [← (pAt_int (hr' k (by omega))).1, ← (pAt_int (hr' i hi)).1, e])
  refine ⟨hl, hr', fun i hi => (pAt_int (hr' i hi)).2, fun i hi k hk e => ?_, sur _ n hn (fun i hi => (pAt_int (hr' i hi)).2) hne⟩
  rcases Nat.lt_trichotomy k i with h1 | h1 | h1
  · exact absurd e (hne i hi k h1)
  · exact h1
  · exact absurd e.symm (hne k hk i h1)
theorem perS_lt (n a : Nat) (l : List Int) (k : Nat) (hn : n ≤ 5) (h : permB l n = true) : perS n a l k < 2 ^ 2 ^ n :=
  scN_lt _ _ k _ (fun _ _ => bitN_lt _ _) (fun x hx => sca_lt l n x (permB_facts hn h).2.2.1)
theorem per_eq (n a : Nat) (l : List Int) (hn : n ≤ 5) (h : permB l n = true) : perS n a l (2 ^ n) = perW n a l := by
  obtain ⟨hl, hr, hp, hi, hs⟩ := permB_facts hn h
  exact scN_gather _ (gatN l n) _ _ (fun _ _ => bitN_lt _ _) (fun x hx => sca_lt l n x hp) (fun z hz => gat_lt l n z) (fun x hx => gat_sca l n x hi hx) (fun z hz => sca_gat l n z hs hp hz)
end Go.Proofs.Ytdhdkonokbkdoaa
