/-
  Plain mathematics of classes: lists of variables in order, the words that come from a table, how often each comes.
-/
import Derived.Test.YthdcjldmafhcjaaResH
import Derived.Test.YthdcjldmafhcjaaPlainO
namespace Go.Proofs.Ythdcjldmafhcjaa
open Plain Go.RowKit
set_option linter.unusedVariables false

/-! Orders of variables -/
def Plain.startL (x : Int) (r : List Int) : List Int := x :: r.map (fun i => if i < x then i else i + 1)
def Plain.permsL : Nat → List (List Int)
  | 0 => [[]]
  | n + 1 => (List.range (n + 1)).flatMap fun (x : Nat) => (permsL n).map (startL (x : Int))
def Plain.permsM (n : Nat) : Nat → List Int → List (List Int)
  | 0, p => [p]
  | k + 1, p => (List.range n).flatMap fun (x : Nat) => if p.contains (x : Int) then [] else permsM n k (p ++ [(x : Int)])
theorem lt5 {n : Nat} (h : n ≤ 4) : n = 0 ∨ n = 1 ∨ n = 2 ∨ n = 3 ∨ n = 4 := by omega
theorem perms_same (n : Nat) (h : n ≤ 4) : permsM n n [] = permsL n := by
  rcases lt5 h with rfl | rfl | rfl | rfl | rfl <;> decide +kernel
theorem perms_ok (n : Nat) (h : n ≤ 4) : ∀ p ∈ permsL n, permB p n = true := by
  have h1 : (permsL n).all (fun p => permB p n) = true := by rcases lt5 h with rfl | rfl | rfl | rfl | rfl <;> decide +kernel
  exact fun p hp => List.all_eq_true.1 h1 p hp
theorem perms_len (n : Nat) (h : n ≤ 4) : ((permsL n).length = 1 ∧ n = 0) ∨ ((permsL n).length = 1 ∧ n = 1) ∨ ((permsL n).length = 2 ∧ n = 2) ∨ ((permsL n).length = 6 ∧ n = 3) ∨ ((permsL n).length = 24 ∧ n = 4) := by
  rcases lt5 h with rfl | rfl | rfl | rfl | rfl <;> decide +kernel
theorem perms_le (n : Nat) (h : n ≤ 4) : (permsL n).length ≤ 24 := by
  rcases perms_len n h with h | h | h | h | h <;> omega
/-- One order behind another. -/
def Plain.compL (q p : List Int) : List Int := p.map (fun i => q.getD i.toNat 0)
def Plain.idL (n : Nat) : List Int := (List.range n).map (fun (i : Nat) => (i : Int))
theorem id_in (n : Nat) (h : n ≤ 4) : idL n ∈ permsL n := by
  have : (permsL n).contains (idL n) = true := by rcases lt5 h with rfl | rfl | rfl | rfl | rfl <;> decide +kernel
  exact List.contains_iff_mem.1 this
theorem comp_perm (n : Nat) (h : n ≤ 4) : ∀ q ∈ permsL n, ((permsL n).map (compL q)).Perm (permsL n) := by
  have h1 : (permsL n).all (fun q => ((permsL n).map (compL q)).isPerm (permsL n)) = true := by rcases lt5 h with rfl | rfl | rfl | rfl | rfl <;> decide +kernel
  exact fun q hq => List.isPerm_iff.1 (List.all_eq_true.1 h1 q hq)
theorem sca_perm (n : Nat) (h : n ≤ 4) : ∀ q ∈ permsL n, ((List.range (2 ^ n)).map (scaN q n)).Perm (List.range (2 ^ n)) := by
  have h1 : (permsL n).all (fun q => ((List.range (2 ^ n)).map (scaN q n)).isPerm (List.range (2 ^ n))) = true := by rcases lt5 h with rfl | rfl | rfl | rfl | rfl <;> decide +kernel
  exact fun q hq => List.isPerm_iff.1 (List.all_eq_true.1 h1 q hq)
theorem xor_perm (n : Nat) (h : n ≤ 4) (t : Nat) (ht : t < 2 ^ n) : ((List.range (2 ^ n)).map (fun s => t ^^^ s)).Perm (List.range (2 ^ n)) := by
  have h1 : (List.range (2 ^ n)).all (fun t => ((List.range (2 ^ n)).map (fun s => t ^^^ s)).isPerm (List.range (2 ^ n))) = true := by rcases lt5 h with rfl | rfl | rfl | rfl | rfl <;> decide +kernel
  exact List.isPerm_iff.1 (List.all_eq_true.1 h1 t (List.mem_range.2 ht))

/-! The words that come from one -/
def Plain.wayW (n a : Nat) (p : List Int) (s : Nat) : Nat := shiW n (perW n a p) s
def Plain.pairW (n a : Nat) (p : List Int) (s : Nat) : List Nat := [wayW n a p s, fullN n - wayW n a p s]
def Plain.wayP (n a : Nat) (p : List Int) (k : Nat) : List Nat := (List.range k).flatMap (pairW n a p)
def Plain.waysK (n a i : Nat) : List Nat := ((permsL n).take i).flatMap fun p => wayP n a p (2 ^ n)
def Plain.waysL (n a : Nat) : List Nat := (permsL n).flatMap fun p => wayP n a p (2 ^ n)
theorem wayP_zero (n a : Nat) (p : List Int) : wayP n a p 0 = [] := rfl
theorem wayP_succ (n a : Nat) (p : List Int) (k : Nat) : wayP n a p (k + 1) = wayP n a p k ++ pairW n a p k := by
  unfold wayP; rw [List.range_succ, List.flatMap_append]; simp
theorem waysK_zero (n a : Nat) : waysK n a 0 = [] := rfl
theorem waysK_succ (n a i : Nat) (h : i < (permsL n).length) : waysK n a (i + 1) = waysK n a i ++ wayP n a ((permsL n).getD i []) (2 ^ n) := by
  unfold waysK; rw [List.take_add_one, List.flatMap_append, List.getD_eq_getElem?_getD, List.getElem?_eq_getElem h]; simp
theorem waysK_all (n a : Nat) : waysK n a (permsL n).length = waysL n a := by
  unfold waysK waysL; rw [List.take_length]
theorem wayP_len (n a : Nat) (p : List Int) (k : Nat) : (wayP n a p k).length = 2 * k := by
  induction k with
  | zero => rfl
  | succ k ih => rw [wayP_succ, List.length_append, ih]; simp [pairW]; omega
theorem waysK_len (n a i : Nat) (h : i ≤ (permsL n).length) : (waysK n a i).length = i * (2 * 2 ^ n) := by
  induction i with
  | zero => rw [waysK_zero]; simp
  | succ i ih => rw [waysK_succ n a i (by omega), List.length_append, ih (by omega), wayP_len]; exact (Nat.succ_mul _ _).symm
theorem waysL_len (n a : Nat) : (waysL n a).length = (permsL n).length * (2 * 2 ^ n) := by
  rw [← waysK_all, waysK_len n a _ (Nat.le_refl _)]
theorem way_full (n a : Nat) (p : List Int) (s : Nat) : wayW n a p s ≤ fullN n := tabN_full _ _
theorem pair_full (n a : Nat) (p : List Int) (s w : Nat) (h : w ∈ pairW n a p s) : w ≤ fullN n := by
  simp only [pairW, List.mem_cons, List.not_mem_nil, or_false] at h
  rcases h with rfl | rfl
  · exact way_full _ _ _ _
  · exact Nat.sub_le _ _
theorem ways_full (n a w : Nat) (h : w ∈ waysL n a) : w ≤ fullN n := by
  simp only [waysL, wayP, List.mem_flatMap] at h
  obtain ⟨p, _, s, _, hw⟩ := h
  exact pair_full _ _ _ _ _ hw

/-! A way as one function of the input -/
def Plain.actV (n a : Nat) (p : List Int) (s b : Nat) : Nat → Nat := fun y => (bitN a (gatN p n (y ^^^ s)) + b) % 2
def Plain.act (n a : Nat) (p : List Int) (s b : Nat) : Nat := tabN (actV n a p s b) (2 ^ n)
theorem bit_mod (a x : Nat) : (bitN a x + 0) % 2 = bitN a x := by have := bitN_lt a x; omega
theorem way_act (n a : Nat) (p : List Int) (s : Nat) (hs : s < 2 ^ n) : wayW n a p s = act n a p s 0 := by
  unfold wayW shiW act
  refine tabN_congr fun y hy => ?_
  unfold shiV perW actV
  rw [tabN_bitN (perV a p n) _ _ (Nat.xor_lt_two_pow hy hs) bitN_any, bit_mod]
  rfl
theorem full_act (n a : Nat) (p : List Int) (s : Nat) (hs : s < 2 ^ n) : fullN n - wayW n a p s = act n a p s 1 := by
  rw [way_act n a p s hs]
  apply Nat.eq_of_testBit_eq
  intro i
  unfold fullN act
  have hlt : tabN (actV n a p s 0) (2 ^ n) < 2 ^ 2 ^ n := tabN_lt _ _
  rw [show 2 ^ 2 ^ n - 1 - tabN (actV n a p s 0) (2 ^ n) = 2 ^ 2 ^ n - (tabN (actV n a p s 0) (2 ^ n) + 1) by omega, Nat.testBit_two_pow_sub_succ hlt, tabN_bit, tabN_bit]
  unfold actV
  have := bitN_lt a (gatN p n (i ^^^ s))
  by_cases hi : i < 2 ^ n <;> simp [hi]
  rcases bitN_cases a (gatN p n (i ^^^ s)) with h | h <;> rw [h] <;> decide
theorem pair_act (n a : Nat) (p : List Int) (s : Nat) (hs : s < 2 ^ n) : pairW n a p s = [act n a p s 0, act n a p s 1] := by
  unfold pairW; rw [full_act n a p s hs, way_act n a p s hs]
theorem act_lt (n a : Nat) (p : List Int) (s b : Nat) : act n a p s b < 2 ^ 2 ^ n := tabN_lt _ _
theorem act_bit {n a : Nat} {p : List Int} {s b y : Nat} (hy : y < 2 ^ n) : bitN (act n a p s b) y = (bitN a (gatN p n (y ^^^ s)) + b) % 2 :=
  tabN_bitN (actV n a p s b) _ _ hy (Nat.mod_lt _ (by decide))

/-! gatN goes bit by bit -/
theorem gat_bit (l : List Int) (n y i : Nat) : (gatN l n y).testBit i = (decide (i < n) && y.testBit (pAt l i)) := by
  unfold gatN
  rw [tabN_bit, Bool.eq_iff_iff]
  simp only [decide_eq_true_eq, Bool.and_eq_true, bitN_one]
theorem gat_xor (l : List Int) (n x y : Nat) : gatN l n (x ^^^ y) = gatN l n x ^^^ gatN l n y := by
  apply Nat.eq_of_testBit_eq
  intro i
  rw [Nat.testBit_xor, gat_bit, gat_bit, gat_bit, Nat.testBit_xor]
  cases decide (i < n) <;> simp
theorem comp_at (q p : List Int) (i : Nat) (h : i < p.length) : pAt (compL q p) i = pAt q (pAt p i) := by
  unfold pAt compL
  simp [List.getD_eq_getElem?_getD, List.getElem?_map, List.getElem?_eq_getElem h]
theorem gat_comp {n : Nat} {q p : List Int} (hp : p.length = n) (hr : ∀ i, i < n → pAt p i < n) (y : Nat) : gatN p n (gatN q n y) = gatN (compL q p) n y := by
  apply Nat.eq_of_testBit_eq
  intro i
  rw [gat_bit, gat_bit, gat_bit]
  by_cases hi : i < n
  · rw [comp_at q p i (by omega)]; simp [hi, hr i hi]
  · simp [hi]
theorem act_act {n a : Nat} (hn : n ≤ 4) {p q : List Int} {s t b c : Nat} (hp : p ∈ permsL n) (hq : q ∈ permsL n) (hs : s < 2 ^ n) (ht : t < 2 ^ n) :
    act n (act n a p s b) q t c = act n a (compL q p) (t ^^^ scaN q n s) ((b + c) % 2) := by
  obtain ⟨pl, _, pr, _, _⟩ := permB_facts (by omega) (perms_ok n hn p hp)
  obtain ⟨_, _, qr, qi, _⟩ := permB_facts (by omega) (perms_ok n hn q hq)
  have e := gat_sca q n s qi hs
  unfold act
  refine tabN_congr fun y hy => ?_
  show (bitN (act n a p s b) (gatN q n (y ^^^ t)) + c) % 2 = (bitN a (gatN (compL q p) n (y ^^^ (t ^^^ scaN q n s))) + (b + c) % 2) % 2
  rw [act_bit (gat_lt _ _ _), ← gat_comp pl pr]
  have e2 : gatN q n (y ^^^ t) ^^^ s = gatN q n (y ^^^ (t ^^^ scaN q n s)) := by
    rw [← Nat.xor_assoc, gat_xor q n (y ^^^ t), e]
  rw [e2]
  omega
theorem act_inj {n a a' : Nat} (hn : n ≤ 4) {q : List Int} {t c : Nat} (hq : q ∈ permsL n) (ht : t < 2 ^ n) (ha : a < 2 ^ 2 ^ n) (ha' : a' < 2 ^ 2 ^ n) (h : act n a q t c = act n a' q t c) : a = a' := by
  obtain ⟨_, _, qr, qi, _⟩ := permB_facts (by omega) (perms_ok n hn q hq)
  rw [← tabN_self a (2 ^ n) ha, ← tabN_self a' (2 ^ n) ha']
  refine tabN_congr fun z hz => ?_
  have hy : scaN q n z ^^^ t < 2 ^ n := Nat.xor_lt_two_pow (sca_lt q n z qr) ht
  have e1 := act_bit (a := a) (p := q) (s := t) (b := c) hy
  have e2 := act_bit (a := a') (p := q) (s := t) (b := c) hy
  rw [h] at e1
  rw [xor_back, gat_sca q n z qi hz] at e1 e2
  have := bitN_lt a z
  have := bitN_lt a' z
  omega

/-! How often a word comes -/
def Plain.hitB (n a w : Nat) (p : List Int) (s : Nat) : Nat := (pairW n a p s).count w
theorem count_flat {α : Type} (f : α → List Nat) (w : Nat) (l : List α) : (l.flatMap f).count w = (l.map (fun x => (f x).count w)).sum := by
  induction l with
  | nil => rfl
  | cons x l ih => rw [List.flatMap_cons, List.count_append, ih, List.map_cons, List.sum_cons]
theorem perm_sum {l m : List Nat} (h : l.Perm m) : l.sum = m.sum := by
  induction h with
  | nil => rfl
  | cons x _ ih => simp [ih]
  | swap x y l => simp; omega
  | trans _ _ ih1 ih2 => exact ih1.trans ih2
def Plain.cntW (n a w : Nat) : Nat := ((permsL n).map fun p => ((List.range (2 ^ n)).map fun s => hitB n a w p s).sum).sum
theorem count_ways (n a w : Nat) : (waysL n a).count w = cntW n a w := by
  unfold waysL cntW
  rw [count_flat]
  congr 1
  refine List.map_congr_left fun p _ => ?_
  unfold wayP
  rw [count_flat]
  rfl
theorem hit_act {n a : Nat} (hn : n ≤ 4) {p q : List Int} {s t c : Nat} (hp : p ∈ permsL n) (hq : q ∈ permsL n) (hs : s < 2 ^ n) (ht : t < 2 ^ n) (hc : c < 2) (ha : a < 2 ^ 2 ^ n) :
    hitB n a (act n a q t c) (compL q p) (t ^^^ scaN q n s) = hitB n a a p s := by
  obtain ⟨_, _, qr, _, _⟩ := permB_facts (by omega) (perms_ok n hn q hq)
  unfold hitB
  rw [pair_act n a _ _ (Nat.xor_lt_two_pow ht (sca_lt q n s qr)), pair_act n a p s hs]
  have key : ∀ b b', b < 2 → b' = (b + c) % 2 → (act n a (compL q p) (t ^^^ scaN q n s) b' = act n a q t c ↔ act n a p s b = a) := by
    rintro b b' hb rfl
    rw [← act_act hn hp hq hs ht]
    exact ⟨fun h => act_inj hn hq ht (act_lt _ _ _ _ _) ha h, fun h => by rw [h]⟩
  rcases (show c = 0 ∨ c = 1 by omega) with rfl | rfl
  · have k0 := key 0 0 (by decide) rfl
    have k1 := key 1 1 (by decide) rfl
    simp only [List.count_cons, List.count_nil, beq_iff_eq, k0, k1]
  · have k0 := key 0 1 (by decide) rfl
    have k1 := key 1 0 (by decide) rfl
    simp only [List.count_cons, List.count_nil, beq_iff_eq, k0, k1]
    omega
theorem cnt_act {n a : Nat} (hn : n ≤ 4) {q : List Int} {t c : Nat} (hq : q ∈ permsL n) (ht : t < 2 ^ n) (hc : c < 2) (ha : a < 2 ^ 2 ^ n) :
    cntW n a (act n a q t c) = cntW n a a := by
  unfold cntW
  have h1 : (((permsL n).map (compL q)).map fun p => ((List.range (2 ^ n)).map fun s => hitB n a (act n a q t c) p s).sum).sum = ((permsL n).map fun p => ((List.range (2 ^ n)).map fun s => hitB n a (act n a q t c) p s).sum).sum :=
    perm_sum ((comp_perm n hn q hq).map _)
  rw [← h1, List.map_map]
  congr 1
  refine List.map_congr_left fun p hp => ?_
  have h2 : ((((List.range (2 ^ n)).map (scaN q n)).map (fun s => t ^^^ s)).map fun s => hitB n a (act n a q t c) (compL q p) s).sum = ((List.range (2 ^ n)).map fun s => hitB n a (act n a q t c) (compL q p) s).sum :=
    perm_sum ((((sca_perm n hn q hq).map _).trans (xor_perm n hn t ht)).map _)
  show ((List.range (2 ^ n)).map fun s => hitB n a (act n a q t c) (compL q p) s).sum = _
  rw [← h2, List.map_map, List.map_map]
  congr 1
  refine List.map_congr_left fun s hs => ?_
  exact hit_act hn hp hq (List.mem_range.1 hs) ht hc ha
/-- Each word that comes from one comes as often as that one itself. -/
theorem ways_even {n a : Nat} (hn : n ≤ 4) (ha : a < 2 ^ 2 ^ n) (w : Nat) (hw : w ∈ waysL n a) : (waysL n a).count w = (waysL n a).count a := by
  rw [count_ways, count_ways]
  simp only [waysL, wayP, List.mem_flatMap, List.mem_range] at hw
  obtain ⟨p, hp, s, hs, hw⟩ := hw
  rw [pair_act n a p s hs] at hw
  simp only [List.mem_cons, List.not_mem_nil, or_false] at hw
  rcases hw with rfl | rfl
  · exact cnt_act hn hp hs (by decide) ha
  · exact cnt_act hn hp hs (by decide) ha
theorem id_gat (n y : Nat) (hy : y < 2 ^ n) : gatN (idL n) n y = y := by
  refine (tabN_congr fun i hi => ?_).trans (tabN_self y n hy)
  simp [pAt, idL, List.getD_eq_getElem?_getD, hi]
theorem self_in {n a : Nat} (hn : n ≤ 4) (ha : a < 2 ^ 2 ^ n) : a ∈ waysL n a := by
  have h0 : 0 < 2 ^ n := Nat.pow_pos (by decide)
  have e : wayW n a (idL n) 0 = a := by
    rw [way_act n a _ 0 h0]
    refine (tabN_congr fun y hy => ?_).trans (tabN_self a (2 ^ n) ha)
    show (bitN a (gatN (idL n) n (y ^^^ 0)) + 0) % 2 = bitN a y
    rw [bit_mod, Nat.xor_zero, id_gat n y hy]
  simp only [waysL, wayP, List.mem_flatMap, List.mem_range]
  exact ⟨idL n, id_in n hn, 0, h0, by unfold pairW; rw [e]; simp⟩
/-- A list in which each of some different numbers comes as often. -/
theorem count_total : ∀ (ks : List Nat), ks.Nodup → ∀ (l : List Nat) (c : Nat), (∀ x ∈ l, x ∈ ks) → (∀ x ∈ ks, l.count x = c) → l.length = ks.length * c := by
  intro ks
  induction ks with
  | nil =>
    intro _ l c h _
    cases l with
    | nil => simp
    | cons x l => exact absurd (h x (by simp)) (by simp)
  | cons k ks ih =>
    intro hd l c h hc
    obtain ⟨hk, hd'⟩ := List.nodup_cons.1 hd
    have h1 := ih hd' (l.filter (fun x => x != k)) c (fun x hx => by
        have hx2 := List.mem_filter.1 hx
        rcases List.mem_cons.1 (h x hx2.1) with rfl | h
        · simp at hx2
        · exact h)
      (fun x hx => by
        have hne : x ≠ k := fun e => hk (e ▸ hx)
        rw [List.count_filter (by simpa using hne)]
        exact hc x (List.mem_cons_of_mem _ hx))
    have h2 : l.length = l.count k + (l.filter (fun x => x != k)).length := by
      clear h1 h hc
      induction l with
      | nil => rfl
      | cons x l ih2 =>
        rw [List.count_cons, List.filter_cons]
        by_cases e : x = k
        · simp [e]; omega
        · simp [e]; omega
    rw [h2, h1, hc k (by simp), List.length_cons, Nat.succ_mul]
    omega
/-- How many different words come. -/
theorem ways_size {n a : Nat} (hn : n ≤ 4) (ha : a < 2 ^ 2 ^ n) (ks : List Nat) (hd : ks.Nodup) (hk : ∀ x, x ∈ ks ↔ x ∈ waysL n a) :
    (waysL n a).length = ks.length * (waysL n a).count a :=
  count_total ks hd _ _ (fun x hx => (hk x).2 hx) (fun x hx => ways_even hn ha x ((hk x).1 hx))

/-! The least -/
theorem min_fold (l : List Nat) : ∀ (m : Nat), l.foldl min m ≤ m ∧ (∀ x ∈ l, l.foldl min m ≤ x) ∧ (l.foldl min m = m ∨ l.foldl min m ∈ l) := by
  induction l with
  | nil => intro m; exact ⟨Nat.le_refl _, by simp, .inl rfl⟩
  | cons x l ih =>
    intro m
    obtain ⟨h1, h2, h3⟩ := ih (min m x)
    refine ⟨Nat.le_trans h1 (Nat.min_le_left _ _), ?_, ?_⟩
    · intro y hy
      rcases List.mem_cons.1 hy with rfl | hy
      · exact Nat.le_trans h1 (Nat.min_le_right _ _)
      · exact h2 y hy
    · show l.foldl min (min m x) = m ∨ l.foldl min (min m x) ∈ x :: l
      rcases h3 with h | h
      · rw [h]
        rcases Nat.le_total m x with h | h
        · exact .inl (Nat.min_eq_left h)
        · exact .inr (by rw [Nat.min_eq_right h]; simp)
      · exact .inr (List.mem_cons_of_mem _ h)
def Plain.leastW (n a : Nat) : Nat := (waysL n a).foldl min a
theorem least_full (n a : Nat) (ha : a ≤ fullN n) : leastW n a ≤ fullN n := Nat.le_trans (min_fold _ _).1 ha
/-- Whoever is at most all words that come, and comes (or is the greatest), is the least. -/
theorem least_is {n a m : Nat} (hn : n ≤ 4) (ha : a ≤ fullN n) (h1 : ∀ x ∈ waysL n a, m ≤ x) (h2 : m = fullN n ∨ m ∈ waysL n a) : m = leastW n a := by
  have hlt : a < 2 ^ 2 ^ n := by unfold fullN at ha; have : 0 < 2 ^ 2 ^ n := Nat.pow_pos (by decide); omega
  obtain ⟨g1, g2, g3⟩ := min_fold (waysL n a) a
  have hs := self_in hn hlt
  apply Nat.le_antisymm
  · rcases g3 with h | h
    · show m ≤ (waysL n a).foldl min a
      rw [h]; exact h1 a hs
    · exact h1 _ h
  · rcases h2 with rfl | h
    · exact Nat.le_trans g1 ha
    · exact g2 _ h

/-! What the functions answer -/
def Plain.symT (n a : Int) : Int := if isT n a = true ∧ n ≤ 4 then ((waysL n.toNat a.toNat).count a.toNat : Int) else -1
def Plain.canT (n a : Int) : Int × Int × Bool := if isT n a = true ∧ n ≤ 4 then (n, (leastW n.toNat a.toNat : Int), true) else (0, 0, false)
def Plain.sizT (n a : Int) : Int := if isT n a = true ∧ n ≤ 4 then (((waysL n.toNat a.toNat).length / (waysL n.toNat a.toNat).count a.toNat : Nat) : Int) else -1
theorem symT_yes {n a : Nat} (h : isT n a = true) (hn : n ≤ 4) : symT n a = ((waysL n a).count a : Int) := by
  unfold symT; rw [if_pos ⟨h, by omega⟩]; rfl
theorem symT_no {n a : Int} (h : ¬ (isT n a = true ∧ n ≤ 4)) : symT n a = -1 := if_neg h
theorem canT_yes {n a : Nat} (h : isT n a = true) (hn : n ≤ 4) : canT n a = ((n : Int), (leastW n a : Int), true) := by
  unfold canT; rw [if_pos ⟨h, by omega⟩]; rfl
theorem canT_no {n a : Int} (h : ¬ (isT n a = true ∧ n ≤ 4)) : canT n a = (0, 0, false) := if_neg h
theorem sizT_yes {n a : Nat} (h : isT n a = true) (hn : n ≤ 4) : sizT n a = (((waysL n a).length / (waysL n a).count a : Nat) : Int) := by
  unfold sizT; rw [if_pos ⟨h, by omega⟩]; rfl
theorem sizT_no {n a : Int} (h : ¬ (isT n a = true ∧ n ≤ 4)) : sizT n a = -1 := if_neg h
theorem count_pos {n a : Nat} (hn : n ≤ 4) (ha : a < 2 ^ 2 ^ n) : 0 < (waysL n a).count a := List.count_pos_iff.2 (self_in hn ha)
end Go.Proofs.Ythdcjldmafhcjaa
