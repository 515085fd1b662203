/-
  Plain mathematics of chapters 7 and 8: a best tree is a tree with the table, no tree asks less, in depth and in sum.
-/
import Derived.Test.YtdhdkonokbkdoaaGreatDoorPlainI
import Derived.Test.YtdhdkonokbkdoaaGreatDoorLdM
import Derived.Test.YtdhdkonokbkdoaaGreatDoorTreN
import Derived.Test.YtdhdkonokbkdoaaGreatDoorBtN
import Derived.Test.YtdhdkonokbkdoaaGreatDoorEva
namespace Go.Proofs.YtdhdkonokbkdoaaGreatDoor
open Go.RowKit Plain
set_option linter.unusedVariables false

/-- The height of a tree. -/
def Plain.hgtD : DT → Nat
  | .val _ => 0
  | .ask _ l r => max (hgtD l) (hgtD r) + 1
theorem num_hgt (T : DT) (x : Nat) : numD T x ≤ hgtD T := by
  induction T with
  | val b => exact Nat.zero_le _
  | ask i l r ihl ihr =>
    unfold numD hgtD
    split <;> omega
theorem hgt_hit (T : DT) : ∀ a y, y < 32 → okD a T = true → ∃ x, x < 32 ∧ (∀ j, a.testBit j = true → x.testBit j = y.testBit j) ∧ numD T x = hgtD T := by
  induction T with
  | val b => intro a y hy _; exact ⟨y, hy, fun _ _ => rfl, rfl⟩
  | ask i l r ihl ihr =>
    intro a y hy ho
    obtain ⟨hb, h1, h2⟩ := okD_ask.1 ho
    have hi : i.val < 5 := i.isLt
    have h2i : 2 ^ i.val < 2 ^ 5 := Nat.pow_lt_pow_right (by decide) hi
    have hself : (withD a i).testBit i.val = true := by unfold withD; rw [Nat.testBit_or, Nat.testBit_two_pow]; simp
    have hkeep : ∀ j, a.testBit j = true → (withD a i).testBit j = true ∧ j ≠ i.val := by
      intro j hj
      refine ⟨by unfold withD; rw [Nat.testBit_or, hj]; rfl, fun e => ?_⟩
      rw [e, hb] at hj; cases hj
    by_cases hlr : hgtD l ≤ hgtD r
    · obtain ⟨x, hx, hag, hn⟩ := ihr (withD a i) (y ||| 2 ^ i.val) (Nat.or_lt_two_pow (n := 5) hy h2i) h2
      have hxi : x.testBit i.val = true := by rw [hag _ hself, Nat.testBit_or, Nat.testBit_two_pow]; simp
      refine ⟨x, hx, fun j hj => ?_, ?_⟩
      · rw [hag j (hkeep j hj).1, Nat.testBit_or, Nat.testBit_two_pow, decide_eq_false (fun e => (hkeep j hj).2 e.symm), Bool.or_false]
      · unfold numD hgtD
        rw [if_pos hxi, hn]
        omega
    · obtain ⟨x, hx, hag, hn⟩ := ihl (withD a i) (y ^^^ (y &&& 2 ^ i.val)) (Nat.xor_lt_two_pow (n := 5) hy (Nat.lt_of_le_of_lt Nat.and_le_left hy)) h1
      have hxi : x.testBit i.val = false := by
        rw [hag _ hself, Nat.testBit_xor, Nat.testBit_and, Nat.testBit_two_pow]
        cases y.testBit i.val <;> simp
      refine ⟨x, hx, fun j hj => ?_, ?_⟩
      · rw [hag j (hkeep j hj).1, Nat.testBit_xor, Nat.testBit_and, Nat.testBit_two_pow, decide_eq_false (fun e => (hkeep j hj).2 e.symm), Bool.and_false, Bool.xor_false]
      · unfold numD hgtD
        rw [if_neg (by rw [hxi]; decide), hn]
        omega
theorem depK_le (T : DT) (k : Nat) : depK T k ≤ hgtD T := by
  induction k with
  | zero => exact Nat.zero_le _
  | succ k ih => have := num_hgt T k; unfold depK; omega
theorem depK_ge (T : DT) (k : Nat) : ∀ x, x < k → numD T x ≤ depK T k := by
  induction k with
  | zero => intro x hx; omega
  | succ k ih =>
    intro x hx
    unfold depK
    rcases (show x < k ∨ x = k by omega) with h | rfl
    · have := ih x h; omega
    · omega
/-- The depth of a tree is its height. -/
theorem dep_hgt {T : DT} (h : okD 0 T = true) : depK T 32 = hgtD T := by
  obtain ⟨x, hx, _, hn⟩ := hgt_hit T 0 0 (by decide) h
  have h1 := depK_ge T 32 x hx
  have h2 := depK_le T 32
  omega

/-- Only letters below n. -/
def Plain.lowD (n : Nat) : DT → Bool
  | .val _ => true
  | .ask i l r => decide (i.val < n) && lowD n l && lowD n r
theorem low_ask {n : Nat} {i : Fin 5} {l r : DT} : lowD n (.ask i l r) = true ↔ i.val < n ∧ lowD n l = true ∧ lowD n r = true := by
  simp [lowD, and_assoc]
theorem bigL_con : ∀ m, m < 6 → ∀ b, bigL m (conC b) = false := by decide
theorem bigL_var : ∀ m, m < 6 → ∀ i : Fin 5, bigL m (letC i) = !decide (i.val < m) := by decide
theorem low_any (m : Nat) (hm : m ≤ 5) (T : DT) : (txtD T).any (bigL m) = !lowD m T := by
  induction T with
  | val b => simp [txtD, lowD, bigL_con m (by omega) b]
  | ask i l r ihl ihr =>
    simp only [txtD, List.any_cons, List.any_append, lowD]
    rw [ihl, ihr, bigL_var m (by omega) i]
    cases decide (i.val < m) <;> cases lowD m l <;> cases lowD m r <;> rfl

/-- What holds on a subcube: the tree has the values of the table there. -/
def Plain.onC (n a M V : Nat) (T : DT) : Prop := ∀ x, x < 2 ^ n → x &&& M = V → valD T x = bitN a x

theorem sub_at {x M V i : Nat} (h : x &&& (M ||| 2 ^ i) = V) (hV : V &&& M = V) (hb : M.testBit i = false) : x &&& M = V ∧ x.testBit i = false := by
  have hbit : ∀ j, (x.testBit j && (M.testBit j || decide (i = j))) = V.testBit j := by
    intro j; rw [← h, Nat.testBit_and, Nat.testBit_or, Nat.testBit_two_pow]
  have hsub : ∀ j, (V.testBit j && M.testBit j) = V.testBit j := by intro j; rw [← Nat.testBit_and, hV]
  constructor
  · refine Nat.eq_of_testBit_eq fun j => ?_
    rw [Nat.testBit_and]
    have h1 := hbit j
    have h2 := hsub j
    revert h1 h2
    cases x.testBit j <;> cases M.testBit j <;> cases V.testBit j <;> cases decide (i = j) <;> decide
  · have h1 := hbit i
    have h2 := hsub i
    rw [hb] at h1 h2
    rw [decide_eq_true rfl] at h1
    revert h1 h2
    cases x.testBit i <;> cases V.testBit i <;> decide
theorem sub_at1 {x M V i : Nat} (h : x &&& (M ||| 2 ^ i) = V ||| 2 ^ i) (hV : V &&& M = V) (hb : M.testBit i = false) : x &&& M = V ∧ x.testBit i = true := by
  have hbit : ∀ j, (x.testBit j && (M.testBit j || decide (i = j))) = (V.testBit j || decide (i = j)) := by
    intro j
    have := congrArg (fun z => z.testBit j) h
    simpa only [Nat.testBit_and, Nat.testBit_or, Nat.testBit_two_pow] using this
  have hsub : ∀ j, (V.testBit j && M.testBit j) = V.testBit j := by intro j; rw [← Nat.testBit_and, hV]
  have hi := hbit i
  rw [decide_eq_true rfl, Bool.or_true, Bool.or_true, Bool.and_true] at hi
  refine ⟨Nat.eq_of_testBit_eq fun j => ?_, hi⟩
  rw [Nat.testBit_and]
  by_cases e : i = j
  · subst e
    rw [hb, Bool.and_false]
    have h2 := hsub i
    rw [hb, Bool.and_false] at h2
    exact h2
  · have h1 := hbit j
    have h2 := hsub j
    rw [decide_eq_false e] at h1
    revert h1 h2
    cases x.testBit j <;> cases M.testBit j <;> cases V.testBit j <;> decide
theorem sub_more {x M V i : Nat} (h : x &&& M = V) : x &&& (M ||| 2 ^ i) = if x.testBit i = true then V ||| 2 ^ i else V := by
  refine Nat.eq_of_testBit_eq fun j => ?_
  have h1 : (x.testBit j && M.testBit j) = V.testBit j := by rw [← Nat.testBit_and, h]
  rw [Nat.testBit_and, Nat.testBit_or, Nat.testBit_two_pow]
  by_cases hx : x.testBit i = true
  · rw [if_pos hx, Nat.testBit_or, Nat.testBit_two_pow]
    by_cases e : i = j
    · subst e; rw [hx]; simp
    · rw [decide_eq_false e, Bool.or_false, Bool.or_false, h1]
  · rw [if_neg hx]
    by_cases e : i = j
    · subst e
      have hx' : x.testBit i = false := by simpa using hx
      rw [hx'] at h1 ⊢
      simpa using h1
    · rw [decide_eq_false e, Bool.or_false, h1]

theorem onC_l {n a M V : Nat} {i : Fin 5} {l r : DT} (h : onC n a M V (.ask i l r)) (hV : V &&& M = V) (hb : M.testBit i.val = false) : onC n a (M ||| 2 ^ i.val) V l := by
  intro x hx he
  obtain ⟨e1, e2⟩ := sub_at he hV hb
  have := h x hx e1
  rwa [show valD (.ask i l r) x = valD l x from if_neg (by rw [e2]; decide)] at this
theorem onC_r {n a M V : Nat} {i : Fin 5} {l r : DT} (h : onC n a M V (.ask i l r)) (hV : V &&& M = V) (hb : M.testBit i.val = false) : onC n a (M ||| 2 ^ i.val) (V ||| 2 ^ i.val) r := by
  intro x hx he
  obtain ⟨e1, e2⟩ := sub_at1 he hV hb
  have := h x hx e1
  rwa [show valD (.ask i l r) x = valD r x from if_pos e2] at this
theorem onC_val {n a M V : Nat} {b : Bool} (h : onC n a M V (.val b)) (hM : M < 2 ^ n) (hV : V &&& M = V) : cubV n a M V < 2 := by
  have hx : cubX a M V (2 ^ n) = false := by
    cases hc : cubX a M V (2 ^ n) with
    | false => rfl
    | true =>
      obtain ⟨x, h1, h2, h3⟩ := (cubX_iff a M V (2 ^ n)).1 hc
      have e1 := h x h1 h2
      have e2 := h V (sub_le hM hV) hV
      exact absurd (e1.symm.trans e2) h3
  rw [cubV_same hx]
  have := bitN_lt a V
  omega

/-- No tree is lower. -/
theorem opt_depth {n a : Nat} (hn : n ≤ 4) (T : DT) : ∀ M V, M < 2 ^ n → V &&& M = V → okD M T = true → lowD n T = true → onC n a M V T → mdl JD 10 n a (cntN n M) M V ≤ hgtD T := by
  induction T with
  | val b => intro M V hM hV _ _ h; rw [mdl_con (onC_val h hM hV)]; exact Nat.zero_le _
  | ask i l r ihl ihr =>
    intro M V hM hV ho hl h
    obtain ⟨hb, h1, h2⟩ := okD_ask.1 ho
    obtain ⟨hi, hl1, hl2⟩ := low_ask.1 hl
    obtain ⟨k, hk⟩ : ∃ k, cntN n M = k + 1 := by
      obtain ⟨j, hj, _⟩ := (sub_ok n M V hn hM hV).all i.val hi hb
      exact ⟨cntN n M - 1, by omega⟩
    obtain ⟨p1, p2, p3, p4⟩ := place_more hn hM hV hk hi hb
    have q1 := ihl _ V p1 p3 h1 hl1 (onC_l h hV hb)
    have q2 := ihr _ _ p1 p4 h2 hl2 (onC_r h hV hb)
    rw [p2] at q1 q2
    rw [hk]
    by_cases hc : cubV n a M V < 2
    · rw [mdl_con hc]; exact Nat.zero_le _
    · rw [mdl_step hc]
      have := (mnF_spec M (fun i => JD (k + 1) (mdl JD 10 n a k (M ||| 2 ^ i) V) (mdl JD 10 n a k (M ||| 2 ^ i) (V ||| 2 ^ i))) 10 n).2.1 i.val hi hb
      refine Nat.le_trans this ?_
      show 1 + max _ _ ≤ max (hgtD l) (hgtD r) + 1
      omega

/-- Sums over the inputs. -/
def Plain.sumN (f : Nat → Nat) : Nat → Nat
  | 0 => 0
  | k + 1 => sumN f k + f k
theorem sumN_congr {f g : Nat → Nat} {k : Nat} (h : ∀ x, x < k → f x = g x) : sumN f k = sumN g k := by
  induction k with
  | zero => rfl
  | succ k ih => unfold sumN; rw [ih fun x hx => h x (by omega), h k (by omega)]
theorem sumN_add (f g : Nat → Nat) (k : Nat) : sumN (fun x => f x + g x) k = sumN f k + sumN g k := by
  induction k with
  | zero => rfl
  | succ k ih => unfold sumN; rw [ih]; omega
def Plain.cubS (f : Nat → Nat) (n M V : Nat) : Nat := sumN (fun x => if x &&& M = V then f x else 0) (2 ^ n)
def Plain.chkC : Bool := (List.range 5).all fun n => (List.range (2 ^ n)).all fun m => (List.range (2 ^ n)).all fun v => !(v &&& m == v) || (cubS (fun _ => 1) n m v == 2 ^ cntN n m)
theorem chkC_yes : chkC = true := by decide +kernel
theorem cub_size {n M V : Nat} (hn : n ≤ 4) (hM : M < 2 ^ n) (hV : V &&& M = V) : cubS (fun _ => 1) n M V = 2 ^ cntN n M := by
  have h := chkC_yes
  unfold Plain.chkC at h
  have h1 := all_range.1 (all_range.1 (all_range.1 h n (by omega)) M hM) V (sub_le hM hV)
  rw [hV] at h1
  simpa using h1
theorem cub_split {n M V : Nat} {i : Fin 5} {l r : DT} (hV : V &&& M = V) (hb : M.testBit i.val = false) :
    cubS (numD (.ask i l r)) n M V = cubS (fun _ => 1) n M V + cubS (numD l) n (M ||| 2 ^ i.val) V + cubS (numD r) n (M ||| 2 ^ i.val) (V ||| 2 ^ i.val) := by
  unfold Plain.cubS
  rw [← sumN_add, ← sumN_add]
  refine sumN_congr fun x _ => ?_
  have hVi : V.testBit i.val = false := by
    have : (V.testBit i.val && M.testBit i.val) = V.testBit i.val := by rw [← Nat.testBit_and, hV]
    rw [hb, Bool.and_false] at this; exact this.symm
  have hne : V ||| 2 ^ i.val ≠ V := by
    intro e
    have := congrArg (fun z => z.testBit i.val) e
    simp only [Nat.testBit_or, Nat.testBit_two_pow, hVi] at this
    simp at this
  by_cases h : x &&& M = V
  · rw [if_pos h, if_pos h, sub_more (i := i.val) h]
    by_cases hx : x.testBit i.val = true
    · rw [if_pos hx, if_neg hne, if_pos rfl, show numD (.ask i l r) x = (if x.testBit i.val then numD r x else numD l x) + 1 from rfl, if_pos hx]
      try dsimp only
      omega
    · rw [if_neg hx, if_pos rfl, if_neg (fun e => hne e.symm), show numD (.ask i l r) x = (if x.testBit i.val then numD r x else numD l x) + 1 from rfl, if_neg hx]
      try dsimp only
      omega
  · have e1 : ¬ x &&& (M ||| 2 ^ i.val) = V := fun e => h (sub_at e hV hb).1
    have e2 : ¬ x &&& (M ||| 2 ^ i.val) = V ||| 2 ^ i.val := fun e => h (sub_at1 e hV hb).1
    rw [if_neg h, if_neg h, if_neg e1, if_neg e2]

/-- No tree asks less in sum. -/
theorem opt_sum {n a : Nat} (hn : n ≤ 4) (T : DT) : ∀ M V, M < 2 ^ n → V &&& M = V → okD M T = true → lowD n T = true → onC n a M V T → mdl JA 1000 n a (cntN n M) M V ≤ cubS (numD T) n M V := by
  induction T with
  | val b => intro M V hM hV _ _ h; rw [mdl_con (onC_val h hM hV)]; exact Nat.zero_le _
  | ask i l r ihl ihr =>
    intro M V hM hV ho hl h
    obtain ⟨hb, h1, h2⟩ := okD_ask.1 ho
    obtain ⟨hi, hl1, hl2⟩ := low_ask.1 hl
    obtain ⟨k, hk⟩ : ∃ k, cntN n M = k + 1 := by
      obtain ⟨j, hj, _⟩ := (sub_ok n M V hn hM hV).all i.val hi hb
      exact ⟨cntN n M - 1, by omega⟩
    obtain ⟨p1, p2, p3, p4⟩ := place_more hn hM hV hk hi hb
    have q1 := ihl _ V p1 p3 h1 hl1 (onC_l h hV hb)
    have q2 := ihr _ _ p1 p4 h2 hl2 (onC_r h hV hb)
    rw [p2] at q1 q2
    rw [cub_split hV hb, cub_size hn hM hV, hk]
    by_cases hc : cubV n a M V < 2
    · rw [mdl_con hc]; exact Nat.zero_le _
    · rw [mdl_step hc]
      have := (mnF_spec M (fun i => JA (k + 1) (mdl JA 1000 n a k (M ||| 2 ^ i) V) (mdl JA 1000 n a k (M ||| 2 ^ i) (V ||| 2 ^ i))) 1000 n).2.1 i.val hi hb
      refine Nat.le_trans this ?_
      show 2 ^ (k + 1) + _ + _ ≤ _
      omega

theorem sum_cub (T : DT) (n : Nat) : cubS (numD T) n 0 0 = sumK T (2 ^ n) := by
  have : ∀ k, sumN (fun x => if x &&& 0 = 0 then numD T x else 0) k = sumK T k := by
    intro k
    induction k with
    | zero => rfl
    | succ k ih => unfold sumN sumK; rw [ih, if_pos (by simp)]
  exact this _
theorem sum_hgt (T : DT) (k : Nat) : sumK T k ≤ hgtD T * k := by
  induction k with
  | zero => exact Nat.zero_le _
  | succ k ih => have := num_hgt T k; unfold sumK; rw [Nat.mul_succ]; omega

/-- A tree with a table asks at least what is needed. -/
theorem opt_tree {n : Nat} {T : DT} (hn : n ≤ 4) (ho : okD 0 T = true) (hl : lowD n T = true) :
    cst JD n (tabN (valD T) (2 ^ n)) ≤ hgtD T ∧ cst JA n (tabN (valD T) (2 ^ n)) ≤ sumK T (2 ^ n) := by
  have hon : onC n (tabN (valD T) (2 ^ n)) 0 0 T := fun x hx _ => (tabN_bitN (valD T) _ _ hx (valD_lt T x)).symm
  have h0 : (0 : Nat) < 2 ^ n := Nat.pow_pos (by decide)
  have hz := (spr_zero n (by omega)).1
  have d := opt_depth hn T 0 0 h0 (by simp) ho hl hon
  have s := opt_sum hn T 0 0 h0 (by simp) ho hl hon
  rw [hz, mdl_whole JD_ok hn (tabN_full _ _) JD_I (by decide)] at d
  rw [hz, mdl_whole JA_ok hn (tabN_full _ _) JA_I (by decide), sum_cub] at s
  exact ⟨d, s⟩

/-- The best tree of a subcube is a tree, with the table, of the least depth. -/
theorem mbs_ok {n a : Nat} (hn : n ≤ 4) (k : Nat) : ∀ m v, m < 2 ^ n → v &&& m = v → cntN n m = k →
    okD m (mbs n a k m v) = true ∧ lowD n (mbs n a k m v) = true ∧ onC n a m v (mbs n a k m v) ∧ hgtD (mbs n a k m v) = mdl JD 10 n a k m v := by
  have hcon : ∀ k m v, m < 2 ^ n → v &&& m = v → cubV n a m v < 2 → okD m (mbs n a k m v) = true ∧ lowD n (mbs n a k m v) = true ∧ onC n a m v (mbs n a k m v) ∧ hgtD (mbs n a k m v) = mdl JD 10 n a k m v := by
    intro k m v hm hv h
    rw [mbs_con h, mdl_con h]
    refine ⟨rfl, rfl, fun x hx he => ?_, rfl⟩
    show (a.testBit v).toNat = bitN a x
    rw [← bitN_test]
    by_cases he2 : bitN a x = bitN a v
    · exact he2.symm
    · have hx2 := (cubX_iff a m v (2 ^ n)).2 ⟨x, hx, he, he2⟩
      rw [cubV_mixed hx2] at h
      exact absurd h (by decide)
  induction k with
  | zero => intro m v hm hv hc; exact hcon 0 m v hm hv (cub_whole hn hm hv hc)
  | succ k ih =>
    intro m v hm hv hc
    by_cases h : cubV n a m v < 2
    · exact hcon (k + 1) m v hm hv h
    · obtain ⟨⟨i1, i2, i3⟩, _⟩ := ask_spec hn hm hv hc h
      rw [mbs_step h]
      generalize askN n a k m v = t at *
      obtain ⟨p1, p2, p3, p4⟩ := place_more hn hm hv hc i1 i2
      obtain ⟨a1, a2, a3, a4⟩ := ih _ v p1 p3 p2
      obtain ⟨b1, b2, b3, b4⟩ := ih _ _ p1 p4 p2
      have hf : (finV t).val = t := finV_val (by omega)
      refine ⟨okD_ask.2 ⟨by rw [hf]; exact i2, by unfold withD; rw [hf]; exact a1, by unfold withD; rw [hf]; exact b1⟩, low_ask.2 ⟨by rw [hf]; exact i1, a2, b2⟩, fun x hx he => ?_, ?_⟩
      · have hm2 := sub_more (i := t) he
        show (if x.testBit (finV t).val then _ else _) = _
        rw [hf]
        by_cases hxt : x.testBit t = true
        · rw [if_pos hxt] at hm2 ⊢
          exact b3 x hx hm2
        · rw [if_neg hxt] at hm2 ⊢
          exact a3 x hx hm2
      · show max _ _ + 1 = _
        rw [a4, b4, ← i3]
        omega

theorem table_word4 {n a : Nat} (hn : n ≤ 4) (ha : a ≤ fullN n) : (a : Int) ≤ 4294967295 := by have := fullN_le n (by omega); omega

theorem lst_mk (l : List UInt8) : lst ⟨l.toArray⟩ = l := by simp [lst]

/-- What the law asks of a best tree. -/
theorem best_law {n a : Int} (h : btB n a = true) : ∃ (s : ByteArray) (N A L K D G : Nat), n = N ∧ a = A ∧ N ≤ 4 ∧ btV n a = .tuple #[.string s, .bool true] ∧ isD s = true ∧ totD s n = (n, a, true) ∧
    ldT n a = L ∧ depD s = L ∧ laT n a = K ∧ K ≤ L * 2 ^ N ∧ avgD s n = G ∧ K ≤ G ∧ L ≤ 4 ∧ evaB n a = ((L : Int) == n) := by
  obtain ⟨N, A, rfl, rfl, hN, hA, ht⟩ := btB_yes h
  obtain ⟨o1, o2, o3, o4⟩ := mbs_ok (a := A) hN N 0 0 (Nat.pow_pos (by decide)) (by simp) (spr_zero N (by omega)).1
  rw [mdl_whole JD_ok hN hA JD_I (by decide)] at o4
  rw [mbs_whole hN hA] at o1 o2 o3 o4
  have hv := btV_yes h
  generalize bst N A (List.range N) = T at *
  have has : asD (lst (⟨(txtD T).toArray⟩ : ByteArray)) = some T := by
    rw [lst_mk]
    refine asD_whole ?_
    have := rdd_full T 0 [] o1
    rwa [List.append_nil] at this
  have hw : tabN (valD T) (2 ^ N) = A := by
    rw [tabN_congr (v := bitN A) (fun x hx => o3 x hx (by simp)), tabN_self _ _ (fullN_lt A hA)]
  have hany : (lst (⟨(txtD T).toArray⟩ : ByteArray)).any (bigL N) = false := by rw [lst_mk, low_any N (by omega), o2]; rfl
  have htot := totD_yes has (by omega) hany
  rw [hw] at htot
  obtain ⟨q1, q2⟩ := opt_tree hN o1 o2
  rw [hw] at q1 q2
  have q3 := sum_hgt T (2 ^ N)
  rw [o4] at q3
  refine ⟨_, N, A, cst JD N A, cst JA N A, 0, sumK T (2 ^ N), rfl, rfl, hN, hv, isD_some has, htot, ldT_yes hN hA, ?_, laT_yes hN hA, Nat.le_trans q2 q3, ?_, q2, ?_, ?_⟩
  · rw [depD_some has, dep_hgt o1, o4]
  · rw [avgD_yes (by rw [htot]) has, Int.toNat_natCast]
  · have := cst_le JD_ok N A
    try dsimp only at this
    omega
  · unfold Plain.evaB
    rw [ht, ldT_yes hN hA, Bool.true_and]

/-- What the law asks of any tree. -/
theorem tree_law {s : ByteArray} {m : Int} (h : (totD s m).2.2 = true) (hm : m ≤ 4) : ∃ (M W L K D G : Nat), m = M ∧ (totD s m).1 = M ∧ (totD s m).2.1 = W ∧ ldT M W = L ∧ depD s = D ∧ L ≤ D ∧ laT M W = K ∧ avgD s m = G ∧ K ≤ G := by
  obtain ⟨T, M, has, rfl, hM⟩ := tot_is h
  have hM4 : M ≤ 4 := by omega
  obtain ⟨_, o1, _⟩ := asD_some has
  have hl := (asD_some has).1
  have hlow : (lst s).any (bigL M) = false := by
    cases hb : (lst s).any (bigL M) with
    | false => rfl
    | true => rw [totD_big has hb] at h; cases h
  have htot := totD_yes has hM hlow
  have ho2 : lowD M T = true := by
    rw [hl, low_any M hM] at hlow
    simpa using hlow
  obtain ⟨q1, q2⟩ := opt_tree hM4 o1 ho2
  refine ⟨M, tabN (valD T) (2 ^ M), _, _, depK T 32, sumK T (2 ^ M), rfl, by rw [htot], by rw [htot], ldT_yes hM4 (tabN_full _ _), depD_some has, ?_, laT_yes hM4 (tabN_full _ _), ?_, q2⟩
  · rw [dep_hgt o1]; exact q1
  · rw [avgD_yes h has, Int.toNat_natCast]

/-- The letters that are asked for an input are at most the depth. -/
theorem qu_dep (s : ByteArray) (x : Int) : quD s x ≤ max 0 (depD s) := by
  cases h : asD (lst s) with
  | none => rw [quD_none x h]; omega
  | some T =>
    by_cases hx : 0 ≤ x ∧ x ≤ 31
    · obtain ⟨y, rfl⟩ := Int.eq_ofNat_of_zero_le hx.1
      rw [quD_in h hx.2, depD_some h]
      have := depK_ge T 32 y (by omega)
      omega
    · rw [quD_out hx]; omega

end Go.Proofs.YtdhdkonokbkdoaaGreatDoor

namespace Go.Proofs.YtdhdkonokbkdoaaGreatDoor
open Go.RowKit Plain

theorem shl_five : ∀ r < 5, ∀ i < 5, IntKind.i64.wrap (((r : Nat) : Int) * 2 ^ i) = ((r * 2 ^ i : Nat) : Int) ∧ wrap64 (((r : Nat) : Int) * 2 ^ i) = ((r * 2 ^ i : Nat) : Int) := by decide +kernel

/-- The same, as the law's tests meet it. -/
theorem best_at {n a : Int} {s : ByteArray} {r : Bool} (hst : btV n a = .tuple #[.string s, .bool r]) (hr : r = true) : ∃ (N A L K : Nat) (G S : Int), n = N ∧ a = A ∧ (N : Int) ≤ 4 ∧ isD s = true ∧ totD s n = (n, a, true) ∧
    ldT n a = L ∧ depD s = L ∧ laT n a = K ∧ avgD s n = G ∧ (L : Int) ≤ 4 ∧ evaB n a = ((L : Int) == n) ∧
    IntKind.i64.wrap ((L : Int) * 2 ^ N) = S ∧ wrap64 ((L : Int) * 2 ^ N) = S ∧ decide (S < (K : Int)) = false ∧ decide (G < (K : Int)) = false := by
  cases h : btB n a with
  | false =>
    rw [btV_no h, hr] at hst
    simp at hst
  | true =>
    obtain ⟨s', N, A, L, K, D, G, h1, h2, h3, h4, h5, h6, h7, h8, h9, h10, h11, h12, h13, h14⟩ := best_law h
    rw [h4] at hst
    have e : s' = s := by simp at hst; exact hst.1
    subst e
    obtain ⟨q1, q2⟩ := shl_five L (by omega) N (by omega)
    exact ⟨N, A, L, K, (G : Int), _, h1, h2, Int.ofNat_le.2 h3, h5, h6, h7, h8, h9, h11, Int.ofNat_le.2 h13, h14, q1, q2, decide_eq_false (Int.not_lt.2 (Int.ofNat_le.2 h10)), decide_eq_false (Int.not_lt.2 (Int.ofNat_le.2 h12))⟩

theorem tree_at {s : ByteArray} {m : Int} (h : (totD s m).2.2 = true) (hm : m ≤ 4) : ∃ (M W L K : Nat) (D G : Int), m = M ∧ (totD s m).1 = M ∧ (totD s m).2.1 = W ∧ ldT M W = L ∧ depD s = D ∧ laT M W = K ∧ avgD s m = G ∧
    decide (D < (L : Int)) = false ∧ decide (G < (K : Int)) = false ∧ ¬ D < (L : Int) ∧ ¬ G < (K : Int) := by
  obtain ⟨M, Wd, L, K, D, G, h1, h2, h3, h4, h5, h6, h7, h8, h9⟩ := tree_law h hm
  have a1 : ¬ (D : Int) < (L : Int) := Int.not_lt.2 (Int.ofNat_le.2 h6)
  have a2 : ¬ (G : Int) < (K : Int) := Int.not_lt.2 (Int.ofNat_le.2 h9)
  exact ⟨M, Wd, L, K, (D : Int), (G : Int), h1, h2, h3, h4, h5, h7, h8, decide_eq_false a1, decide_eq_false a2, a1, a2⟩

/-- The word of a drawn tree's table. -/
theorem tot_word {d : ByteArray} {m c0 c1 : Int} {ok : Bool} (htd : totD d m = (c0, c1, ok)) (h : ok = true) (h4 : m ≤ 4) : -9223372036854775808 ≤ c1 ∧ c1 ≤ 9223372036854775807 := by
  obtain ⟨T, M, has, rfl, hM⟩ := tot_is (s := d) (n := m) (by rw [htd]; exact h)
  cases hb : (lst d).any (bigL M) with
  | true => rw [totD_big has hb] at htd; cases htd; cases h
  | false =>
    rw [totD_yes has hM hb] at htd
    cases htd
    have := table_word4 (n := M) (by omega) (tabN_full (valD T) M)
    omega

end Go.Proofs.YtdhdkonokbkdoaaGreatDoor
