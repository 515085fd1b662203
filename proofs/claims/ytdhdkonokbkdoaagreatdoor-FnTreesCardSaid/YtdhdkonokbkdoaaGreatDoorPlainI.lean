/-
  Plain mathematics of chapter 7: best trees, by tables that grow smaller (the program) and by subcubes (the model): the same.
-/
import Derived.Test.YtdhdkonokbkdoaaGreatDoorPlainH
import Derived.Test.YtdhdkonokbkdoaaGreatDoorPlainG
namespace Go.Proofs.YtdhdkonokbkdoaaGreatDoor
open Go.RowKit Plain
set_option linter.unusedVariables false

/-- The first place with the least of some numbers. -/
def Plain.bqB (G : Nat → Nat) : Nat → Nat
  | 0 => 0
  | k + 1 => if G k < mnK G maxI k then k else bqB G k

theorem bqB_yes {G : Nat → Nat} {k : Nat} (h : G k < mnK G maxI k) : bqB G (k + 1) = k := if_pos h
theorem bqB_no {G : Nat → Nat} {k : Nat} (h : ¬ G k < mnK G maxI k) : bqB G (k + 1) = bqB G k := if_neg h

theorem bqB_spec (G : Nat → Nat) (hG : ∀ i, G i < maxI) (k : Nat) (hk : 0 < k) : bqB G k < k ∧ G (bqB G k) = mnK G maxI k ∧ ∀ i, i < bqB G k → G (bqB G k) < G i := by
  induction k with
  | zero => omega
  | succ k ih =>
    have e : mnK G maxI (k + 1) = min (mnK G maxI k) (G k) := rfl
    have hs := (mnK_spec G maxI k).2.1
    by_cases h : G k < mnK G maxI k
    · rw [bqB_yes h, e]
      refine ⟨by omega, by omega, fun i hi => ?_⟩
      have := hs i hi
      omega
    · rw [bqB_no h, e]
      by_cases h0 : k = 0
      · subst h0
        exfalso; apply h
        show G 0 < maxI
        exact hG 0
      · obtain ⟨h1, h2, h3⟩ := ih (by omega)
        exact ⟨by omega, by omega, h3⟩

theorem mnK_shift {G : Nat → Nat} (f : Nat → Nat) (hf : ∀ x y, x ≤ y → f x ≤ f y) {k I J : Nat} (hk : 0 < k) (h0 : G 0 ≤ I) (h1 : f (G 0) ≤ J) : mnK (fun i => f (G i)) J k = f (mnK G I k) := by
  obtain ⟨a1, a2, a3⟩ := mnK_spec (fun i => f (G i)) J k
  obtain ⟨b1, b2, b3⟩ := mnK_spec G I k
  apply Nat.le_antisymm
  · rcases b3 with b3 | ⟨i, hi, b3⟩
    · have hb := b2 0 hk
      have e : mnK G I k = G 0 := by omega
      rw [e]
      exact a2 0 hk
    · rw [b3]; exact a2 i hi
  · rcases a3 with a3 | ⟨i, hi, a3⟩
    · have q := a2 0 hk
      have : f (mnK G I k) ≤ f (G 0) := hf _ _ (b2 0 hk)
      omega
    · rw [a3]; exact hf _ _ (b2 i hi)

def Plain.finV (k : Nat) : Fin 5 := ⟨k % 5, Nat.mod_lt _ (by decide)⟩
theorem finV_val {k : Nat} (h : k < 5) : (finV k).val = k := Nat.mod_eq_of_lt h

/-- What is left to ask for the worse answer. -/
def Plain.worse (n a : Nat) : Nat → Nat := fun i => max (cst JD n (restW (n + 1) a i 0)) (cst JD n (restW (n + 1) a i 1))
theorem worse_lt (n a i : Nat) (hn : n ≤ 4) : worse n a i < maxI := by
  have h0 : cst JD n (restW (n + 1) a i 0) ≤ n := cst_le JD_ok n _
  have h1 : cst JD n (restW (n + 1) a i 1) ≤ n := cst_le JD_ok n _
  have : worse n a i ≤ 4 := by unfold Plain.worse; omega
  exact Nat.lt_of_le_of_lt this (by decide)

/-- The best tree, by tables. -/
def Plain.bst : Nat → Nat → List Nat → DT
  | 0, a, _ => .val (a.testBit 0)
  | n + 1, a, vs => if conT (n + 1 : Nat) a = true then .val (a.testBit 0) else
      .ask (finV (vs.getD (bqB (worse n a) (n + 1)) 0)) (bst n (restW (n + 1) a (bqB (worse n a) (n + 1)) 0) (vs.eraseIdx (bqB (worse n a) (n + 1)))) (bst n (restW (n + 1) a (bqB (worse n a) (n + 1)) 1) (vs.eraseIdx (bqB (worse n a) (n + 1))))
theorem bst_con {n a : Nat} {vs : List Nat} (h : conT n a = true) : bst n a vs = .val (a.testBit 0) := by
  cases n with
  | zero => rfl
  | succ n => show (if _ then _ else _) = _; rw [if_pos h]
theorem bst_step {n a : Nat} {vs : List Nat} (h : conT (n + 1 : Nat) a = false) : bst (n + 1) a vs =
    .ask (finV (vs.getD (bqB (worse n a) (n + 1)) 0)) (bst n (restW (n + 1) a (bqB (worse n a) (n + 1)) 0) (vs.eraseIdx (bqB (worse n a) (n + 1)))) (bst n (restW (n + 1) a (bqB (worse n a) (n + 1)) 1) (vs.eraseIdx (bqB (worse n a) (n + 1)))) := by
  show (if _ then _ else _) = _; rw [if_neg (by rw [h]; decide)]

/-- The place that the model asks first. -/
def Plain.askN (n a k m v : Nat) : Nat := frI n m (bqB (worse k (subW n a m v)) (k + 1))
/-- The best tree, by subcubes with k free places. -/
def Plain.mbs (n a : Nat) : Nat → Nat → Nat → DT
  | 0, _, v => .val (a.testBit v)
  | k + 1, m, v => if cubV n a m v < 2 then .val (a.testBit v) else .ask (finV (askN n a k m v)) (mbs n a k (m ||| 2 ^ askN n a k m v) v) (mbs n a k (m ||| 2 ^ askN n a k m v) (v ||| 2 ^ askN n a k m v))
theorem mbs_con {n a k m v : Nat} (h : cubV n a m v < 2) : mbs n a k m v = .val (a.testBit v) := by
  cases k with
  | zero => rfl
  | succ k => show (if _ then _ else _) = _; rw [if_pos h]
theorem mbs_step {n a k m v : Nat} (h : ¬ cubV n a m v < 2) : mbs n a (k + 1) m v = .ask (finV (askN n a k m v)) (mbs n a k (m ||| 2 ^ askN n a k m v) v) (mbs n a k (m ||| 2 ^ askN n a k m v) (v ||| 2 ^ askN n a k m v)) := by
  show (if _ then _ else _) = _; rw [if_neg h]

def Plain.chkE : Bool := (List.range 5).all fun n => (List.range (2 ^ n)).all fun m => (List.range (cntN n m)).all fun i =>
  (frN n (m ||| 2 ^ frI n m i) == (frN n m).eraseIdx i) && ((List.range i).all fun j => decide (frI n m j < frI n m i)) && ((List.range (frI n m i)).all fun j => m.testBit j || (List.range i).any fun l => frI n m l == j)
theorem chkE_yes : chkE = true := by decide +kernel
theorem erase_ok (n m i : Nat) (hn : n ≤ 4) (hm : m < 2 ^ n) (hi : i < cntN n m) :
    frN n (m ||| 2 ^ frI n m i) = (frN n m).eraseIdx i ∧ ∀ j, j < frI n m i → m.testBit j = false → ∃ l, l < i ∧ frI n m l = j := by
  have h := chkE_yes
  unfold Plain.chkE at h
  have h1 := all_range.1 (all_range.1 (all_range.1 h n (by omega)) m hm) i hi
  simp only [Bool.and_eq_true, beq_iff_eq] at h1
  refine ⟨h1.1.1, fun j hj hb => ?_⟩
  have := all_range.1 h1.2 j hj
  rw [hb] at this
  simp only [Bool.false_or] at this
  obtain ⟨l, hl, he⟩ := any_range.1 this
  exact ⟨l, hl, by simpa using he⟩

theorem sub_first {n a m v : Nat} (hn : n ≤ 4) (ok : SubOk n m v) (hm : m < 2 ^ n) (hv : v &&& m = v) (hlt : cubV n a m v < 2) : (subW n a m v).testBit 0 = a.testBit v := by
  have h0 : 0 < 2 ^ cntN n m := Nat.pow_pos (by decide)
  have hx : cubX a m v (2 ^ n) = false := by
    have := cub_lt2 (n := n) (a := a) (m := m) (v := v)
    rw [decide_eq_true hlt] at this
    cases h : cubX a m v (2 ^ n) with
    | false => rfl
    | true => rw [h] at this; cases this
  obtain ⟨l1, l2⟩ := ok.low 0 h0
  have e : bitN a (sprN n m v 0) = bitN a v := by
    by_cases he : bitN a (sprN n m v 0) = bitN a v
    · exact he
    · have := (cubX_iff a m v (2 ^ n)).2 ⟨_, l1, l2, he⟩
      rw [hx] at this; cases this
  have e2 : bitN (subW n a m v) 0 = bitN a v := by
    rw [← e]
    exact tabN_bitN (fun y => bitN a (sprN n m v y)) _ _ h0 (bitN_lt _ _)
  rw [bitN_test, bitN_test] at e2
  cases h1 : (subW n a m v).testBit 0 <;> cases h2 : a.testBit v <;> rw [h1, h2] at e2 <;> first | rfl | cases e2

/-- What the model's loop meets: at the place itself the least depth, at no place before. -/
theorem ask_spec {n a k m v : Nat} (hn : n ≤ 4) (hm : m < 2 ^ n) (hv : v &&& m = v) (hc : cntN n m = k + 1) (hlt : ¬ cubV n a m v < 2) :
    (askN n a k m v < n ∧ m.testBit (askN n a k m v) = false ∧ 1 + max (mdl JD 10 n a k (m ||| 2 ^ askN n a k m v) v) (mdl JD 10 n a k (m ||| 2 ^ askN n a k m v) (v ||| 2 ^ askN n a k m v)) = mdl JD 10 n a (k + 1) m v) ∧
    ∀ j, j < askN n a k m v → m.testBit j = false → 1 + max (mdl JD 10 n a k (m ||| 2 ^ j) v) (mdl JD 10 n a k (m ||| 2 ^ j) (v ||| 2 ^ j)) ≠ mdl JD 10 n a (k + 1) m v := by
  have ok := sub_ok n m v hn hm hv
  have hk4 : k + 1 ≤ 4 := by have := cnt_le n m; omega
  have hcon : conT ((k + 1 : Nat) : Int) (subW n a m v : Int) = false := by
    have := subW_con (a := a) hn ok
    rw [hc] at this
    rw [this]; exact decide_eq_false hlt
  have hsp := bqB_spec (worse k (subW n a m v)) (fun i => worse_lt _ _ _ (by omega)) (k + 1) (by omega)
  have hall : ∀ i, i < k + 1 → frI n m i < n ∧ m.testBit (frI n m i) = false ∧ 1 + max (mdl JD 10 n a k (m ||| 2 ^ frI n m i) v) (mdl JD 10 n a k (m ||| 2 ^ frI n m i) (v ||| 2 ^ frI n m i)) = 1 + worse k (subW n a m v) i := by
    intro i hi
    have hi' : i < cntN n m := by omega
    obtain ⟨p1, p2, p3, p4⟩ := ok.place i hi'
    have hr0 := subW_rest (a := a) ok hi' (b := 0) (by decide)
    have hr1 := subW_rest (a := a) ok hi' (b := 1) (by decide)
    have s0 := (ok.sub i hi' 0 (by decide)).1
    have s1 := (ok.sub i hi' 1 (by decide)).1
    rw [Nat.zero_mul, Nat.or_zero] at hr0 s0
    rw [Nat.one_mul] at hr1 s1
    rw [hc] at hr0 hr1
    refine ⟨p1, p2, ?_⟩
    rw [mdl_cst JD_ok hn JD_I (by decide) k _ _ p3 s0 (by omega), mdl_cst JD_ok hn JD_I (by decide) k _ _ p3 s1 (by omega), ← hr0, ← hr1]
    rfl
  have hM : mdl JD 10 n a (k + 1) m v = 1 + mnK (worse k (subW n a m v)) maxI (k + 1) := by
    rw [mdl_cst JD_ok hn JD_I (by decide) (k + 1) m v hm hv hc, cst_step hcon]
    exact mnK_shift (fun x => 1 + x) (fun x y h => Nat.add_le_add_left h 1) (by omega) (Nat.le_of_lt (worse_lt _ _ _ (by omega))) (by have := worse_lt k (subW n a m v) 0 (by omega); show 1 + worse k (subW n a m v) 0 ≤ maxI; omega)
  have hw4 : ∀ i, worse k (subW n a m v) i < maxI := fun i => worse_lt _ _ _ (by omega)
  refine ⟨?_, ?_⟩
  · have q := hall _ hsp.1
    refine ⟨q.1, q.2.1, ?_⟩
    rw [hM]
    have := q.2.2
    rw [hsp.2.1] at this
    exact this
  · intro j hj hb
    obtain ⟨l, hl, rfl⟩ := (erase_ok n m _ hn hm (by rw [hc]; exact hsp.1)).2 j hj hb
    have q := hall l (by omega)
    rw [hM, q.2.2]
    have := hsp.2.2 l hl
    rw [hsp.2.1] at this
    omega

theorem mbs_bst {n a : Nat} (hn : n ≤ 4) (k : Nat) : ∀ m v, m < 2 ^ n → v &&& m = v → cntN n m = k → mbs n a k m v = bst k (subW n a m v) (frN n m) := by
  induction k with
  | zero =>
    intro m v hm hv hc
    have ok := sub_ok n m v hn hm hv
    show DT.val _ = DT.val _
    have hcon := subW_con (a := a) hn ok
    rw [hc] at hcon
    have hf := subW_full n a m v
    rw [hc] at hf
    have hz : conT ((0 : Nat) : Int) (subW n a m v : Int) = true := (conT_iff (by decide) hf).2 fun x hx => by
      have : x = 0 := by simpa using hx
      rw [this]
    rw [hz] at hcon
    rw [sub_first hn ok hm hv (of_decide_eq_true hcon.symm)]
  | succ k ih =>
    intro m v hm hv hc
    have ok := sub_ok n m v hn hm hv
    have hcon := subW_con (a := a) hn ok
    rw [hc] at hcon
    by_cases h : cubV n a m v < 2
    · rw [mbs_con h, bst_con (by rw [hcon]; exact decide_eq_true h), sub_first hn ok hm hv h]
    · rw [mbs_step h, bst_step (by rw [hcon]; exact decide_eq_false h)]
      have hk4 : k + 1 ≤ 4 := by have := cnt_le n m; omega
      have hsp := bqB_spec (worse k (subW n a m v)) (fun i => worse_lt _ _ _ (by omega)) (k + 1) (by omega)
      have hi' : bqB (worse k (subW n a m v)) (k + 1) < cntN n m := by rw [hc]; exact hsp.1
      obtain ⟨p1, p2, p3, p4⟩ := ok.place _ hi'
      have hr0 := subW_rest (a := a) ok hi' (b := 0) (by decide)
      have hr1 := subW_rest (a := a) ok hi' (b := 1) (by decide)
      have s0 := (ok.sub _ hi' 0 (by decide)).1
      have s1 := (ok.sub _ hi' 1 (by decide)).1
      rw [Nat.zero_mul, Nat.or_zero] at hr0 s0
      rw [Nat.one_mul] at hr1 s1
      rw [hc] at hr0 hr1
      have he := (erase_ok n m _ hn hm hi').1
      unfold Plain.askN
      rw [ih _ _ p3 s0 (by omega), ih _ _ p3 s1 (by omega), hr0, hr1, he]
      rfl

theorem mbs_whole {n a : Nat} (hn : n ≤ 4) (ha : a ≤ fullN n) : mbs n a n 0 0 = bst n a (List.range n) := by
  rw [mbs_bst hn n 0 0 (Nat.pow_pos (by decide)) (by simp) (spr_zero n (by omega)).1, subW_zero hn ha]
  congr 1
  unfold Plain.frN
  simp

theorem bst_len (n : Nat) : ∀ a vs, (txtD (bst n a vs)).length + 1 ≤ 2 ^ (n + 1) := by
  induction n with
  | zero => intro a vs; show 1 + 1 ≤ _; decide
  | succ n ih =>
    intro a vs
    cases h : conT ((n + 1 : Nat) : Int) (a : Int) with
    | true =>
      rw [bst_con h]
      show 1 + 1 ≤ _
      exact Nat.le_trans (by decide) (Nat.pow_le_pow_right (n := 2) (i := 1) (by decide) (by omega))
    | false =>
      rw [bst_step h]
      have q1 := ih (restW (n + 1) a (bqB (worse n a) (n + 1)) 0) (vs.eraseIdx (bqB (worse n a) (n + 1)))
      have q2 := ih (restW (n + 1) a (bqB (worse n a) (n + 1)) 1) (vs.eraseIdx (bqB (worse n a) (n + 1)))
      simp only [txtD, List.length_cons, List.length_append]
      rw [Nat.pow_succ]
      omega

end Go.Proofs.YtdhdkonokbkdoaaGreatDoor
