/-
  Plain mathematics of chapter 7: the least sum does not depend on permutations and shifts.
-/
import Derived.Test.YthdcjldmafhcjaaPlainH
import Derived.Test.YthdcjldmafhcjaaClsP
namespace Go.Proofs.Ythdcjldmafhcjaa
open Go.RowKit Plain
set_option linter.unusedVariables false

/-- Two minima over places that correspond. -/
theorem mnF_mnF {m m' n I : Nat} {g h : Nat → Nat} (r : Nat → Nat) (h1 : ∀ i, i < n → m.testBit i = false → r i < n ∧ m'.testBit (r i) = false ∧ g i = h (r i)) (h2 : ∀ j, j < n → m'.testBit j = false → ∃ i, i < n ∧ m.testBit i = false ∧ r i = j) :
    mnF m g I n = mnF m' h I n := by
  obtain ⟨a1, a2, a3⟩ := mnF_spec m g I n
  obtain ⟨b1, b2, b3⟩ := mnF_spec m' h I n
  apply Nat.le_antisymm
  · rcases b3 with b3 | ⟨j, hj, hn, b3⟩
    · omega
    · obtain ⟨i, hi, hb, rfl⟩ := h2 j hj hn
      have q := a2 i hi hb
      have := (h1 i hi hb).2.2
      omega
  · rcases a3 with a3 | ⟨i, hi, hn, a3⟩
    · omega
    · obtain ⟨q1, q2, q3⟩ := h1 i hi hn
      have := b2 _ q1 q2
      omega

/-- A map of inputs, with the map of subcubes that it makes. -/
structure Plain.SymOk (n : Nat) (f t : Nat → Nat) (M : Nat → Nat) (V : Nat → Nat → Nat) (r : Nat → Nat) : Prop where
  zero : M 0 = 0 ∧ V 0 0 = 0
  into : ∀ m, m < 2 ^ n → ∀ v, v < 2 ^ n → v &&& m = v → ∀ y, y < 2 ^ n → y &&& m = v → f y < 2 ^ n ∧ f y &&& M m = V m v
  onto : ∀ m, m < 2 ^ n → ∀ v, v < 2 ^ n → v &&& m = v → ∀ x, x < 2 ^ n → x &&& M m = V m v → t x < 2 ^ n ∧ t x &&& m = v ∧ f (t x) = x
  set : ∀ m, m < 2 ^ n → M m < 2 ^ n ∧ ∀ v, v < 2 ^ n → v &&& m = v → V m v < 2 ^ n ∧ V m v &&& M m = V m v
  step : ∀ m, m < 2 ^ n → ∀ i, i < n → m.testBit i = false → m ||| 2 ^ i < 2 ^ n ∧ r i < n ∧ (M m).testBit (r i) = false ∧ M (m ||| 2 ^ i) = M m ||| 2 ^ r i ∧
    ∀ v, v < 2 ^ n → v &&& m = v → (v &&& (m ||| 2 ^ i) = v ∧ v ||| 2 ^ i < 2 ^ n ∧ (v ||| 2 ^ i) &&& (m ||| 2 ^ i) = v ||| 2 ^ i) ∧
      ((V (m ||| 2 ^ i) v = V m v ∧ V (m ||| 2 ^ i) (v ||| 2 ^ i) = V m v ||| 2 ^ r i) ∨ (V (m ||| 2 ^ i) v = V m v ||| 2 ^ r i ∧ V (m ||| 2 ^ i) (v ||| 2 ^ i) = V m v))
  back : ∀ m, m < 2 ^ n → ∀ j, j < n → (M m).testBit j = false → ∃ i, i < n ∧ m.testBit i = false ∧ r i = j

def Plain.chkY (n : Nat) (f t : Nat → Nat) (M : Nat → Nat) (V : Nat → Nat → Nat) (r : Nat → Nat) : Bool :=
  (M 0 == 0 && V 0 0 == 0) && (List.range (2 ^ n)).all fun m =>
    ((List.range (2 ^ n)).all fun v => !(v &&& m == v) ||
      (((List.range (2 ^ n)).all fun y => !(y &&& m == v) || (decide (f y < 2 ^ n) && (f y &&& M m == V m v))) &&
       ((List.range (2 ^ n)).all fun x => !(x &&& M m == V m v) || (decide (t x < 2 ^ n) && (t x &&& m == v) && (f (t x) == x))) &&
       (decide (V m v < 2 ^ n) && (V m v &&& M m == V m v)) &&
       ((List.range n).all fun i => m.testBit i || ((v &&& (m ||| 2 ^ i) == v) && decide (v ||| 2 ^ i < 2 ^ n) && ((v ||| 2 ^ i) &&& (m ||| 2 ^ i) == v ||| 2 ^ i) &&
         ((V (m ||| 2 ^ i) v == V m v && V (m ||| 2 ^ i) (v ||| 2 ^ i) == V m v ||| 2 ^ r i) || (V (m ||| 2 ^ i) v == V m v ||| 2 ^ r i && V (m ||| 2 ^ i) (v ||| 2 ^ i) == V m v)))))) &&
    decide (M m < 2 ^ n) &&
    ((List.range n).all fun i => m.testBit i || (decide (m ||| 2 ^ i < 2 ^ n) && decide (r i < n) && !(M m).testBit (r i) && (M (m ||| 2 ^ i) == M m ||| 2 ^ r i))) &&
    ((List.range n).all fun j => (M m).testBit j || (List.range n).any fun i => !m.testBit i && (r i == j))

theorem chkY_ok {n : Nat} {f t : Nat → Nat} {M : Nat → Nat} {V : Nat → Nat → Nat} {r : Nat → Nat} (h : chkY n f t M V r = true) : SymOk n f t M V r := by
  unfold Plain.chkY at h
  rw [Bool.and_eq_true] at h
  obtain ⟨h0, h⟩ := h
  simp only [Bool.and_eq_true, beq_iff_eq] at h0
  have hm : ∀ m, m < 2 ^ n → _ := fun m hm => all_range.1 h m hm
  have part : ∀ m, m < 2 ^ n → _ := fun m hm' => by have := hm m hm'; simp only [Bool.and_eq_true] at this; exact this
  have vpart : ∀ m, m < 2 ^ n → ∀ v, v < 2 ^ n → v &&& m = v → _ := fun m hm' v hv hs => by
    have q := all_range.1 (part m hm').1.1.1 v hv
    rw [show (v &&& m == v) = true by simpa using hs] at q
    simp only [Bool.not_true, Bool.false_or, Bool.and_eq_true] at q
    exact q
  refine ⟨h0, ?_, ?_, ?_, ?_, ?_⟩
  · intro m hm' v hv hs y hy hys
    have q := all_range.1 (vpart m hm' v hv hs).1.1.1 y hy
    rw [show (y &&& m == v) = true by simpa using hys] at q
    simpa using q
  · intro m hm' v hv hs x hx hxs
    have q := all_range.1 (vpart m hm' v hv hs).1.1.2 x hx
    rw [show (x &&& M m == V m v) = true by simpa using hxs] at q
    simpa [and_assoc] using q
  · intro m hm'
    refine ⟨by simpa using (part m hm').1.1.2, fun v hv hs => ?_⟩
    simpa using (vpart m hm' v hv hs).1.2
  · intro m hm' i hi hb
    have q := all_range.1 (part m hm').1.2 i hi
    rw [hb] at q
    simp only [Bool.false_or, Bool.and_eq_true, decide_eq_true_eq, Bool.not_eq_true', beq_iff_eq] at q
    refine ⟨q.1.1.1, q.1.1.2, q.1.2, q.2, fun v hv hs => ?_⟩
    have q2 := all_range.1 (vpart m hm' v hv hs).2 i hi
    rw [hb] at q2
    simp only [Bool.false_or, Bool.and_eq_true, decide_eq_true_eq, beq_iff_eq, Bool.or_eq_true] at q2
    exact ⟨⟨q2.1.1.1, q2.1.1.2, q2.1.2⟩, q2.2⟩
  · intro m hm' j hj hb
    have q := all_range.1 (part m hm').2 j hj
    rw [hb] at q
    simp only [Bool.false_or] at q
    obtain ⟨i, hi, he⟩ := any_range.1 q
    simp only [Bool.and_eq_true, Bool.not_eq_true', beq_iff_eq] at he
    exact ⟨i, hi, he.1, he.2⟩

theorem sym_cub {n a a' : Nat} {f t : Nat → Nat} {M : Nat → Nat} {V : Nat → Nat → Nat} {r : Nat → Nat} (ok : SymOk n f t M V r) (hb : ∀ y, y < 2 ^ n → bitN a' y = bitN a (f y)) {m v : Nat} (hm : m < 2 ^ n) (hv : v < 2 ^ n) (hs : v &&& m = v) :
    cubX a' m v (2 ^ n) = cubX a (M m) (V m v) (2 ^ n) := by
  have hset := (ok.set m hm).2 v hv hs
  have e : cubX a' m v (2 ^ n) = true ↔ cubX a (M m) (V m v) (2 ^ n) = true := by
    rw [cubX_iff, cubX_iff]
    constructor
    · rintro ⟨y, hy, hym, hne⟩
      rw [hb y hy, hb v hv] at hne
      obtain ⟨p1, p2⟩ := ok.into m hm v hv hs y hy hym
      obtain ⟨q1, q2⟩ := ok.into m hm v hv hs v hv hs
      by_cases hh : bitN a (f y) = bitN a (V m v)
      · exact ⟨f v, q1, q2, fun hh2 => hne (by rw [hh, hh2])⟩
      · exact ⟨f y, p1, p2, hh⟩
    · rintro ⟨x, hx, hxm, hne⟩
      obtain ⟨p1, p2, p3⟩ := ok.onto m hm v hv hs x hx hxm
      obtain ⟨q1, q2, q3⟩ := ok.onto m hm v hv hs (V m v) hset.1 hset.2
      by_cases hh : bitN a' (t x) = bitN a' v
      · refine ⟨t (V m v), q1, q2, fun hh2 => hne ?_⟩
        rw [hb _ p1, p3] at hh
        rw [hb _ q1, q3] at hh2
        rw [hh, hh2]
      · exact ⟨t x, p1, p2, hh⟩
  cases h1 : cubX a' m v (2 ^ n) <;> cases h2 : cubX a (M m) (V m v) (2 ^ n) <;> rw [h1, h2] at e <;> simp at e <;> rfl

theorem sym_mdl {J : Nat → Nat → Nat → Nat} (hJ : ∀ k z o, J k z o = J k o z) {I n a a' : Nat} {f t : Nat → Nat} {M : Nat → Nat} {V : Nat → Nat → Nat} {r : Nat → Nat} (ok : SymOk n f t M V r) (hb : ∀ y, y < 2 ^ n → bitN a' y = bitN a (f y)) (k : Nat) :
    ∀ m v, m < 2 ^ n → v < 2 ^ n → v &&& m = v → mdl J I n a' k m v = mdl J I n a k (M m) (V m v) := by
  induction k with
  | zero => intro m v _ _ _; rfl
  | succ k ih =>
    intro m v hm hv hs
    have hc := sym_cub ok hb hm hv hs
    have hlt : decide (cubV n a' m v < 2) = decide (cubV n a (M m) (V m v) < 2) := by rw [cub_lt2, cub_lt2, hc]
    by_cases h : cubV n a' m v < 2
    · have h' : cubV n a (M m) (V m v) < 2 := of_decide_eq_true (by rw [← hlt]; exact decide_eq_true h)
      rw [mdl_con h, mdl_con h']
    · have h' : ¬ cubV n a (M m) (V m v) < 2 := of_decide_eq_false (by rw [← hlt]; exact decide_eq_false h)
      rw [mdl_step h, mdl_step h']
      refine mnF_mnF r ?_ (ok.back m hm)
      intro i hi hbit
      obtain ⟨p1, p2, p3, p4, p5⟩ := ok.step m hm i hi hbit
      obtain ⟨⟨q1, q2, q3⟩, q4⟩ := p5 v hv hs
      refine ⟨p2, p3, ?_⟩
      rw [ih _ _ p1 hv q1, ih _ _ p1 q2 q3, p4]
      rcases q4 with ⟨e1, e2⟩ | ⟨e1, e2⟩
      · rw [e1, e2]
      · rw [e1, e2, hJ]

/-- The place of a number in a permutation. -/
def Plain.posL (p : List Int) (n i : Nat) : Nat := ((List.range n).find? fun j => pAt p j == i).getD 0
theorem perm_chk : ∀ n, n < 5 → ∀ p ∈ permsL n, chkY n (gatN p n) (scaN p n) (gatN p n) (fun _ v => gatN p n v) (posL p n) = true := by decide +kernel
theorem shift_chk : ∀ n, n < 5 → ∀ s, s < 2 ^ n → chkY n (fun y => y ^^^ s) (fun y => y ^^^ s) (fun m => m) (fun m v => v ^^^ (s &&& m)) (fun i => i) = true := by decide +kernel

theorem sym_cst {J : Nat → Nat → Nat → Nat} (hJ : ∀ k z o, J k z o = J k o z) {B : Nat → Nat} (hB : JB J B) {I n a a' : Nat} (hn : n ≤ 4) (ha : a ≤ fullN n) (ha' : a' ≤ fullN n) (hI : ∀ k, k ≤ 4 → B k ≤ I) (hM : I ≤ maxI)
    {f t : Nat → Nat} {M : Nat → Nat} {V : Nat → Nat → Nat} {r : Nat → Nat} (ok : SymOk n f t M V r) (hb : ∀ y, y < 2 ^ n → bitN a' y = bitN a (f y)) : cst J n a' = cst J n a := by
  rw [← mdl_whole hB hn ha' hI hM, ← mdl_whole hB hn ha hI hM, sym_mdl hJ ok hb n 0 0 (Nat.pow_pos (by decide)) (Nat.pow_pos (by decide)) (by simp), ok.zero.1, ok.zero.2]

theorem JA_sym (k z o : Nat) : JA k z o = JA k o z := by unfold Plain.JA; omega

theorem avg_way {n a : Nat} (hn : n ≤ 4) (ha : a ≤ fullN n) {p : List Int} (hp : p ∈ permsL n) {s : Nat} (hs : s < 2 ^ n) : cst JA n (wayW n a p s) = cst JA n a := by
  have h1 : cst JA n (perW n a p) = cst JA n a :=
    sym_cst JA_sym JA_ok hn ha (tabN_full _ _) JA_I (by decide) (chkY_ok (perm_chk n (by omega) p hp)) (fun y hy => tabN_bitN (perV a p n) _ _ hy (bitN_lt _ _))
  rw [← h1]
  exact sym_cst JA_sym JA_ok hn (tabN_full _ _) (tabN_full _ _) JA_I (by decide) (chkY_ok (shift_chk n (by omega) s hs)) (fun y hy => tabN_bitN (fun y => bitN (perW n a p) (y ^^^ s)) _ _ hy (bitN_lt _ _))

end Go.Proofs.Ythdcjldmafhcjaa
