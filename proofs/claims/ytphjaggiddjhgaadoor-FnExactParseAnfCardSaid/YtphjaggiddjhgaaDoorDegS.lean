/-
  Plain mathematics of chapter 11: reading sums of products.
-/
import Derived.Test.YtphjaggiddjhgaaDoorDegQ
import Derived.Lib.SplitLaws
namespace Go.Proofs.YtphjaggiddjhgaaDoor
open Plain Go.RowKit
set_option linter.unusedVariables false

/-! Cut at '+': what was joined comes apart. -/
theorem index_none (a : List UInt8) (h : ∀ c ∈ a, c ≠ 43) : Lib.index a [43] = -1 := by
  induction a with
  | nil => rfl
  | cons b l ih =>
    have hb : b ≠ 43 := h b List.mem_cons_self
    have hp : ([43] : List UInt8).isPrefixOf (b :: l) = false := by simp [List.isPrefixOf, Ne.symm hb]
    rw [Lib.index, hp, ih fun c hc => h c (List.mem_cons_of_mem _ hc)]
    rfl
theorem index_first (a r : List UInt8) (h : ∀ c ∈ a, c ≠ 43) : Lib.index (a ++ 43 :: r) [43] = (a.length : Int) := by
  induction a with
  | nil =>
    show Lib.index (43 :: r) [43] = 0
    rw [Lib.index]; simp [List.isPrefixOf]
  | cons b l ih =>
    have hb : b ≠ 43 := h b List.mem_cons_self
    have hp : ([43] : List UInt8).isPrefixOf (b :: (l ++ 43 :: r)) = false := by simp [List.isPrefixOf, Ne.symm hb]
    rw [List.cons_append, Lib.index, hp, ih fun c hc => h c (List.mem_cons_of_mem _ hc)]
    have : ((l.length : Int) == -1) = false := by rw [beq_eq_false_iff_ne]; omega
    rw [this]
    simp
theorem join_two (a b : List UInt8) (r : List (List UInt8)) : Lib.join (a :: b :: r) [43] = a ++ 43 :: Lib.join (b :: r) [43] := by
  rw [Lib.join_cons, Lib.join_cons]
  simp [Lib.joinTail]
theorem count_join (l : List (List UInt8)) (hne : l ≠ []) (h : ∀ t ∈ l, ∀ c ∈ t, c ≠ 43) : Lib.count (Lib.join l [43]) [43] + 1 = l.length := by
  induction l with
  | nil => exact absurd rfl hne
  | cons a r ih =>
    cases r with
    | nil =>
      rw [Lib.join_one, Lib.count_miss (index_none a (h a List.mem_cons_self))]; rfl
    | cons b r =>
      have := ih (by simp) fun t ht => h t (List.mem_cons_of_mem _ ht)
      rw [join_two, Lib.count_hit (by simp) (index_first a _ (h a List.mem_cons_self))]
      have e : (a ++ 43 :: Lib.join (b :: r) [43]).drop (a.length + ([43] : List UInt8).length) = Lib.join (b :: r) [43] := by
        rw [show a.length + ([43] : List UInt8).length = a.length + 1 from rfl]
        rw [List.drop_append, Nat.add_sub_cancel_left, List.drop_eq_nil_of_le (by omega)]
        rfl
      rw [e]
      simp only [List.length_cons] at this ⊢
      omega
theorem split_join (l : List (List UInt8)) (hne : l ≠ []) (h : ∀ t ∈ l, ∀ c ∈ t, c ≠ 43) : Lib.splitK [43] 0 (l.length - 1) (Lib.join l [43]) = l := by
  induction l with
  | nil => exact absurd rfl hne
  | cons a r ih =>
    cases r with
    | nil => rw [Lib.join_one]; rfl
    | cons b r =>
      have := ih (by simp) fun t ht => h t (List.mem_cons_of_mem _ ht)
      have hix := index_first a (Lib.join (b :: r) [43]) (h a List.mem_cons_self)
      rw [join_two, show (a :: b :: r).length - 1 = ((b :: r).length - 1) + 1 by simp]
      rw [Lib.splitK, hix]
      have h1 : ((a.length : Int) == -1) = false := by rw [beq_eq_false_iff_ne]; omega
      rw [h1]
      have e : (a ++ 43 :: Lib.join (b :: r) [43]).drop ((a.length : Int).toNat + ([43] : List UInt8).length) = Lib.join (b :: r) [43] := by
        rw [show (a.length : Int).toNat + ([43] : List UInt8).length = a.length + 1 from rfl]
        rw [List.drop_append, Nat.add_sub_cancel_left, List.drop_eq_nil_of_le (by omega)]
        rfl
      rw [e, this]
      simp
theorem split_all (l : List (List UInt8)) (hne : l ≠ []) (h : ∀ t ∈ l, ∀ c ∈ t, c ≠ 43) : Lib.split (Lib.join l [43]) [43] = l := by
  have h1 := count_join l hne h
  unfold Lib.split
  rw [show Lib.count (Lib.join l [43]) [43] = l.length - 1 by omega]
  exact split_join l hne h

/-! Reading piece by piece. -/
def Plain.stP (f : List UInt8 → Option Nat) (o : Option Nat) (t : List UInt8) : Option Nat := o.bind fun A => (f t).map fun m => A ||| 2 ^ m
def Plain.foP (f : List UInt8 → Option Nat) (l : List (List UInt8)) (A : Nat) : Option Nat := l.foldl (stP f) (some A)
theorem fold_none (f : List UInt8 → Option Nat) (l : List (List UInt8)) : l.foldl (stP f) none = none := by
  induction l with
  | nil => rfl
  | cons t l ih => exact ih
theorem foP_snoc (f : List UInt8 → Option Nat) (l : List (List UInt8)) (t : List UInt8) (A : Nat) : foP f (l ++ [t]) A = stP f (foP f l A) t := by
  unfold foP; rw [List.foldl_append]; rfl
theorem foP_take {f : List UInt8 → Option Nat} {l : List (List UInt8)} {i A B : Nat} (hi : i < l.length) (h : foP f (l.take i) A = some B) : foP f (l.take (i + 1)) A = (f l[i]).map fun m => B ||| 2 ^ m := by
  rw [List.take_succ_eq_append_getElem hi, foP_snoc, h]; rfl
theorem foP_stop {f : List UInt8 → Option Nat} {l : List (List UInt8)} {i A B : Nat} (hi : i < l.length) (h : foP f (l.take i) A = some B) (hn : f l[i] = none) : foP f l A = none := by
  have h1 := foP_take hi h
  rw [hn] at h1
  have e : l = l.take (i + 1) ++ l.drop (i + 1) := (List.take_append_drop _ _).symm
  rw [e]
  unfold foP at h1 ⊢
  rw [List.foldl_append, h1]
  exact fold_none f _
/-- The program's reading of a piece, and the model's. -/
def Plain.rdI (n : Nat) (t : List UInt8) : Option Nat := (parT n t).map fun x => x.1
def Plain.rdM (n : Nat) (t : List UInt8) : Option Nat := (parT n t).bind fun x => if x.1 = x.2 then some x.1 else none
theorem rdI_lt {n m : Nat} {t : List UInt8} (h : rdI n t = some m) : n ≤ 5 ∧ m < 2 ^ n := by
  unfold rdI at h
  cases hp : parT n t with
  | none => rw [hp] at h; cases h
  | some x =>
    rw [hp] at h
    obtain ⟨h1, _⟩ := parT_some hp
    obtain ⟨a, b, c, e1, e2, e3, ha, hb, hc⟩ := isTm_nat h1
    simp only [Option.map_some, Option.some.injEq] at h
    have : n = a := by omega
    subst this
    exact ⟨ha, by omega⟩
theorem rdM_rdI {n m : Nat} {t : List UInt8} (h : rdM n t = some m) : rdI n t = some m := by
  unfold rdM at h
  unfold rdI
  cases hp : parT n t with
  | none => rw [hp] at h; cases h
  | some x =>
    rw [hp] at h
    simp only [Option.bind_some] at h
    split at h
    · simpa using h
    · cases h
theorem rd_prT {n m : Nat} (hn : n ≤ 5) (hm : m < 2 ^ n) : rdI n (prT n m) = some m ∧ rdM n (prT n m) = some m := by
  have hi := isTm_yes hn hm (Nat.and_self m)
  have h := parT_back hi
  rw [fmtTm_yes hi] at h
  have h2 : parT n (prT n m) = some (m, m) := h
  unfold rdI rdM
  rw [h2]
  exact ⟨rfl, by simp⟩
theorem or_lt {n A m : Nat} (hA : A < 2 ^ 2 ^ n) (hm : m < 2 ^ n) : A ||| 2 ^ m < 2 ^ 2 ^ n := Nat.or_lt_two_pow hA (Nat.pow_lt_pow_right (by decide) hm)
theorem foP_lt {n : Nat} {f : List UInt8 → Option Nat} (hf : ∀ t m, f t = some m → m < 2 ^ n) (l : List (List UInt8)) : ∀ A, A < 2 ^ 2 ^ n → ∀ B, foP f l A = some B → B < 2 ^ 2 ^ n := by
  induction l with
  | nil => intro A hA B h; cases h; exact hA
  | cons t l ih =>
    intro A hA B h
    unfold foP at h
    rw [List.foldl_cons] at h
    cases ht : f t with
    | none =>
      have : stP f (some A) t = none := by unfold stP; rw [ht]; rfl
      rw [this, fold_none] at h; cases h
    | some m =>
      have : stP f (some A) t = some (A ||| 2 ^ m) := by unfold stP; rw [ht]; rfl
      rw [this] at h
      exact ih _ (or_lt hA (hf t m ht)) B h
theorem foP_prL {n : Nat} (hn : n ≤ 5) (w : Nat) (f : List UInt8 → Option Nat) (hf : ∀ m, m < 2 ^ n → f (prT n m) = some m) : ∀ k, k ≤ 2 ^ n → foP f (prL (anP w) n k) 0 = some (tabN (anN w) k) := by
  intro k
  induction k with
  | zero => intro _; rfl
  | succ k ih =>
    intro hk
    have h1 := ih (by omega)
    cases hp : anP w k with
    | false =>
      have : anN w k ≠ 1 := by unfold anP at hp; exact of_decide_eq_false hp
      rw [prL_no hp, tabN_no this, h1]
    | true =>
      have : anN w k = 1 := by unfold anP at hp; exact of_decide_eq_true hp
      rw [prL_yes hp, foP_snoc, h1, tabN_yes this]
      unfold stP
      rw [hf k (by omega)]
      rfl

/-- What is made of the coefficients read. -/
def Plain.enA (n : Nat) (s : List UInt8) (o : Option Nat) : Option Nat := o.bind fun A => if fmA n (anW n A) = s then some (anW n A) else none
theorem enA_some {n : Nat} {s : List UInt8} {A : Nat} : enA n s (some A) = if fmA n (anW n A) = s then some (anW n A) else none := rfl
def Plain.parA (n : Nat) (s : List UInt8) : Option Nat := enA n s (if s = [48] then some 0 else foP (rdI n) (Lib.split s [43]) 0)
theorem enA_is {n w : Nat} {s : List UInt8} {o : Option Nat} (h : enA n s o = some w) : w ≤ fullN n ∧ fmA n w = s := by
  cases o with
  | none => cases h
  | some A =>
    rw [enA_some] at h
    split at h
    · rename_i h2; cases h; exact ⟨anW_le n A, h2⟩
    · cases h
theorem prL_none {n w : Nat} (hn : n ≤ 5) (hw : w ≤ fullN n) (h : prL (anP w) n (2 ^ n) = []) : anW n w = 0 := by
  have h1 := foP_prL hn w (rdI n) (fun m hm => (rd_prT hn hm).1) (2 ^ n) (Nat.le_refl _)
  rw [h] at h1
  have : some 0 = some (tabN (anN w) (2 ^ n)) := h1
  exact (Option.some.inj this).symm
theorem smT_ne {n : Nat} {l : List (List UInt8)} (hl : l ≠ []) (h : ∀ t ∈ l, t ≠ [] ∧ t ≠ [48]) : Lib.join l [43] ≠ [48] := by
  cases l with
  | nil => exact absurd rfl hl
  | cons a r =>
    have ha := h a List.mem_cons_self
    cases r with
    | nil => rw [Lib.join_one]; exact ha.2
    | cons b r =>
      rw [join_two]
      intro e
      have h1 := congrArg List.length e
      have h2 : 0 < a.length := List.length_pos_iff.2 ha.1
      simp at h1
      omega
/-- Reading what was written. -/
theorem enA_back {n w : Nat} (hn : n ≤ 5) (hw : w ≤ fullN n) : enA n (fmA n w) (some (anW n w)) = some w := by
  have e := anW_back hn (fullN_lt w hw)
  rw [enA_some, e, if_pos rfl]
theorem parA_back {n w : Nat} (hn : n ≤ 5) (hw : w ≤ fullN n) : parA n (fmA n w) = some w := by
  unfold parA
  by_cases h : prL (anP w) n (2 ^ n) = []
  · have h0 : fmA n w = [48] := if_pos h
    have h1 := enA_back hn hw
    rw [prL_none hn hw h] at h1
    rw [if_pos h0]
    exact h1
  · have h0 : fmA n w = Lib.join (prL (anP w) n (2 ^ n)) [43] := if_neg h
    have hm : ∀ t ∈ prL (anP w) n (2 ^ n), t ≠ [] ∧ t ≠ [48] ∧ ∀ c ∈ t, c ≠ 43 := fun t ht => by
      obtain ⟨m, hm, rfl⟩ := prL_mem t ht
      have := prT_ok hn hm
      exact ⟨this.1, this.2.2.2, this.2.1⟩
    have h1 : fmA n w ≠ [48] := by rw [h0]; exact smT_ne (n := n) h fun t ht => ⟨(hm t ht).1, (hm t ht).2.1⟩
    rw [if_neg h1]
    have h2 : Lib.split (fmA n w) [43] = prL (anP w) n (2 ^ n) := by rw [h0]; exact split_all _ h fun t ht => (hm t ht).2.2
    rw [h2, foP_prL hn w (rdI n) (fun m hm => (rd_prT hn hm).1) _ (Nat.le_refl _)]
    exact enA_back hn hw

/-! The model reads byte by byte. -/
def Plain.goP (n : Nat) : List UInt8 → List UInt8 → Nat → Option Nat
  | [], p, A => (rdM n p).map fun m => A ||| 2 ^ m
  | b :: r, p, A => if b = 43 then (match rdM n p with | none => none | some m => goP n r [] (A ||| 2 ^ m)) else goP n r (p ++ [b]) A
theorem goP_plus {n m : Nat} {r p : List UInt8} {A : Nat} (h : rdM n p = some m) : goP n (43 :: r) p A = goP n r [] (A ||| 2 ^ m) := by rw [goP, if_pos rfl, h]
theorem goP_bad {n : Nat} {r p : List UInt8} {A : Nat} (h : rdM n p = none) : goP n (43 :: r) p A = none := by rw [goP, if_pos rfl, h]
theorem goP_char {n : Nat} {b : UInt8} {r p : List UInt8} {A : Nat} (h : b ≠ 43) : goP n (b :: r) p A = goP n r (p ++ [b]) A := by rw [goP, if_neg h]
theorem goP_word {n : Nat} (a r : List UInt8) (h : ∀ c ∈ a, c ≠ 43) : ∀ p A, goP n (a ++ r) p A = goP n r (p ++ a) A := by
  induction a with
  | nil => intro p A; rw [List.nil_append, List.append_nil]
  | cons b a ih =>
    intro p A
    rw [List.cons_append, goP_char (h b List.mem_cons_self), ih fun c hc => h c (List.mem_cons_of_mem _ hc)]
    rw [List.append_assoc]; rfl
theorem goP_join {n : Nat} (l : List (List UInt8)) (hne : l ≠ []) (h : ∀ t ∈ l, ∀ c ∈ t, c ≠ 43) : ∀ A, goP n (Lib.join l [43]) [] A = foP (rdM n) l A := by
  induction l with
  | nil => exact absurd rfl hne
  | cons a r ih =>
    intro A
    cases r with
    | nil =>
      rw [Lib.join_one]
      have := goP_word (n := n) a [] (h a List.mem_cons_self) [] A
      rw [List.append_nil, List.nil_append] at this
      rw [this]
      rfl
    | cons b r =>
      have ih2 := ih (by simp) fun t ht => h t (List.mem_cons_of_mem _ ht)
      rw [join_two, goP_word a _ (h a List.mem_cons_self), List.nil_append]
      unfold foP
      rw [List.foldl_cons]
      cases hp : rdM n a with
      | none =>
        have : stP (rdM n) (some A) a = none := by unfold stP; rw [hp]; rfl
        rw [goP_bad hp, this, fold_none]
      | some m =>
        have : stP (rdM n) (some A) a = some (A ||| 2 ^ m) := by unfold stP; rw [hp]; rfl
        rw [goP_plus hp, ih2, this]
        rfl
def Plain.parM (n : Nat) (s : List UInt8) : Option Nat := enA n s (if s = [48] then some 0 else goP n s [] 0)
theorem parM_back {n w : Nat} (hn : n ≤ 5) (hw : w ≤ fullN n) : parM n (fmA n w) = some w := by
  unfold parM
  by_cases h : prL (anP w) n (2 ^ n) = []
  · have h0 : fmA n w = [48] := if_pos h
    have h1 := enA_back hn hw
    rw [prL_none hn hw h] at h1
    rw [if_pos h0]
    exact h1
  · have h0 : fmA n w = Lib.join (prL (anP w) n (2 ^ n)) [43] := if_neg h
    have hm : ∀ t ∈ prL (anP w) n (2 ^ n), t ≠ [] ∧ t ≠ [48] ∧ ∀ c ∈ t, c ≠ 43 := fun t ht => by
      obtain ⟨m, hm, rfl⟩ := prL_mem t ht
      have := prT_ok hn hm
      exact ⟨this.1, this.2.2.2, this.2.1⟩
    have h1 : fmA n w ≠ [48] := by rw [h0]; exact smT_ne (n := n) h fun t ht => ⟨(hm t ht).1, (hm t ht).2.1⟩
    rw [if_neg h1]
    have h2 : goP n (fmA n w) [] 0 = foP (rdM n) (prL (anP w) n (2 ^ n)) 0 := by rw [h0]; exact goP_join _ h (fun t ht => (hm t ht).2.2) 0
    rw [h2, foP_prL hn w (rdM n) (fun m hm => (rd_prT hn hm).2) _ (Nat.le_refl _)]
    exact enA_back hn hw
/-- Both read the same. -/
theorem parM_is {n : Nat} (hn : n ≤ 5) (s : List UInt8) : parM n s = parA n s := by
  cases h : parA n s with
  | some w =>
    obtain ⟨h1, h2⟩ := enA_is h
    rw [← h2]
    exact parM_back hn h1
  | none =>
    cases h3 : parM n s with
    | none => rfl
    | some w =>
      obtain ⟨h1, h2⟩ := enA_is h3
      have h4 := parA_back hn h1
      rw [h2, h] at h4
      cases h4

/-- What ParseAnf answers. -/
def Plain.pafT (n : Int) (s : List UInt8) : Int × Int × Bool :=
  if (0 ≤ n ∧ n ≤ 5) ∧ s.length ≤ 200 then (match parA n.toNat s with | some w => (n, (w : Int), true) | none => (0, 0, false)) else (0, 0, false)
theorem pafT_no {n : Int} {s : List UInt8} (h : ¬ ((0 ≤ n ∧ n ≤ 5) ∧ s.length ≤ 200)) : pafT n s = (0, 0, false) := if_neg h
theorem pafT_some {n w : Nat} {s : List UInt8} (hn : n ≤ 5) (hs : s.length ≤ 200) (h : parA n s = some w) : pafT n s = ((n : Int), (w : Int), true) := by
  unfold pafT
  rw [if_pos ⟨⟨by omega, by omega⟩, hs⟩, Int.toNat_natCast, h]
theorem pafT_none {n : Nat} {s : List UInt8} (h : parA n s = none) : pafT n s = (0, 0, false) := by
  unfold pafT
  split
  · rw [Int.toNat_natCast, h]
  · rfl
/-- Written and read again. -/
theorem pafT_back {n w : Nat} (hn : n ≤ 5) (hw : w ≤ fullN n) : pafT n (fmA n w) = ((n : Int), (w : Int), true) :=
  pafT_some hn (by have := fmA_len (a := w) hn; omega) (parA_back hn hw)

end Go.Proofs.YtphjaggiddjhgaaDoor
