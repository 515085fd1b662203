/-
  Plain mathematics of chapter 11: reading sums of products.
  Chapter 11: ParseAnf of the model.
-/
import Derived.Test.YtphjaggiddjhgaaDoorDegF
import Derived.Lib.SplitLaws
import Derived.Test.YtphjaggiddjhgaaDoorTrmH

namespace Go.Proofs.YtphjaggiddjhgaaDoor
open Plain Go.RowKit
set_option linter.unusedVariables false

/-! Cut at '+': what was joined comes apart. -/
theorem index_none (a : List UInt8) (h : ∀ c ∈ a, c ≠ 43) : Lib.index a [43] = -1 := by
  induction a with
  | nil => rfl
  | cons b l ih =>
    have hb : b ≠ 43 := h b List.mem_cons_self
    have hp : ([43] : List UInt8).isPrefixOf (b :: l) = false := by simp [List.isPrefixOf, Ne.symm hb]
    rw [Lib.index, hp, ih fun c hc => h c (List.mem_cons_of_mem _ hc)]
    rfl
theorem index_first (a r : List UInt8) (h : ∀ c ∈ a, c ≠ 43) : Lib.index (a ++ 43 :: r) [43] = (a.length : Int) := by
  induction a with
  | nil =>
    show Lib.index (43 :: r) [43] = 0
    rw [Lib.index]; simp [List.isPrefixOf]
  | cons b l ih =>
    have hb : b ≠ 43 := h b List.mem_cons_self
    have hp : ([43] : List UInt8).isPrefixOf (b :: (l ++ 43 :: r)) = false := by simp [List.isPrefixOf, Ne.symm hb]
    rw [List.cons_append, Lib.index, hp, ih fun c hc => h c (List.mem_cons_of_mem _ hc)]
    have : ((l.length : Int) == -1) = false := by rw [beq_eq_false_iff_ne]; omega
    rw [this]
    simp
theorem join_two (a b : List UInt8) (r : List (List UInt8)) : Lib.join (a :: b :: r) [43] = a ++ 43 :: Lib.join (b :: r) [43] := by
  rw [Lib.join_cons, Lib.join_cons]
  simp [Lib.joinTail]
theorem count_join (l : List (List UInt8)) (hne : l ≠ []) (h : ∀ t ∈ l, ∀ c ∈ t, c ≠ 43) : Lib.count (Lib.join l [43]) [43] + 1 = l.length := by
  induction l with
  | nil => exact absurd rfl hne
  | cons a r ih =>
    cases r with
    | nil =>
      rw [Lib.join_one, Lib.count_miss (index_none a (h a List.mem_cons_self))]; rfl
    | cons b r =>
      have := ih (by simp) fun t ht => h t (List.mem_cons_of_mem _ ht)
      rw [join_two, Lib.count_hit (by simp) (index_first a _ (h a List.mem_cons_self))]
      have e : (a ++ 43 :: Lib.join (b :: r) [43]).drop (a.length + ([43] : List UInt8).length) = Lib.join (b :: r) [43] := by
        rw [show a.length + ([43] : List UInt8).length = a.length + 1 from rfl]
        rw [List.drop_append, Nat.add_sub_cancel_left, List.drop_eq_nil_of_le (by omega)]
        rfl
      rw [e]
      simp only [List.length_cons] at this ⊢
      omega
theorem split_join (l : List (List UInt8)) (hne : l ≠ []) (h : ∀ t ∈ l, ∀ c ∈ t, c ≠ 43) : Lib.splitK [43] 0 (l.length - 1) (Lib.join l [43]) = l := by
  induction l with
  | nil => exact absurd rfl hne
  | cons a r ih =>
    cases r with
    | nil => rw [Lib.join_one]; rfl
    | cons b r =>
      have := ih (by simp) fun t ht => h t (List.mem_cons_of_mem _ ht)
      have hix := index_first a (Lib.join (b :: r) [43]) (h a List.mem_cons_self)
      rw [join_two, show (a :: b :: r).length - 1 = ((b :: r).length - 1) + 1 by simp]
      rw [Lib.splitK, hix]
      have h1 : ((a.length : Int) == -1) = false := by rw [beq_eq_false_iff_ne]; omega
      rw [h1]
      have e : (a ++ 43 :: Lib.join (b :: r) [43]).drop ((a.length : Int).toNat + ([43] : List UInt8).length) = Lib.join (b :: r) [43] := by
        rw [show (a.length : Int).toNat + ([43] : List UInt8).length = a.length + 1 from rfl]
        rw [List.drop_append, Nat.add_sub_cancel_left, List.drop_eq_nil_of_le (by omega)]
        rfl
      rw [e, this]
      simp
theorem split_all (l : List (List UInt8)) (hne : l ≠ []) (h : ∀ t ∈ l, ∀ c ∈ t, c ≠ 43) : Lib.split (Lib.join l [43]) [43] = l := by
  have h1 := count_join l hne h
  unfold Lib.split
  rw [show Lib.count (Lib.join l [43]) [43] = l.length - 1 by omega]
  exact split_join l hne h

/-! Reading piece by piece. -/
def Plain.stP (f : List UInt8 → Option Nat) (o : Option Nat) (t : List UInt8) : Option Nat := o.bind fun A => (f t).map fun m => A ||| 2 ^ m
def Plain.foP (f : List UInt8 → Option Nat) (l : List (List UInt8)) (A : Nat) : Option Nat := l.foldl (stP f) (some A)
theorem fold_none (f : List UInt8 → Option Nat) (l : List (List UInt8)) : l.foldl (stP f) none = none := by
  induction l with
  | nil => rfl
  | cons t l ih => exact ih
theorem foP_snoc (f : List UInt8 → Option Nat) (l : List (List UInt8)) (t : List UInt8) (A : Nat) : foP f (l ++ [t]) A = stP f (foP f l A) t := by
  unfold foP; rw [List.foldl_append]; rfl
theorem foP_take {f : List UInt8 → Option Nat} {l : List (List UInt8)} {i A B : Nat} (hi : i < l.length) (h : foP f (l.take i) A = some B) : foP f (l.take (i + 1)) A = (f l[i]).map fun m => B ||| 2 ^ m := by
  rw [List.take_succ_eq_append_getElem hi, foP_snoc, h]; rfl
theorem foP_stop {f : List UInt8 → Option Nat} {l : List (List UInt8)} {i A B : Nat} (hi : i < l.length) (h : foP f (l.take i) A = some B) (hn : f l[i] = none) : foP f l A = none := by
  have h1 := foP_take hi h
  rw [hn] at h1
  have e : l = l.take (i + 1) ++ l.drop (i + 1) := (List.take_append_drop _ _).symm
  rw [e]
  unfold foP at h1 ⊢
  rw [List.foldl_append, h1]
  exact fold_none f _
/-- The program's reading of a piece, and the model's. -/
def Plain.rdI (n : Nat) (t : List UInt8) : Option Nat := (parT n t).map fun x => x.1
def Plain.rdM (n : Nat) (t : List UInt8) : Option Nat := (parT n t).bind fun x => if x.1 = x.2 then some x.1 else none
theorem rdI_lt {n m : Nat} {t : List UInt8} (h : rdI n t = some m) : n ≤ 5 ∧ m < 2 ^ n := by
  unfold rdI at h
  cases hp : parT n t with
  | none => rw [hp] at h; cases h
  | some x =>
    rw [hp] at h
    obtain ⟨h1, _⟩ := parT_some hp
    obtain ⟨a, b, c, e1, e2, e3, ha, hb, hc⟩ := isTm_nat h1
    simp only [Option.map_some, Option.some.injEq] at h
    have : n = a := by omega
    subst this
    exact ⟨ha, by omega⟩
theorem rdM_rdI {n m : Nat} {t : List UInt8} (h : rdM n t = some m) : rdI n t = some m := by
  unfold rdM at h
  unfold rdI
  cases hp : parT n t with
  | none => rw [hp] at h; cases h
  | some x =>
    rw [hp] at h
    simp only [Option.bind_some] at h
    split at h
    · simpa using h
    · cases h
theorem rd_prT {n m : Nat} (hn : n ≤ 5) (hm : m < 2 ^ n) : rdI n (prT n m) = some m ∧ rdM n (prT n m) = some m := by
  have hi := isTm_yes hn hm (Nat.and_self m)
  have h := parT_back hi
  rw [fmtTm_yes hi] at h
  have h2 : parT n (prT n m) = some (m, m) := h
  unfold rdI rdM
  rw [h2]
  exact ⟨rfl, by simp⟩
theorem or_lt {n A m : Nat} (hA : A < 2 ^ 2 ^ n) (hm : m < 2 ^ n) : A ||| 2 ^ m < 2 ^ 2 ^ n := Nat.or_lt_two_pow hA (Nat.pow_lt_pow_right (by decide) hm)
theorem foP_lt {n : Nat} {f : List UInt8 → Option Nat} (hf : ∀ t m, f t = some m → m < 2 ^ n) (l : List (List UInt8)) : ∀ A, A < 2 ^ 2 ^ n → ∀ B, foP f l A = some B → B < 2 ^ 2 ^ n := by
  induction l with
  | nil => intro A hA B h; cases h; exact hA
  | cons t l ih =>
    intro A hA B h
    unfold foP at h
    rw [List.foldl_cons] at h
    cases ht : f t with
    | none =>
      have : stP f (some A) t = none := by unfold stP; rw [ht]; rfl
      rw [this, fold_none] at h; cases h
    | some m =>
      have : stP f (some A) t = some (A ||| 2 ^ m) := by unfold stP; rw [ht]; rfl
      rw [this] at h
      exact ih _ (or_lt hA (hf t m ht)) B h
theorem foP_prL {n : Nat} (hn : n ≤ 5) (w : Nat) (f : List UInt8 → Option Nat) (hf : ∀ m, m < 2 ^ n → f (prT n m) = some m) : ∀ k, k ≤ 2 ^ n → foP f (prL (anP w) n k) 0 = some (tabN (anN w) k) := by
  intro k
  induction k with
  | zero => intro _; rfl
  | succ k ih =>
    intro hk
    have h1 := ih (by omega)
    cases hp : anP w k with
    | false =>
      have : anN w k ≠ 1 := by unfold anP at hp; exact of_decide_eq_false hp
      rw [prL_no hp, tabN_no this, h1]
    | true =>
      have : anN w k = 1 := by unfold anP at hp; exact of_decide_eq_true hp
      rw [prL_yes hp, foP_snoc, h1, tabN_yes this]
      unfold stP
      rw [hf k (by omega)]
      rfl

/-- What is made of the coefficients read. -/
def Plain.enA (n : Nat) (s : List UInt8) (o : Option Nat) : Option Nat := o.bind fun A => if fmA n (anW n A) = s then some (anW n A) else none
theorem enA_some {n : Nat} {s : List UInt8} {A : Nat} : enA n s (some A) = if fmA n (anW n A) = s then some (anW n A) else none := rfl
def Plain.parA (n : Nat) (s : List UInt8) : Option Nat := enA n s (if s = [48] then some 0 else foP (rdI n) (Lib.split s [43]) 0)
theorem enA_is {n w : Nat} {s : List UInt8} {o : Option Nat} (h : enA n s o = some w) : w ≤ fullN n ∧ fmA n w = s := by
  cases o with
  | none => cases h
  | some A =>
    rw [enA_some] at h
    split at h
    · rename_i h2; cases h; exact ⟨anW_le n A, h2⟩
    · cases h
theorem prL_none {n w : Nat} (hn : n ≤ 5) (hw : w ≤ fullN n) (h : prL (anP w) n (2 ^ n) = []) : anW n w = 0 := by
  have h1 := foP_prL hn w (rdI n) (fun m hm => (rd_prT hn hm).1) (2 ^ n) (Nat.le_refl _)
  rw [h] at h1
  have : some 0 = some (tabN (anN w) (2 ^ n)) := h1
  exact (Option.some.inj this).symm
theorem smT_ne {n : Nat} {l : List (List UInt8)} (hl : l ≠ []) (h : ∀ t ∈ l, t ≠ [] ∧ t ≠ [48]) : Lib.join l [43] ≠ [48] := by
  cases l with
  | nil => exact absurd rfl hl
  | cons a r =>
    have ha := h a List.mem_cons_self
    cases r with
    | nil => rw [Lib.join_one]; exact ha.2
    | cons b r =>
      rw [join_two]
      intro e
      have h1 := congrArg List.length e
      have h2 : 0 < a.length := List.length_pos_iff.2 ha.1
      simp at h1
      omega
/-- Reading what was written. -/
theorem enA_back {n w : Nat} (hn : n ≤ 5) (hw : w ≤ fullN n) : enA n (fmA n w) (some (anW n w)) = some w := by
  have e := anW_back hn (fullN_lt w hw)
  rw [enA_some, e, if_pos rfl]
theorem parA_back {n w : Nat} (hn : n ≤ 5) (hw : w ≤ fullN n) : parA n (fmA n w) = some w := by
  unfold parA
  by_cases h : prL (anP w) n (2 ^ n) = []
  · have h0 : fmA n w = [48] := if_pos h
    have h1 := enA_back hn hw
    rw [prL_none hn hw h] at h1
    rw [if_pos h0]
    exact h1
  · have h0 : fmA n w = Lib.join (prL (anP w) n (2 ^ n)) [43] := if_neg h
    have hm : ∀ t ∈ prL (anP w) n (2 ^ n), t ≠ [] ∧ t ≠ [48] ∧ ∀ c ∈ t, c ≠ 43 := fun t ht => by
      obtain ⟨m, hm, rfl⟩ := prL_mem t ht
      have := prT_ok hn hm
      exact ⟨this.1, this.2.2.2, this.2.1⟩
    have h1 : fmA n w ≠ [48] := by rw [h0]; exact smT_ne (n := n) h fun t ht => ⟨(hm t ht).1, (hm t ht).2.1⟩
    rw [if_neg h1]
    have h2 : Lib.split (fmA n w) [43] = prL (anP w) n (2 ^ n) := by rw [h0]; exact split_all _ h fun t ht => (hm t ht).2.2
    rw [h2, foP_prL hn w (rdI n) (fun m hm => (rd_prT hn hm).1) _ (Nat.le_refl _)]
    exact enA_back hn hw

/-! The model reads byte by byte. -/
def Plain.goP (n : Nat) : List UInt8 → List UInt8 → Nat → Option Nat
  | [], p, A => (rdM n p).map fun m => A ||| 2 ^ m
  | b :: r, p, A => if b = 43 then (match rdM n p with | none => none | some m => goP n r [] (A ||| 2 ^ m)) else goP n r (p ++ [b]) A
theorem goP_plus {n m : Nat} {r p : List UInt8} {A : Nat} (h : rdM n p = some m) : goP n (43 :: r) p A = goP n r [] (A ||| 2 ^ m) := by rw [goP, if_pos rfl, h]
theorem goP_bad {n : Nat} {r p : List UInt8} {A : Nat} (h : rdM n p = none) : goP n (43 :: r) p A = none := by rw [goP, if_pos rfl, h]
theorem goP_char {n : Nat} {b : UInt8} {r p : List UInt8} {A : Nat} (h : b ≠ 43) : goP n (b :: r) p A = goP n r (p ++ [b]) A := by rw [goP, if_neg h]
theorem goP_word {n : Nat} (a r : List UInt8) (h : ∀ c ∈ a, c ≠ 43) : ∀ p A, goP n (a ++ r) p A = goP n r (p ++ a) A := by
  induction a with
  | nil => intro p A; rw [List.nil_append, List.append_nil]
  | cons b a ih =>
    intro p A
    rw [List.cons_append, goP_char (h b List.mem_cons_self), ih fun c hc => h c (List.mem_cons_of_mem _ hc)]
    rw [List.append_assoc]; rfl
theorem goP_join {n : Nat} (l : List (List UInt8)) (hne : l ≠ []) (h : ∀ t ∈ l, ∀ c ∈ t, c ≠ 43) : ∀ A, goP n (Lib.join l [43]) [] A = foP (rdM n) l A := by
  induction l with
  | nil => exact absurd rfl hne
  | cons a r ih =>
    intro A
    cases r with
    | nil =>
      rw [Lib.join_one]
      have := goP_word (n := n) a [] (h a List.mem_cons_self) [] A
      rw [List.append_nil, List.nil_append] at this
      rw [this]
      rfl
    | cons b r =>
      have ih2 := ih (by simp) fun t ht => h t (List.mem_cons_of_mem _ ht)
      rw [join_two, goP_word a _ (h a List.mem_cons_self), List.nil_append]
      unfold foP
      rw [List.foldl_cons]
      cases hp : rdM n a with
      | none =>
        have : stP (rdM n) (some A) a = none := by unfold stP; rw [hp]; rfl
        rw [goP_bad hp, this, fold_none]
      | some m =>
        have : stP (rdM n) (some A) a = some (A ||| 2 ^ m) := by unfold stP; rw [hp]; rfl
        rw [goP_plus hp, ih2, this]
        rfl
def Plain.parM (n : Nat) (s : List UInt8) : Option Nat := enA n s (if s = [48] then some 0 else goP n s [] 0)
theorem parM_back {n w : Nat} (hn : n ≤ 5) (hw : w ≤ fullN n) : parM n (fmA n w) = some w := by
  unfold parM
  by_cases h : prL (anP w) n (2 ^ n) = []
  · have h0 : fmA n w = [48] := if_pos h
    have h1 := enA_back hn hw
    rw [prL_none hn hw h] at h1
    rw [if_pos h0]
    exact h1
  · have h0 : fmA n w = Lib.join (prL (anP w) n (2 ^ n)) [43] := if_neg h
    have hm : ∀ t ∈ prL (anP w) n (2 ^ n), t ≠ [] ∧ t ≠ [48] ∧ ∀ c ∈ t, c ≠ 43 := fun t ht => by
      obtain ⟨m, hm, rfl⟩ := prL_mem t ht
      have := prT_ok hn hm
      exact ⟨this.1, this.2.2.2, this.2.1⟩
    have h1 : fmA n w ≠ [48] := by rw [h0]; exact smT_ne (n := n) h fun t ht => ⟨(hm t ht).1, (hm t ht).2.1⟩
    rw [if_neg h1]
    have h2 : goP n (fmA n w) [] 0 = foP (rdM n) (prL (anP w) n (2 ^ n)) 0 := by rw [h0]; exact goP_join _ h (fun t ht => (hm t ht).2.2) 0
    rw [h2, foP_prL hn w (rdM n) (fun m hm => (rd_prT hn hm).2) _ (Nat.le_refl _)]
    exact enA_back hn hw
/-- Both read the same. -/
theorem parM_is {n : Nat} (hn : n ≤ 5) (s : List UInt8) : parM n s = parA n s := by
  cases h : parA n s with
  | some w =>
    obtain ⟨h1, h2⟩ := enA_is h
    rw [← h2]
    exact parM_back hn h1
  | none =>
    cases h3 : parM n s with
    | none => rfl
    | some w =>
      obtain ⟨h1, h2⟩ := enA_is h3
      have h4 := parA_back hn h1
      rw [h2, h] at h4
      cases h4

/-- What ParseAnf answers. -/
def Plain.pafT (n : Int) (s : List UInt8) : Int × Int × Bool :=
  if (0 ≤ n ∧ n ≤ 5) ∧ s.length ≤ 200 then (match parA n.toNat s with | some w => (n, (w : Int), true) | none => (0, 0, false)) else (0, 0, false)
theorem pafT_no {n : Int} {s : List UInt8} (h : ¬ ((0 ≤ n ∧ n ≤ 5) ∧ s.length ≤ 200)) : pafT n s = (0, 0, false) := if_neg h
theorem pafT_some {n w : Nat} {s : List UInt8} (hn : n ≤ 5) (hs : s.length ≤ 200) (h : parA n s = some w) : pafT n s = ((n : Int), (w : Int), true) := by
  unfold pafT
  rw [if_pos ⟨⟨by omega, by omega⟩, hs⟩, Int.toNat_natCast, h]
theorem pafT_none {n : Nat} {s : List UInt8} (h : parA n s = none) : pafT n s = (0, 0, false) := by
  unfold pafT
  split
  · rw [Int.toNat_natCast, h]
  · rfl
/-- Written and read again. -/
theorem pafT_back {n w : Nat} (hn : n ≤ 5) (hw : w ≤ fullN n) : pafT n (fmA n w) = ((n : Int), (w : Int), true) :=
  pafT_some hn (by have := fmA_len (a := w) hn; omega) (parA_back hn hw)

end Go.Proofs.YtphjaggiddjhgaaDoor

namespace Go.Proofs.YtphjaggiddjhgaaDoor
open Go.RowKit Plain
set_option linter.unusedVariables false

theorem lst_at (s : ByteArray) (k : Nat) (h : k < s.size) : (s.data.toList)[k]'(by simpa using h) = s[k] := rfl
theorem slice_one (s : ByteArray) (k : Nat) (h : k < s.size) (w : World) :
    (Instr.slice 9 (.string s) (some (.int .i64 (k : Int))) (some (.int .i64 ((k : Int) + 1))) none).run Tryd.prog w = .ok (.string ⟨[s[k]].toArray⟩) w := by
  rw [run_slice_string_if (h := Tryd.underlying9), if_pos (by omega), if_pos (by omega)]
  congr 2
  apply ByteArray.ext
  apply Array.ext'
  have e : (s.extract (k : Int).toNat ((k : Int) + 1).toNat).data.toList = (s.data.toList.drop k).take 1 := by
    rw [Lib.extract_data]
    rw [show (k : Int).toNat = k from rfl, show ((k : Int) + 1).toNat = k + 1 by omega]
    rw [Nat.add_sub_cancel_left]
  rw [e, byte_drop s k h]
  rfl

theorem str_is (s : ByteArray) (h : s.data.toList = [48]) : s = ⟨#[48]⟩ := by
  apply ByteArray.ext
  apply Array.ext'
  exact h
theorem str_not (s : ByteArray) (h : s.data.toList ≠ [48]) : (s.toList == [48]) = false ∧ (s.toList != [48]) = true := by
  rw [ByteArray.toList_eq]
  exact ⟨beq_eq_false_iff_ne.2 h, bne_iff_ne.2 h⟩
theorem text_ne (s : ByteArray) (x : List UInt8) :
    (x = s.data.toList → ((⟨x.toArray⟩ : ByteArray).toList == s.toList) = true ∧ ((⟨x.toArray⟩ : ByteArray).toList != s.toList) = false) ∧
    (x ≠ s.data.toList → ((⟨x.toArray⟩ : ByteArray).toList == s.toList) = false ∧ ((⟨x.toArray⟩ : ByteArray).toList != s.toList) = true) := by
  rw [ByteArray.toList_eq, ByteArray.toList_eq]
  constructor
  · intro h; rw [h]; exact ⟨beq_self_eq_true _, by simp⟩
  · intro h
    exact ⟨beq_eq_false_iff_ne.2 (by simpa using h), bne_iff_ne.2 (by simpa using h)⟩

theorem Paf.M_no1 (n : Int) (hn : ¬ (0 ≤ n ∧ n ≤ 5)) (s : ByteArray) (w : World) :
    Calls Tryd.prog 13 #[.int .i64 n, .string s] w fun e w' => e = .returned (.tuple #[.agg #[.int .i64 0, .int .i64 0], .bool false]) ∧ Below w.heap.size w w' := by
  have H := Lib.hid (Widths.in_no n 0 5 hn)
  clear hn
  go_enter Tryd.func13, Tryd.ntmps13
  go_wp2_with fail
  refine (H.out _).mono ?_
  rintro e w1 ⟨rfl, rfl⟩
  go_wp2_with fail
  exact bodyPost_ret (v := .tuple #[.agg #[.int .i64 0, .int .i64 0], .bool false]) (by simp [results, Tryd.results13, go_sem]) rfl ⟨rfl, (Below.refl _ _).alloc (Nat.le_refl _) _⟩

theorem Paf.M_no2 (n : Nat) (hn : n ≤ 5) (s : ByteArray) (hs : 200 < (s.size : Int)) (w : World) :
    Calls Tryd.prog 13 #[.int .i64 n, .string s] w fun e w' => e = .returned (.tuple #[.agg #[.int .i64 0, .int .i64 0], .bool false]) ∧ Below w.heap.size w w' := by
  have H := Lib.hid (Widths.in_yes (n : Int) 0 5 (by omega))
  go_enter Tryd.func13, Tryd.ntmps13
  go_wp2_with fail
  refine (H.out _).mono ?_
  rintro e w1 ⟨rfl, rfl⟩
  go_wp2_with fail
  exact bodyPost_ret (v := .tuple #[.agg #[.int .i64 0, .int .i64 0], .bool false]) (by simp [results, Tryd.results13, go_sem]) rfl ⟨rfl, (Below.refl _ _).alloc (Nat.le_refl _) _⟩

/-- What is asked of an answer at what was read. -/
structure PafIs (n : Nat) (s : List UInt8) (o : Option Nat) (r : Int × Int × Bool) : Prop where
  none : o = none → r = (0, 0, false)
  good : ∀ A, o = some A → fmA n (anW n A) = s → r = ((n : Int), (anW n A : Int), true)
  bad : ∀ A, o = some A → fmA n (anW n A) ≠ s → r = (0, 0, false)
theorem PafIs.of {n : Nat} {s : List UInt8} {o : Option Nat} (hn : n ≤ 5) (hs : s.length ≤ 200) (h : parA n s = enA n s o) : PafIs n s o (pafT n s) := by
  refine ⟨fun ho => ?_, fun A ho hf => ?_, fun A ho hf => ?_⟩
  · rw [ho] at h; exact pafT_none h
  · rw [ho, enA_some, if_pos hf] at h; exact pafT_some hn hs h
  · rw [ho, enA_some, if_neg hf] at h; exact pafT_none h

theorem isT_lt {n A : Nat} (hn : n ≤ 5) (h : A < 2 ^ 2 ^ n) : isT n A = true ∧ (A : Int) ≤ 4294967295 := by
  have h1 : A ≤ fullN n := by unfold fullN; omega
  have := fullN_le n hn
  exact ⟨isT_yes hn h1, by omega⟩

/-- FormatAnf of the table that was read. -/
theorem Fm.read (n A : Nat) (hn : n ≤ 5) (w : World) :
    Calls Tryd.prog 25 #[.agg #[.int .i64 n, .int .i64 (anW n A : Int)]] w fun e w' => e = .returned (.string ⟨(fmA n (anW n A)).toArray⟩) ∧ Below w.heap.size w w' := by
  have h := Fm.model n (anW n A : Int) w
  rwa [fmT_yes (isT_yes hn (anW_le n A))] at h

theorem orbit_any (A m : Nat) (hA : (A : Int) ≤ 4294967295) (hm : m < 32) : Go.bits .or .i64 (A : Int) (wrap64 ((2 : Int) ^ m)) = ((A ||| 2 ^ m : Nat) : Int) := orbit_i64 A m hA (by omega)

set_option maxRecDepth 100000 in
set_option maxHeartbeats 4000000 in
theorem Paf.M_yes (n : Nat) (hn : n ≤ 5) (s : ByteArray) (hs : (s.size : Int) ≤ 200) (r : Int × Int × Bool) (hr : PafIs n s.data.toList (if s.data.toList = [48] then some 0 else goP n s.data.toList [] 0) r) (w : World) :
    Calls Tryd.prog 13 #[.int .i64 n, .string s] w fun e w' => e = .returned (.tuple #[.agg #[.int .i64 r.1, .int .i64 r.2.1], .bool r.2.2]) ∧ Below w.heap.size w w' := by
  have H := Lib.hid (Widths.in_yes (n : Int) 0 5 (by omega))
  have HN := Lib.hid hn
  have hn5 : (n : Int) ≤ 5 := by omega
  generalize hO : (if s.data.toList = [48] then some 0 else goP n s.data.toList [] 0) = O at hr
  have HR := Lib.hid hr
  have HO := Lib.hid hO
  have HWB : Hid (∀ A : Nat, A < 2 ^ 2 ^ n → isT n A = true ∧ (A : Int) ≤ 4294967295) := Lib.hid (fun _ h => isT_lt hn h)
  have HAW : Hid (∀ A : Nat, (A : Int) ≤ 4294967295 → ∀ w, Calls Tryd.prog 24 #[.agg #[.int .i64 n, .int .i64 A]] w fun e w' => e = .returned (.int .i64 (anW n A : Int)) ∧ Below w.heap.size w w') := Lib.hid (fun A hA w => Anf.word n A hn hA w)
  have HFR : Hid (∀ (A : Nat) w, Calls Tryd.prog 25 #[.agg #[.int .i64 n, .int .i64 (anW n A : Int)]] w fun e w' => e = .returned (.string ⟨(fmA n (anW n A)).toArray⟩) ∧ Below w.heap.size w w') := Lib.hid (fun A w => Fm.read n A hn w)
  have HPT : Hid (∀ (p : List UInt8), p.length ≤ 300 → ∀ w, Calls Tryd.prog 23 #[.int .i64 n, .string ⟨p.toArray⟩] w fun e w' => e = .returned (parO (parT n p)) ∧ Below w.heap.size w w') := Lib.hid (fun p hp w => by
    have := Ptm.M n ⟨p.toArray⟩ (by simp [ByteArray.size]; omega) w
    simpa using this)
  clear hr hO hn
  go_enter Tryd.func13, Tryd.ntmps13
  go_wp2_with fail
  refine (H.out _).mono ?_
  rintro e w1 ⟨rfl, rfl⟩
  obtain ⟨W1, hW1⟩ : ∃ W1, w.alloc (.cells #[.int .i64 0, .int .i64 0] 23) = W1 := ⟨_, rfl⟩
  have hs1 : W1.heap.size = w.heap.size + 1 := by rw [← hW1]; simp
  have X1 : W1.heap[w.heap.size]? = some (.cells #[.int .i64 0, .int .i64 0] 23 (0, 0)) := by rw [← hW1]; exact heap_alloc_new w _
  have HBW : Hid (Below w.heap.size w W1) := Lib.hid (by rw [← hW1]; exact (Below.refl _ _).alloc (Nat.le_refl _) _)
  have HX1 := Lib.hid X1
  have HS1 := Lib.hid hs1
  rw [hW1]
  clear hW1 X1 hs1
  go_wp2_with fail
  go_loopw [6, 7, 8, 9, 10] (fun v q i _ _ wr => ∃ (k A : Nat) (p : List UInt8), i = .int .i64 (k : Int) ∧ v = .int .i64 (A : Int) ∧ q = .string ⟨p.toArray⟩ ∧ A < 2 ^ 2 ^ n ∧ p.length ≤ k ∧ k ≤ s.size + 1 ∧
    Hid ((O = some A ∧ (k = s.size + 1 ∨ (s.data.toList = [48] ∧ k = 0))) ∨ (s.data.toList ≠ [48] ∧ k ≤ s.size ∧ goP n (s.data.toList.drop k) p A = O)) ∧ Below W1.heap.size W1 wr) (fun _ _ i _ _ _ => 202 - (intOf i).toNat)
  case atStart =>
    refine ⟨0, 0, [], rfl, rfl, rfl, Nat.two_pow_pos _, by simp, by omega, Lib.hid ?_, Below.refl _ _⟩
    by_cases h0 : s.data.toList = [48]
    · exact .inl ⟨by rw [← HO.out, if_pos h0], .inr ⟨h0, rfl⟩⟩
    · exact .inr ⟨h0, by omega, by rw [← HO.out, if_neg h0]; rfl⟩
  case round =>
    obtain ⟨k, A, p, rfl, rfl, rfl, hA, hp, hk, HST, hbel⟩ := hrel
    have hAB := (HWB.out A hA).2
    have HA := Lib.hid hA
    have X := blockC hbel HX1.out
    have HX := Lib.hid X
    have HBEL := Lib.hid hbel
    have hsz := hbel.size
    have hsz1 := HS1.out
    have hq0 : w.heap.size < wr.heap.size := lt_of_block X
    clear X hbel hA
    rcases HST.out with ⟨hOA, hend⟩ | ⟨h48, hks, hgo⟩
    · have HOA := Lib.hid hOA
      have HAW2 := Lib.hid (HAW.out A hAB)
      have HFR2 := Lib.hid (HFR.out A)
      have HG : Hid (fmA n (anW n A) = s.data.toList → r = ((n : Int), (anW n A : Int), true)) := Lib.hid (fun h => HR.out.good A HOA.out h)
      have HB : Hid (fmA n (anW n A) ≠ s.data.toList → r = (0, 0, false)) := Lib.hid (fun h => HR.out.bad A HOA.out h)
      have HTX := Lib.hid (text_ne s (fmA n (anW n A)))
      have hex : (¬ (k : Int) ≤ (s.size : Int)) ∨ ((k : Int) ≤ (s.size : Int) ∧ (s.toList == [48]) = true ∧ (s.toList != [48]) = false) := by
        rcases hend with h | ⟨h, h0⟩
        · exact .inl (by omega)
        · exact .inr ⟨by omega, by rw [ByteArray.toList_eq, h]; rfl, by rw [ByteArray.toList_eq, h]; rfl⟩
      generalize anW n A = f at *
      obtain ⟨t, ht⟩ : ∃ t : ByteArray, (⟨(fmA n f).toArray⟩ : ByteArray) = t := ⟨_, rfl⟩
      rw [ht] at HFR2 HTX
      clear HST hOA hend ht
      by_cases hfm : fmA n f = s.data.toList
      · obtain ⟨x1, x2⟩ := HTX.out.1 hfm
        have HG2 := Lib.hid (HG.out hfm)
        clear hfm HTX HG HB
        rcases hex with hgt | ⟨hle, z1, z2⟩
        all_goals
          go_wp2_with fail
          refine (HAW2.out _).mono ?_
          rintro e w3 ⟨rfl, hb3⟩
          have HB3 := Lib.hid (bB hb3 hsz HBEL.out)
          have X3 := blockC hb3 HX.out
          have hz3 := hb3.size
          have HX3 := Lib.hid X3
          have hq3 : w.heap.size < w3.heap.size := lt_of_block X3
          clear hb3 X3
          go_wp2_with fail
          refine (HFR2.out _).mono ?_
          rintro e w4 ⟨rfl, hb4⟩
          have X4 := blockC (hb4) ((heap_alloc_old w3 _ hq3).trans HX3.out)
          obtain ⟨q0, q1, g0, g1⟩ := cells2 X4
          have j0 : w4.cell? ⟨w3.heap.size, 0, none⟩ = some (.int .i64 n) := keepB hb4 (keepN rfl rfl)
          have j1 : w4.cell? ⟨w3.heap.size, 1, none⟩ = some (.int .i64 f) := keepB hb4 (keepN rfl rfl)
          have hq4 : w.heap.size < w4.heap.size := lt_of_block X4
          have HB4 := Lib.hid (HBW.out.trans ((bB hb4 (by simp; omega) (bA (by omega) HB3.out)).mono (by omega)))
          clear hb4 X4
          go_wp2_with fail
          exact bodyPost_ret (v := .tuple #[.agg #[.int .i64 n, .int .i64 f], .bool true]) (by simp [results, Tryd.results13, go_sem, q0, q1]) rfl ⟨by rw [HG2.out], by repeat (first | exact HB4.out | refine bS (by simp) ?_)⟩
      · obtain ⟨x1, x2⟩ := HTX.out.2 hfm
        have HB2 := Lib.hid (HB.out hfm)
        clear hfm HTX HG HB
        rcases hex with hgt | ⟨hle, z1, z2⟩
        all_goals
          go_wp2_with fail
          refine (HAW2.out _).mono ?_
          rintro e w3 ⟨rfl, hb3⟩
          have HB3 := Lib.hid (bB hb3 hsz HBEL.out)
          have X3 := blockC hb3 HX.out
          have hz3 := hb3.size
          have HX3 := Lib.hid X3
          have hq3 : w.heap.size < w3.heap.size := lt_of_block X3
          clear hb3 X3
          go_wp2_with fail
          refine (HFR2.out _).mono ?_
          rintro e w4 ⟨rfl, hb4⟩
          have X4 := blockC (hb4) ((heap_alloc_old w3 _ hq3).trans HX3.out)
          obtain ⟨q0, q1, g0, g1⟩ := cells2 X4
          have hq4 : w.heap.size < w4.heap.size := lt_of_block X4
          have HB4 := Lib.hid (HBW.out.trans ((bB hb4 (by simp; omega) (bA (by omega) HB3.out)).mono (by omega)))
          clear hb4 X4
          go_wp2_with fail
          exact bodyPost_ret (v := .tuple #[.agg #[.int .i64 0, .int .i64 0], .bool false]) (by simp [results, Tryd.results13, go_sem, q0, q1]) rfl ⟨by rw [HB2.out], by repeat (first | exact HB4.out | refine bS (by simp) ?_)⟩
    · have HGO := Lib.hid hgo
      obtain ⟨n1, n2⟩ := str_not s h48
      have HN48 := Lib.hid h48
      have hkz : (k : Int) ≤ (s.size : Int) := by omega
      have hplz : (p.length : Int) ≤ 200 := by omega
      clear HST hgo h48
      by_cases hchar : ∃ h : k < s.size, s[k] ≠ 43
      · obtain ⟨hlt, hc⟩ := hchar
        have hltz : (k : Int) < (s.size : Int) := by omega
        have hsl := slice_one s k hlt
        have hq1 : ((s[k].toNat : Int) != 43) = true := by
          rw [bne_iff_ne]
          intro e
          exact hc (UInt8.toNat_inj.1 (by rw [show (43 : UInt8).toNat = 43 from rfl]; omega))
        have HG2 : Hid (goP n (s.data.toList.drop (k + 1)) (p ++ [s[k]]) A = O) := Lib.hid (by
          have := HGO.out
          rwa [byte_drop s k hlt, goP_char hc] at this)
        clear hc HGO
        go_wp2_with fail
        go_roundw
        case rel => exact ⟨k + 1, A, p ++ [s[k]], by go_num, rfl, by simp [ByteArray.mk_append_mk], HA.out, by simp; omega, by omega, Lib.hid (.inr ⟨HN48.out, by omega, HG2.out⟩), HBEL.out⟩
        case measure => simp [intOf] <;> omega
      · have HNXT : Hid (∀ m, rdM n p = some m → (O = some (A ||| 2 ^ m) ∧ (k + 1 = s.size + 1 ∨ (s.data.toList = [48] ∧ k + 1 = 0))) ∨ (s.data.toList ≠ [48] ∧ k + 1 ≤ s.size ∧ goP n (s.data.toList.drop (k + 1)) [] (A ||| 2 ^ m) = O)) := Lib.hid (fun m hm => by
          have hg := HGO.out
          by_cases hlt : k < s.size
          · have hc : s[k] = 43 := Classical.byContradiction fun h => hchar ⟨hlt, h⟩
            rw [byte_drop s k hlt, hc, goP_plus hm] at hg
            exact .inr ⟨HN48.out, by omega, hg⟩
          · have hke : k = s.size := by omega
            rw [List.drop_eq_nil_of_le (by simp; omega), goP, hm] at hg
            exact .inl ⟨hg.symm, .inl (by omega)⟩)
        have HNON : Hid (rdM n p = none → O = none) := Lib.hid (fun hm => by
          have hg := HGO.out
          by_cases hlt : k < s.size
          · have hc : s[k] = 43 := Classical.byContradiction fun h => hchar ⟨hlt, h⟩
            rw [byte_drop s k hlt, hc, goP_bad hm] at hg
            exact hg.symm
          · rw [List.drop_eq_nil_of_le (by simp; omega), goP, hm] at hg
            exact hg.symm)
        have htest : (∃ h : k < s.size, ((s[k].toNat : Int) != 43) = false) ∨ ¬ (k : Int) < (s.size : Int) := by
          by_cases hlt : k < s.size
          · have hc : s[k] = 43 := Classical.byContradiction fun h => hchar ⟨hlt, h⟩
            exact .inl ⟨hlt, by rw [hc]; rfl⟩
          · exact .inr (by omega)
        have HP := HPT.out p (by omega)
        have HRD : Hid (rdM n p = (parT n p).bind fun x => if x.1 = x.2 then some x.1 else none) := Lib.hid rfl
        clear HGO hchar
        cases hpt : parT n p with
        | none =>
          have HBAD : Hid (r = (0, 0, false)) := Lib.hid (HR.out.none (HNON.out (by rw [HRD.out, hpt]; rfl)))
          rw [hpt] at HP
          have e0 : parO none = .tuple #[.agg #[.int .i64 0, .int .i64 0], .bool false] := rfl
          rw [e0] at HP
          have HP2 := Lib.hid HP
          clear e0 HP hpt HNXT HNON HRD
          rcases htest with ⟨hlt, hq1⟩ | hge
          all_goals
            first | have hltz : (k : Int) < (s.size : Int) := by omega | skip
            go_wp2_with fail
            refine (HP2.out _).mono ?_
            rintro e w3 ⟨rfl, hb3⟩
            have X3 := blockC hb3 HX.out
            obtain ⟨q0, q1, g0, g1⟩ := cells2 X3
            have hq3 : w.heap.size < w3.heap.size := lt_of_block X3
            have HB3 := Lib.hid (HBW.out.trans ((bB hb3 hsz HBEL.out).mono (by omega)))
            clear hb3 X3
            go_wp2_with fail
            exact bodyPost_ret (v := .tuple #[.agg #[.int .i64 0, .int .i64 0], .bool false]) (by simp [results, Tryd.results13, go_sem, q0, q1, hq3]) rfl ⟨by rw [HBAD.out], by repeat (first | exact HB3.out | refine bS (by simp) ?_ | refine bA (by simp; omega) ?_)⟩
        | some t =>
          obtain ⟨t1, t2⟩ := t
          rw [hpt] at HP
          have e0 : parO (some (t1, t2)) = .tuple #[.agg #[.int .i64 (t1 : Int), .int .i64 (t2 : Int)], .bool true] := rfl
          rw [e0] at HP
          have HP2 := Lib.hid HP
          by_cases hte : t1 = t2
          · subst hte
            have hrd : rdM n p = some t1 := by rw [HRD.out, hpt]; simp
            have hml := (rdI_lt (rdM_rdI hrd)).2
            have hm32 : t1 < 32 := Nat.lt_of_lt_of_le hml (two_pow_le n HN.out)
            have HA2 := Lib.hid (or_lt HA.out hml)
            have hne : ((t1 : Int) != (t1 : Int)) = false := by simp
            have hor := orbit_i64 A t1 hAB (by omega)
            have hmz : (t1 : Int) ≤ 31 := by omega
            have HNX := Lib.hid (HNXT.out t1 hrd)
            clear e0 HP hpt HNXT HNON HRD hrd hml
            rcases htest with ⟨hlt, hq1⟩ | hge
            all_goals
              first | have hltz : (k : Int) < (s.size : Int) := by omega | skip
              go_wp2_with fail
              refine (HP2.out _).mono ?_
              rintro e w3 ⟨rfl, hb3⟩
              have HB3 := Lib.hid (bB hb3 hsz HBEL.out)
              have hz3 := hb3.size
              clear hb3
              go_wp2_with fail
              go_roundw
              case rel => exact ⟨k + 1, A ||| 2 ^ t1, [], by go_num, rfl, rfl, HA2.out, by simp, by omega, HNX, bA (by omega) HB3.out⟩
              case measure => simp [intOf] <;> omega
          · have HBAD : Hid (r = (0, 0, false)) := Lib.hid (HR.out.none (HNON.out (by rw [HRD.out, hpt]; simp [hte])))
            have hne : ((t1 : Int) != (t2 : Int)) = true := by rw [bne_iff_ne]; omega
            clear e0 HP hpt HNXT HNON HRD hte
            rcases htest with ⟨hlt, hq1⟩ | hge
            all_goals
              first | have hltz : (k : Int) < (s.size : Int) := by omega | skip
              go_wp2_with fail
              refine (HP2.out _).mono ?_
              rintro e w3 ⟨rfl, hb3⟩
              have X3 := blockC hb3 HX.out
              obtain ⟨q0, q1, g0, g1⟩ := cells2 X3
              have hq3 : w.heap.size < w3.heap.size := lt_of_block X3
              have HB3 := Lib.hid (HBW.out.trans ((bB hb3 hsz HBEL.out).mono (by omega)))
              clear hb3 X3
              go_wp2_with fail
              exact bodyPost_ret (v := .tuple #[.agg #[.int .i64 0, .int .i64 0], .bool false]) (by simp [results, Tryd.results13, go_sem, q0, q1, hq3]) rfl ⟨by rw [HBAD.out], by repeat (first | exact HB3.out | refine bS (by simp) ?_ | refine bA (by simp; omega) ?_)⟩

end Go.Proofs.YtphjaggiddjhgaaDoor
