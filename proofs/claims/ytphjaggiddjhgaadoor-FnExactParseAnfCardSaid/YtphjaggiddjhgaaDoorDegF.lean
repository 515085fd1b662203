/-
  Plain mathematics of chapter 11: the texts of sums of products.
  Chapter 11: FormatAnf of the model.
-/
import Derived.Test.YtphjaggiddjhgaaDoorDegP
import Derived.Test.YtphjaggiddjhgaaDoorPlainW
import Derived.Lib.Join
import Derived.Test.YtphjaggiddjhgaaDoorDegN
import Derived.Test.YtphjaggiddjhgaaDoorTrmF

namespace Go.Proofs.YtphjaggiddjhgaaDoor
open Plain Go.RowKit
set_option linter.unusedVariables false

/-- The text of a product: the term with the set m, no letter negated. -/
def Plain.prT (n m : Nat) : List UInt8 := tmTxt n m m
/-- The texts of the products of the first k sets. -/
def Plain.prL (p : Nat → Bool) (n : Nat) : Nat → List (List UInt8)
  | 0 => []
  | k + 1 => if p k = true then prL p n k ++ [prT n k] else prL p n k
theorem prL_yes {p : Nat → Bool} {n k : Nat} (h : p k = true) : prL p n (k + 1) = prL p n k ++ [prT n k] := if_pos h
theorem prL_no {p : Nat → Bool} {n k : Nat} (h : p k = false) : prL p n (k + 1) = prL p n k := if_neg (by rw [h]; decide)
theorem prL_len (p : Nat → Bool) (n k : Nat) : (prL p n k).length ≤ k := by
  induction k with
  | zero => exact Nat.le_refl _
  | succ k ih =>
    cases h : p k with
    | false => rw [prL_no h]; omega
    | true => rw [prL_yes h, List.length_append]; simp; omega
theorem prL_mem {p : Nat → Bool} {n k : Nat} : ∀ t ∈ prL p n k, ∃ m, m < k ∧ t = prT n m := by
  induction k with
  | zero => intro t ht; exact absurd ht (by simp [prL])
  | succ k ih =>
    intro t ht
    cases h : p k with
    | false => rw [prL_no h] at ht; obtain ⟨m, h1, h2⟩ := ih t ht; exact ⟨m, by omega, h2⟩
    | true =>
      rw [prL_yes h] at ht
      rcases List.mem_append.1 ht with h1 | h1
      · obtain ⟨m, h1, h2⟩ := ih t h1; exact ⟨m, by omega, h2⟩
      · exact ⟨k, by omega, by simpa using h1⟩
theorem prL_congr {p q : Nat → Bool} {n k : Nat} (h : ∀ x, x < k → p x = q x) : prL p n k = prL q n k := by
  induction k with
  | zero => rfl
  | succ k ih =>
    have e := ih fun x hx => h x (by omega)
    have ek := h k (by omega)
    cases hq : q k with
    | false => rw [prL_no hq, prL_no (by rw [ek, hq]), e]
    | true => rw [prL_yes hq, prL_yes (by rw [ek, hq]), e]

theorem join_snoc (l : List (List UInt8)) (x : List UInt8) (hl : l ≠ []) : Lib.join (l ++ [x]) [43] = Lib.join l [43] ++ [43] ++ x := by
  obtain ⟨a, r, rfl⟩ : ∃ a r, l = a :: r := by cases l with | nil => exact absurd rfl hl | cons a r => exact ⟨a, r, rfl⟩
  rw [List.cons_append, Lib.join_cons, Lib.join_cons]
  simp [Lib.joinTail]
theorem join_nil_iff (l : List (List UInt8)) (h : ∀ t ∈ l, t ≠ []) : Lib.join l [43] = [] ↔ l = [] := by
  constructor
  · intro e
    cases l with
    | nil => rfl
    | cons a r =>
      rw [Lib.join_cons, List.append_eq_nil_iff] at e
      exact absurd e.1 (h a List.mem_cons_self)
  · rintro rfl; rfl
/-- The text of the sum of these products. -/
def Plain.smT (l : List (List UInt8)) : List UInt8 := if l = [] then [48] else Lib.join l [43]
/-- FormatAnf of a table. -/
def Plain.fmA (n a : Nat) : List UInt8 := smT (prL (anP a) n (2 ^ n))
def Plain.fmT (n a : Int) : List UInt8 := if isT n a = true then fmA n.toNat a.toNat else []
theorem fmT_yes {n a : Nat} (h : isT n a = true) : fmT n a = fmA n a := if_pos h
theorem fmT_no {n a : Int} (h : isT n a = false) : fmT n a = [] := if_neg (by rw [h]; decide)

/-! Sizes. -/
def Plain.okP (n m : Nat) : Bool := !(decide (m < 2 ^ n)) || (decide (prT n m ≠ []) && (prT n m).all (fun c => c != 43) && decide ((prT n m).length ≤ 5) && decide (prT n m ≠ [48]))
theorem okP_all : ∀ n < 6, ∀ m < 32, okP n m = true := by decide +kernel
theorem prT_ok {n m : Nat} (hn : n ≤ 5) (hm : m < 2 ^ n) : prT n m ≠ [] ∧ (∀ c ∈ prT n m, c ≠ 43) ∧ (prT n m).length ≤ 5 ∧ prT n m ≠ [48] := by
  have h := okP_all n (by omega) m (by have := two_pow_le n hn; omega)
  unfold okP at h
  rw [decide_eq_true hm] at h
  simp only [Bool.not_true, Bool.false_or, Bool.and_eq_true, decide_eq_true_eq, List.all_eq_true, bne_iff_ne] at h
  exact ⟨h.1.1.1, h.1.1.2, h.1.2, h.2⟩
def Plain.wid (n : Nat) : Nat → Nat
  | 0 => 0
  | k + 1 => wid n k + ((prT n k).length + 1)
theorem wid_all : ∀ n < 6, wid n (2 ^ n) ≤ 113 := by decide +kernel
theorem joinTail_snoc (r : List (List UInt8)) (x : List UInt8) : (Lib.joinTail [43] (r ++ [x])).length = (Lib.joinTail [43] r).length + (x.length + 1) := by
  simp [Lib.joinTail]
theorem join_wid (p : Nat → Bool) (n k : Nat) : (Lib.joinTail [43] (prL p n k)).length ≤ wid n k := by
  induction k with
  | zero => exact Nat.le_refl _
  | succ k ih =>
    show _ ≤ wid n k + ((prT n k).length + 1)
    cases h : p k with
    | false => rw [prL_no h]; omega
    | true => rw [prL_yes h, joinTail_snoc]; omega
theorem join_le (l : List (List UInt8)) : (Lib.join l [43]).length ≤ (Lib.joinTail [43] l).length := by
  cases l with
  | nil => exact Nat.le_refl _
  | cons a r => rw [Lib.join_cons]; simp [Lib.joinTail]
theorem fmA_len {n a : Nat} (hn : n ≤ 5) : (fmA n a).length ≤ 113 := by
  unfold fmA smT
  split
  · decide
  · have h1 := join_le (prL (anP a) n (2 ^ n))
    have h2 := join_wid (anP a) n (2 ^ n)
    have h3 := wid_all n (by omega)
    omega
theorem prL_ne {p : Nat → Bool} {n k : Nat} (hn : n ≤ 5) (hk : k ≤ 2 ^ n) : ∀ t ∈ prL p n k, t ≠ [] := by
  intro t ht
  obtain ⟨m, hm, rfl⟩ := prL_mem t ht
  exact (prT_ok hn (by omega)).1

/-- The text while the model writes it. -/
def Plain.jnL (p : Nat → Bool) (n k : Nat) : List UInt8 := Lib.join (prL p n k) [43]
theorem jnL_no {p : Nat → Bool} {n k : Nat} (h : p k = false) : jnL p n (k + 1) = jnL p n k := by unfold jnL; rw [prL_no h]
theorem jnL_first {p : Nat → Bool} {n k : Nat} (hn : n ≤ 5) (hk : k < 2 ^ n) (h : p k = true) (he : jnL p n k = []) : jnL p n (k + 1) = prT n k := by
  have := (join_nil_iff _ (prL_ne hn (by omega))).1 he
  unfold jnL
  rw [prL_yes h, this, List.nil_append, Lib.join_one]
theorem jnL_next {p : Nat → Bool} {n k : Nat} (h : p k = true) (he : jnL p n k ≠ []) : jnL p n (k + 1) = jnL p n k ++ [43] ++ prT n k := by
  have : prL p n k ≠ [] := fun e => he (by unfold jnL; rw [e]; rfl)
  unfold jnL
  rw [prL_yes h, join_snoc _ _ this]
theorem jnL_len {p : Nat → Bool} {n k : Nat} (hn : n ≤ 5) (hk : k ≤ 2 ^ n) : (jnL p n k).length ≤ 192 := by
  have h1 := join_le (prL p n k)
  have h2 : (Lib.joinTail [43] (prL p n k)).length ≤ 6 * k := by
    clear h1
    induction k with
    | zero => exact Nat.le_refl _
    | succ k ih =>
      have h5 := (prT_ok hn (show k < 2 ^ n by omega)).2.2.1
      have := ih (by omega)
      cases h : p k with
      | false => rw [prL_no h]; omega
      | true => rw [prL_yes h, joinTail_snoc]; omega
  have h3 := two_pow_le n hn
  unfold jnL
  omega
theorem fmA_jn {n a : Nat} (hn : n ≤ 5) : fmA n a = if jnL (anP a) n (2 ^ n) = [] then [48] else jnL (anP a) n (2 ^ n) := by
  unfold fmA smT jnL
  have := join_nil_iff (prL (anP a) n (2 ^ n)) (prL_ne hn (Nat.le_refl _))
  by_cases h : prL (anP a) n (2 ^ n) = []
  · rw [if_pos h, if_pos (this.2 h)]
  · rw [if_neg h, if_neg fun e => h (this.1 e)]

end Go.Proofs.YtphjaggiddjhgaaDoor

namespace Go.Proofs.YtphjaggiddjhgaaDoor
open Go.RowKit Plain
set_option linter.unusedVariables false

theorem isTm_self {n m : Nat} (hn : n ≤ 5) (hm : m < 2 ^ n) : isTm n m m = true := isTm_yes hn hm (Nat.and_self m)
/-- FormatTerm of a product. -/
theorem Prd.model (n m : Nat) (hn : n ≤ 5) (hm : m < 2 ^ n) (w : World) :
    Calls Tryd.prog 33 #[.int .i64 n, .agg #[.int .i64 m, .int .i64 m]] w fun e w' => e = .returned (.string ⟨(prT n m).toArray⟩) ∧ Below w.heap.size w w' := by
  have h := Trm.fmtM n m m w
  rwa [fmtTm_yes (isTm_self hn hm)] at h

theorem Fm.model_no (n a : Int) (ht : isT n a = false) (w : World) :
    Calls Tryd.prog 25 #[.agg #[.int .i64 n, .int .i64 a]] w fun e w' => e = .returned (.string ⟨(fmT n a).toArray⟩) ∧ Below w.heap.size w w' := by
  rw [fmT_no ht]
  have H := Lib.hid ht
  clear ht
  go_enter Tryd.func25, Tryd.ntmps25
  go_wp2_with fail
  refine (Tab.model _ _ _).mono ?_
  rintro e w1 ⟨rfl, hb1⟩
  rw [H.out]
  obtain ⟨hc1, hf1⟩ := bcell hb1
  go_wp2_with fail
  go_ret
  exact ⟨rfl, ((Below.refl _ _).alloc (Nat.le_refl _) _).trans (hb1.mono (by simp))⟩

theorem str_ne (l : List UInt8) (h : l ≠ []) : l.isEmpty = false := by
  cases l with
  | nil => exact absurd rfl h
  | cons _ _ => rfl

set_option maxRecDepth 100000 in
set_option maxHeartbeats 1000000 in
theorem Fm.model_yes (n a : Nat) (hn : n ≤ 5) (ha : (a : Int) ≤ 4294967295) (ht : isT n a = true) (w : World) :
    Calls Tryd.prog 25 #[.agg #[.int .i64 n, .int .i64 a]] w fun e w' => e = .returned (.string ⟨(fmT n a).toArray⟩) ∧ Below w.heap.size w w' := by
  rw [fmT_yes ht]
  have H := Lib.hid ht
  have HN := Lib.hid hn
  have HFM := Lib.hid (fmA_jn (a := a) hn)
  have HW := Lib.hid (Anf.word n a hn ha)
  have HBT : Hid (∀ m, m < 2 ^ n → bitN (anW n a) m = anN a m) := Lib.hid (fun m hm => anW_bit hm)
  have hr : (anW n a : Int) ≤ 4294967295 := by have := anW_le n a; have := fullN_le n hn; omega
  obtain ⟨hp1, hp2⟩ := two_pow_int n hn
  have hn5 : (n : Int) ≤ 5 := by omega
  generalize anW n a = r at *
  clear ht hn
  go_enter Tryd.func25, Tryd.ntmps25
  go_wp2_with fail
  refine (Tab.model _ _ _).mono ?_
  rintro e w1 ⟨rfl, hb1⟩
  rw [H.out]
  have k0 : w1.cell? ⟨w.heap.size, 0, none⟩ = some (.int .i64 n) := keepB hb1 (keepN rfl rfl)
  have k1 : w1.cell? ⟨w.heap.size, 1, none⟩ = some (.int .i64 a) := keepB hb1 (keepN rfl rfl)
  have HB1 := Lib.hid (((Below.refl w.heap.size w).alloc (Nat.le_refl _) (.cells #[.int .i64 n, .int .i64 a] 23)).trans (hb1.mono (by simp)))
  clear hb1
  go_wp2_with fail
  refine (HW.out _).mono ?_
  rintro e w2 ⟨rfl, hb2⟩
  have m0 := keepB hb2 k0
  have HM0 := Lib.hid m0
  have HB2 := Lib.hid (bB hb2 HB1.out.size HB1.out)
  clear hb2 k0 k1 m0
  go_wp2_with fail
  go_loopw [3, 5] (fun s i wr => ∃ k : Nat, i = .int .i64 (k : Int) ∧ s = .string ⟨(jnL (anP a) n k).toArray⟩ ∧ (k : Int) ≤ 2 ^ n ∧ wr.cell? ⟨w.heap.size, 0, none⟩ = some (.int .i64 n) ∧ Below w.heap.size w wr) (fun _ i _ => 32 - (intOf i).toNat)
  case atStart => exact ⟨0, rfl, rfl, by omega, HM0.out, HB2.out⟩
  case round =>
    obtain ⟨k, rfl, rfl, hk, c0, hbel⟩ := hrel
    have HC0 := Lib.hid c0
    have HBEL := Lib.hid hbel
    have hzr := hbel.size
    clear hbel
    have hkn : k ≤ 2 ^ n := by rw [up2] at hk; omega
    have hjl := jnL_len (p := anP a) HN.out hkn
    have hlz : ((jnL (anP a) n k).length : Int) ≤ 192 := by omega
    by_cases hlt : (k : Int) < 2 ^ n
    · have hk2 : k < 2 ^ n := by rw [up2] at hlt; omega
      have hbit := bit_i64 r k (by omega)
      rw [HBT.out k hk2] at hbit
      have hb2 := anN_lt a k
      have HP : Hid (anP a k = decide (anN a k = 1)) := Lib.hid rfl
      rcases (show anN a k = 0 ∨ anN a k = 1 by omega) with h0 | h0
      · have HD : Hid (jnL (anP a) n (k + 1) = jnL (anP a) n k) := Lib.hid (jnL_no (by rw [HP.out, h0]; rfl))
        rw [h0] at hbit
        generalize jnL (anP a) n k = l at *
        clear h0 hb2 hk2 hkn hjl
        go_wp2_with fail
        go_roundw
        case rel => exact ⟨k + 1, by go_num, by rw [HD.out], by omega, HC0.out, HBEL.out⟩
        case measure => simp [intOf] <;> omega
      · have hp : anP a k = true := by rw [HP.out, h0]; rfl
        have HPR := Lib.hid (Prd.model n k HN.out hk2)
        have h5 := (prT_ok HN.out hk2).2.2.1
        have h5z : ((prT n k).length : Int) ≤ 5 := by omega
        rw [h0] at hbit
        by_cases he : jnL (anP a) n k = []
        · have HD := Lib.hid (jnL_first HN.out hk2 hp he)
          rw [he] at hlz ⊢
          generalize prT n k = q at *
          clear h0 hb2 hk2 hkn hjl hp he h5
          go_wp2_with fail
          refine (HPR.out _).mono ?_
          rintro e w3 ⟨rfl, hb3⟩
          have HC3 := Lib.hid (keepB hb3 HC0.out)
          have HB3 := Lib.hid (bB hb3 hzr HBEL.out)
          clear hb3
          go_wp2_with fail
          go_roundw
          case rel => exact ⟨k + 1, by go_num, by rw [HD.out]; first | rfl | simp [ByteArray.mk_append_mk], by omega, HC3.out, HB3.out⟩
          case measure => simp [intOf] <;> omega
        · have HD := Lib.hid (jnL_next hp he)
          have hs1 := str_ne _ he
          generalize prT n k = q at *
          generalize jnL (anP a) n k = l at *
          clear h0 hb2 hk2 hkn hjl hp he h5
          go_wp2_with fail
          refine (HPR.out _).mono ?_
          rintro e w3 ⟨rfl, hb3⟩
          have HC3 := Lib.hid (keepB hb3 HC0.out)
          have HB3 := Lib.hid (bB hb3 hzr HBEL.out)
          clear hb3
          go_wp2_with fail
          go_roundw
          case rel => exact ⟨k + 1, by go_num, by rw [HD.out]; simp [ByteArray.mk_append_mk], by omega, HC3.out, HB3.out⟩
          case measure => simp [intOf] <;> omega
    · have hke : k = 2 ^ n := by rw [up2] at hlt; omega
      have HE : Hid (fmA n a = if jnL (anP a) n k = [] then [48] else jnL (anP a) n k) := Lib.hid (by rw [hke]; exact HFM.out)
      clear hke hjl hkn
      by_cases he : jnL (anP a) n k = []
      · rw [he] at HE hlz ⊢
        clear he
        go_wp2_with fail
        go_ret
        exact ⟨by rw [HE.out]; rfl, HBEL.out⟩
      · have hs1 := str_ne _ he
        have HE2 : Hid (fmA n a = jnL (anP a) n k) := Lib.hid (by rw [HE.out, if_neg he])
        generalize jnL (anP a) n k = l at *
        clear he HE
        go_wp2_with fail
        go_ret
        exact ⟨by rw [HE2.out]; rfl, HBEL.out⟩

/-- FormatAnf of the model. -/
theorem Fm.model (n a : Int) (w : World) :
    Calls Tryd.prog 25 #[.agg #[.int .i64 n, .int .i64 a]] w fun e w' => e = .returned (.string ⟨(fmT n a).toArray⟩) ∧ Below w.heap.size w w' := by
  cases ht : isT n a with
  | false => exact Fm.model_no n a ht w
  | true =>
    obtain ⟨n, a, rfl, rfl, hn, ha⟩ := isT_nat ht
    exact Fm.model_yes n a hn (by have := fullN_le n hn; omega) ht w

end Go.Proofs.YtphjaggiddjhgaaDoor
