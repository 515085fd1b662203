/-
  Plain mathematics of chapter 7: decision trees, their texts, reading them without a letter below itself; lists of bytes only.
-/
import Derived.KernelRfl
import Derived.Test.YtdhdkonokbkdoaaGreatDoorPlainF
namespace Go.Proofs.YtdhdkonokbkdoaaGreatDoor.Plain

inductive DT where
  | val (b : Bool)
  | ask (i : Fin 5) (l r : DT)

def txtD : DT → List UInt8
  | .val b => [conC b]
  | .ask i l r => letC i :: (txtD l ++ txtD r)

theorem txtD_pos (T : DT) : 1 ≤ (txtD T).length := by cases T <;> simp [txtD]

/-- The set of letters with one more. -/
def withD (a : Nat) (i : Fin 5) : Nat := a ||| 2 ^ i.val

/-- No letter of the set occurs, none occurs below itself. -/
def okD (a : Nat) : DT → Bool
  | .val _ => true
  | .ask i l r => !a.testBit i.val && okD (withD a i) l && okD (withD a i) r

def valD : DT → Nat → Nat
  | .val b, _ => b.toNat
  | .ask i l r, x => if x.testBit i.val then valD r x else valD l x
def numD : DT → Nat → Nat
  | .val _, _ => 0
  | .ask i l r, x => (if x.testBit i.val then numD r x else numD l x) + 1

theorem valD_lt (T : DT) (x : Nat) : valD T x < 2 := by
  induction T with
  | val b => cases b <;> simp [valD]
  | ask i l r ihl ihr => unfold valD; split <;> assumption

theorem okD_ask {a : Nat} {i : Fin 5} {l r : DT} : okD a (.ask i l r) = true ↔ a.testBit i.val = false ∧ okD (withD a i) l = true ∧ okD (withD a i) r = true := by
  simp [okD, and_assoc]

/-- The tree at the start of a list, and what is behind it. -/
def rdD : Nat → List UInt8 → Nat → Option (DT × List UInt8)
  | 0, _, _ => none
  | _ + 1, [], _ => none
  | k + 1, c :: l, a => match cls c with
    | .con b => some (.val b, l)
    | .var i => if a.testBit i.val = true then none else match rdD k l (withD a i) with
      | none => none
      | some (t, r) => match rdD k r (withD a i) with
        | none => none
        | some (u, r2) => some (.ask i t u, r2)
    | _ => none

theorem rdD_sound : ∀ (k : Nat) (l : List UInt8) (a : Nat) (T : DT) (r : List UInt8), rdD k l a = some (T, r) → l = txtD T ++ r ∧ okD a T = true := by
  intro k
  induction k with
  | zero => intro l a T r h; cases h
  | succ k ih =>
    intro l a T r h
    cases l with
    | nil => cases h
    | cons c l =>
      unfold rdD at h
      split at h
      · rename_i b hc; cases h; rw [cls_eq_con hc]; exact ⟨rfl, rfl⟩
      · rename_i i hc
        split at h
        · cases h
        · rename_i ht
          split at h
          · cases h
          · rename_i t r' h'
            split at h
            · cases h
            · rename_i u r2 h2
              cases h
              obtain ⟨e1, o1⟩ := ih _ _ _ _ h'
              obtain ⟨e2, o2⟩ := ih _ _ _ _ h2
              refine ⟨?_, okD_ask.2 ⟨by simpa using ht, o1, o2⟩⟩
              rw [cls_eq_var hc, e1, e2]; simp [txtD]
      · cases h

theorem rdD_full : ∀ (T : DT) (k a : Nat) (r : List UInt8), (txtD T).length ≤ k → okD a T = true → rdD k (txtD T ++ r) a = some (T, r) := by
  intro T
  induction T with
  | val b => intro k a r h _; cases k with
    | zero => simp [txtD] at h
    | succ k => simp [txtD, rdD, cls_con]
  | ask i t u iht ihu => intro k a r h ho; cases k with
    | zero => simp [txtD] at h
    | succ k =>
      obtain ⟨hb, h1, h2⟩ := okD_ask.1 ho
      simp only [txtD, List.cons_append, List.append_assoc, rdD, cls_var, hb]
      simp only [txtD, List.length_cons, List.length_append] at h
      rw [iht k _ _ (by omega) h1]
      simp only [Bool.false_eq_true, if_false]
      rw [ihu k _ _ (by omega) h2]

def rdd (a : Nat) (l : List UInt8) : Option (DT × List UInt8) := rdD l.length l a

theorem rdD_any (k : Nat) (l : List UInt8) (a : Nat) (h : l.length ≤ k) : rdD k l a = rdd a l := by
  unfold rdd
  cases h1 : rdD k l a with
  | some p =>
    obtain ⟨T, r⟩ := p
    obtain ⟨e, o⟩ := rdD_sound _ _ _ _ _ h1
    subst e
    exact (rdD_full T _ a r (by simp) o).symm
  | none =>
    cases h2 : rdD l.length l a with
    | none => rfl
    | some p =>
      obtain ⟨T, r⟩ := p
      obtain ⟨e, o⟩ := rdD_sound _ _ _ _ _ h2
      subst e
      rw [rdD_full T _ a r (by simp at h; omega) o] at h1
      cases h1

theorem rdd_sound {a : Nat} {l : List UInt8} {T : DT} {r : List UInt8} (h : rdd a l = some (T, r)) : l = txtD T ++ r ∧ okD a T = true := rdD_sound _ _ _ _ _ h
theorem rdd_full (T : DT) (a : Nat) (r : List UInt8) (h : okD a T = true) : rdd a (txtD T ++ r) = some (T, r) := rdD_full _ _ _ _ (by simp) h
theorem rdd_nil (a : Nat) : rdd a [] = none := rfl
theorem rdd_con (a : Nat) (b : Bool) (l : List UInt8) : rdd a (conC b :: l) = some (.val b, l) := rdd_full (.val b) a l rfl
theorem rdd_asked {a : Nat} {i : Fin 5} (l : List UInt8) (h : a.testBit i.val = true) : rdd a (letC i :: l) = none := by simp [rdd, rdD, cls_var, h]
theorem rdd_none1 {a : Nat} {i : Fin 5} {l : List UInt8} (h : rdd (withD a i) l = none) : rdd a (letC i :: l) = none := by
  unfold rdd at h ⊢
  simp [rdD, cls_var, h]
theorem rdd_none2 {a : Nat} {i : Fin 5} {l r : List UInt8} {t : DT} (h : rdd (withD a i) l = some (t, r)) (h2 : rdd (withD a i) r = none) : rdd a (letC i :: l) = none := by
  have hl : r.length ≤ l.length := by rw [(rdd_sound h).1]; simp
  unfold rdd at h ⊢
  rw [← rdD_any _ _ _ hl] at h2
  simp [rdD, cls_var, h, h2]
theorem rdd_some {a : Nat} {i : Fin 5} {l r r2 : List UInt8} {t u : DT} (hb : a.testBit i.val = false) (h : rdd (withD a i) l = some (t, r)) (h2 : rdd (withD a i) r = some (u, r2)) : rdd a (letC i :: l) = some (.ask i t u, r2) := by
  have hl : r.length ≤ l.length := by rw [(rdd_sound h).1]; simp
  unfold rdd at h ⊢
  rw [← rdD_any _ _ _ hl] at h2
  simp [rdD, cls_var, hb, h, h2]

/-- A byte that begins no tree. -/
def badD (c : UInt8) : Bool := match cls c with
  | .con _ => false
  | .var _ => false
  | _ => true
theorem rdd_bad {c : UInt8} (a : Nat) (l : List UInt8) (h : badD c = true) : rdd a (c :: l) = none := by
  unfold badD at h
  simp only [rdd, List.length_cons, rdD]
  split
  · rename_i b hc; rw [hc] at h; cases h
  · rename_i i hc; rw [hc] at h; cases h
  · rfl
theorem cls_tree (c : UInt8) : (∃ b, c = conC b) ∨ (∃ i, c = letC i) ∨ badD c = true := by
  rcases cls_cases c with ⟨b, rfl⟩ | ⟨i, rfl⟩ | rfl | ⟨o, rfl⟩ | hb
  · exact .inl ⟨b, rfl⟩
  · exact .inr (.inl ⟨i, rfl⟩)
  · exact .inr (.inr (by decide))
  · exact .inr (.inr (by cases o <;> decide))
  · exact .inr (.inr (by unfold badD; rw [hb]))
theorem badD_ne {c : UInt8} (h : badD c = true) : c ≠ 48 ∧ c ≠ 49 ∧ c ≠ 97 ∧ c ≠ 98 ∧ c ≠ 99 ∧ c ≠ 100 ∧ c ≠ 101 := by
  refine ⟨?_, ?_, ?_, ?_, ?_, ?_, ?_⟩ <;> (rintro rfl; revert h; decide)

def freeD (a : Nat) : Nat := ((List.range 5).filter fun i => !a.testBit i).length
theorem free_with : ∀ a, a < 32 → ∀ i : Fin 5, a.testBit i.val = false → freeD (withD a i) + 1 = freeD a ∧ withD a i < 32 := by decide +kernel
theorem okD_len : ∀ (T : DT) (a : Nat), a < 32 → okD a T = true → (txtD T).length + 1 ≤ 2 ^ (freeD a + 1) := by
  intro T
  induction T with
  | val b => intro a _ _; simp only [txtD, List.length_cons, List.length_nil]; rw [Nat.pow_succ]; have : 0 < 2 ^ freeD a := Nat.pow_pos (by decide); omega
  | ask i l r ihl ihr =>
    intro a ha ho
    obtain ⟨hb, h1, h2⟩ := okD_ask.1 ho
    obtain ⟨e, hlt⟩ := free_with a ha i hb
    have q1 := ihl _ hlt h1
    have q2 := ihr _ hlt h2
    rw [e] at q1 q2
    simp only [txtD, List.length_cons, List.length_append]
    rw [Nat.pow_succ]
    omega
theorem okD_63 {T : DT} (h : okD 0 T = true) : (txtD T).length ≤ 63 := by
  have := okD_len T 0 (by decide) h
  have e : freeD 0 = 5 := by decide
  rw [e] at this
  omega

/-- The tree of a whole text. -/
def asD (l : List UInt8) : Option DT := match rdd 0 l with
  | some (T, []) => some T
  | _ => none
theorem asD_some {l : List UInt8} {T : DT} (h : asD l = some T) : l = txtD T ∧ okD 0 T = true ∧ l.length ≤ 63 := by
  unfold asD at h
  split at h
  · rename_i T' h'
    cases h
    obtain ⟨e, o⟩ := rdd_sound h'
    rw [List.append_nil] at e
    exact ⟨e, o, by rw [e]; exact okD_63 o⟩
  · cases h
theorem asD_none {l : List UInt8} (h : rdd 0 l = none) : asD l = none := by unfold asD; rw [h]
theorem asD_rest {l : List UInt8} {T : DT} {c : UInt8} {r : List UInt8} (h : rdd 0 l = some (T, c :: r)) : asD l = none := by unfold asD; rw [h]
theorem asD_whole {l : List UInt8} {T : DT} (h : rdd 0 l = some (T, [])) : asD l = some T := by unfold asD; rw [h]
theorem asD_long {l : List UInt8} (h : ¬ l.length ≤ 63) : asD l = none := by
  cases he : asD l with
  | none => rfl
  | some T => exact absurd (asD_some he).2.2 h

theorem num_le : ∀ (T : DT) (a x : Nat), a < 32 → okD a T = true → numD T x ≤ freeD a := by
  intro T
  induction T with
  | val b => intro a x _ _; exact Nat.zero_le _
  | ask i l r ihl ihr =>
    intro a x ha ho
    obtain ⟨hb, h1, h2⟩ := okD_ask.1 ho
    obtain ⟨e, hlt⟩ := free_with a ha i hb
    unfold numD
    split
    · have := ihr _ x hlt h2; omega
    · have := ihl _ x hlt h1; omega
theorem num_5 {T : DT} (h : okD 0 T = true) (x : Nat) : numD T x ≤ 5 := by
  have := num_le T 0 x (by decide) h
  have e : freeD 0 = 5 := by decide
  omega

end Go.Proofs.YtdhdkonokbkdoaaGreatDoor.Plain
