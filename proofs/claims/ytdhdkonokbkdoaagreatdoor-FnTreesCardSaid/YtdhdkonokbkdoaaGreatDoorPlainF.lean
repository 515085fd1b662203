/-
  Plain mathematics of chapter 5: formulas as trees, their texts, reading them; lists of bytes only.
-/
import Derived.KernelRfl
namespace Go.Proofs.YtdhdkonokbkdoaaGreatDoor.Plain

inductive Bop where
  | band | bor | bxor
deriving DecidableEq

inductive Frm where
  | con (b : Bool)
  | var (i : Fin 5)
  | neg (f : Frm)
  | bin (o : Bop) (f g : Frm)

def Bop.code : Bop → UInt8
  | .band => 38
  | .bor => 124
  | .bxor => 94

def letC (i : Fin 5) : UInt8 := UInt8.ofNat (97 + i.val)
def conC (b : Bool) : UInt8 := if b then 49 else 48

def txt : Frm → List UInt8
  | .con b => [conC b]
  | .var i => [letC i]
  | .neg f => 33 :: txt f
  | .bin o f g => o.code :: (txt f ++ txt g)

theorem txt_pos (f : Frm) : 1 ≤ (txt f).length := by cases f <;> simp [txt]

inductive Cls where
  | con (b : Bool)
  | var (i : Fin 5)
  | neg
  | bin (o : Bop)
  | bad
deriving DecidableEq

/-- What a byte begins. -/
def cls (c : UInt8) : Cls :=
  if c = 48 then .con false else if c = 49 then .con true else if c = 33 then .neg
  else if c = 38 then .bin .band else if c = 124 then .bin .bor else if c = 94 then .bin .bxor
  else if c = 97 then .var 0 else if c = 98 then .var 1 else if c = 99 then .var 2 else if c = 100 then .var 3 else if c = 101 then .var 4
  else .bad

theorem cls_con (b : Bool) : cls (conC b) = .con b := by cases b <;> decide
theorem cls_var (i : Fin 5) : cls (letC i) = .var i := by revert i; decide
theorem cls_bin (o : Bop) : cls o.code = .bin o := by cases o <;> decide

theorem cls_cases (c : UInt8) : (∃ b, c = conC b) ∨ (∃ i, c = letC i) ∨ c = 33 ∨ (∃ o : Bop, c = o.code) ∨ cls c = .bad := by
  have h : ∀ n, n < 256 → ((∃ b, UInt8.ofNat n = conC b) ∨ (∃ i, UInt8.ofNat n = letC i) ∨ UInt8.ofNat n = 33 ∨ (∃ o ∈ [Bop.band, Bop.bor, Bop.bxor], UInt8.ofNat n = o.code) ∨ cls (UInt8.ofNat n) = .bad) := by decide +kernel
  have := h c.toNat (UInt8.toNat_lt c)
  rw [UInt8.ofNat_toNat] at this
  rcases this with h | h | h | ⟨o, _, h⟩ | h
  · exact .inl h
  · exact .inr (.inl h)
  · exact .inr (.inr (.inl h))
  · exact .inr (.inr (.inr (.inl ⟨o, h⟩)))
  · exact .inr (.inr (.inr (.inr h)))

theorem cls_bad (c : UInt8) (h : cls c = .bad) : c ≠ 48 ∧ c ≠ 49 ∧ c ≠ 33 ∧ c ≠ 38 ∧ c ≠ 124 ∧ c ≠ 94 ∧ c ≠ 97 ∧ c ≠ 98 ∧ c ≠ 99 ∧ c ≠ 100 ∧ c ≠ 101 := by
  refine ⟨?_, ?_, ?_, ?_, ?_, ?_, ?_, ?_, ?_, ?_, ?_⟩ <;> (rintro rfl; revert h; decide)

/-- The formula at the start of a list, and what is behind it. -/
def rdF : Nat → List UInt8 → Option (Frm × List UInt8)
  | 0, _ => none
  | _ + 1, [] => none
  | k + 1, c :: l => match cls c with
    | .con b => some (.con b, l)
    | .var i => some (.var i, l)
    | .neg => match rdF k l with
      | none => none
      | some (f, r) => some (.neg f, r)
    | .bin o => match rdF k l with
      | none => none
      | some (f, r) => match rdF k r with
        | none => none
        | some (g, r') => some (.bin o f g, r')
    | .bad => none

theorem cls_eq_con {c : UInt8} {b : Bool} (h : cls c = .con b) : c = conC b := by
  rcases cls_cases c with ⟨b', rfl⟩ | ⟨i, rfl⟩ | rfl | ⟨o, rfl⟩ | hb
  · rw [cls_con] at h; cases h; rfl
  · rw [cls_var] at h; cases h
  · cases h
  · rw [cls_bin] at h; cases h
  · rw [hb] at h; cases h

theorem cls_eq_var {c : UInt8} {i : Fin 5} (h : cls c = .var i) : c = letC i := by
  rcases cls_cases c with ⟨b', rfl⟩ | ⟨i', rfl⟩ | rfl | ⟨o, rfl⟩ | hb
  · rw [cls_con] at h; cases h
  · rw [cls_var] at h; cases h; rfl
  · cases h
  · rw [cls_bin] at h; cases h
  · rw [hb] at h; cases h

theorem cls_eq_neg {c : UInt8} (h : cls c = .neg) : c = 33 := by
  rcases cls_cases c with ⟨b', rfl⟩ | ⟨i', rfl⟩ | rfl | ⟨o, rfl⟩ | hb
  · rw [cls_con] at h; cases h
  · rw [cls_var] at h; cases h
  · rfl
  · rw [cls_bin] at h; cases h
  · rw [hb] at h; cases h

theorem cls_eq_bin {c : UInt8} {o : Bop} (h : cls c = .bin o) : c = o.code := by
  rcases cls_cases c with ⟨b', rfl⟩ | ⟨i', rfl⟩ | rfl | ⟨o', rfl⟩ | hb
  · rw [cls_con] at h; cases h
  · rw [cls_var] at h; cases h
  · cases h
  · rw [cls_bin] at h; cases h; rfl
  · rw [hb] at h; cases h

theorem rdF_sound : ∀ (k : Nat) (l : List UInt8) (f : Frm) (r : List UInt8), rdF k l = some (f, r) → l = txt f ++ r := by
  intro k
  induction k with
  | zero => intro l f r h; cases h
  | succ k ih =>
    intro l f r h
    cases l with
    | nil => cases h
    | cons c l =>
      unfold rdF at h
      split at h
      · rename_i b hc; cases h; rw [cls_eq_con hc]; rfl
      · rename_i i hc; cases h; rw [cls_eq_var hc]; rfl
      · rename_i hc
        split at h
        · cases h
        · rename_i f' r' h'
          cases h
          rw [cls_eq_neg hc, ih _ _ _ h']; rfl
      · rename_i o hc
        split at h
        · cases h
        · rename_i f' r' h'
          split at h
          · cases h
          · rename_i g r2 h2
            cases h
            rw [cls_eq_bin hc, ih _ _ _ h', ih _ _ _ h2]; simp [txt]
      · cases h

theorem rdF_full : ∀ (f : Frm) (k : Nat) (r : List UInt8), (txt f).length ≤ k → rdF k (txt f ++ r) = some (f, r) := by
  intro f
  induction f with
  | con b => intro k r h; cases k with
    | zero => simp [txt] at h
    | succ k => simp [txt, rdF, cls_con]
  | var i => intro k r h; cases k with
    | zero => simp [txt] at h
    | succ k => simp [txt, rdF, cls_var]
  | neg f ih => intro k r h; cases k with
    | zero => simp [txt] at h
    | succ k =>
      have := ih k r (by simp [txt] at h; omega)
      have h33 : cls 33 = .neg := by decide
      simp [txt, rdF, h33, this]
  | bin o f g ihf ihg => intro k r h; cases k with
    | zero => simp [txt] at h
    | succ k =>
      have h1 := ihf k (txt g ++ r) (by simp [txt] at h; omega)
      have h2 := ihg k r (by simp [txt] at h; omega)
      simp [txt, rdF, cls_bin, h1, h2]

def rd (l : List UInt8) : Option (Frm × List UInt8) := rdF l.length l

theorem rdF_any (k : Nat) (l : List UInt8) (h : l.length ≤ k) : rdF k l = rd l := by
  unfold rd
  cases h1 : rdF k l with
  | some p =>
    obtain ⟨f, r⟩ := p
    have e := rdF_sound _ _ _ _ h1
    rw [e, rdF_full]
    simp
  | none =>
    cases h2 : rdF l.length l with
    | none => rfl
    | some p =>
      obtain ⟨f, r⟩ := p
      have e := rdF_sound _ _ _ _ h2
      rw [e] at h h1
      rw [rdF_full] at h1
      · cases h1
      · simp at h; omega

theorem rd_nil : rd [] = none := rfl

theorem rd_sound {l : List UInt8} {f : Frm} {r : List UInt8} (h : rd l = some (f, r)) : l = txt f ++ r := rdF_sound _ _ _ _ h
theorem rd_full (f : Frm) (r : List UInt8) : rd (txt f ++ r) = some (f, r) := rdF_full _ _ _ (by simp)

theorem rd_con (b : Bool) (l : List UInt8) : rd (conC b :: l) = some (.con b, l) := rd_full (.con b) l
theorem rd_var (i : Fin 5) (l : List UInt8) : rd (letC i :: l) = some (.var i, l) := rd_full (.var i) l
theorem rd_bad {c : UInt8} (l : List UInt8) (h : cls c = .bad) : rd (c :: l) = none := by simp [rd, rdF, h]

theorem rd_neg_none {l : List UInt8} (h : rd l = none) : rd (33 :: l) = none := by
  have h33 : cls 33 = .neg := by decide
  simp [rd, rdF, h33]
  rw [rdF_any _ _ (Nat.le_refl _), h]
theorem rd_neg_some {l : List UInt8} {f : Frm} {r : List UInt8} (h : rd l = some (f, r)) : rd (33 :: l) = some (.neg f, r) := by
  rw [rd_sound h]; exact rd_full (.neg f) r
theorem rd_bin_none (o : Bop) {l : List UInt8} (h : rd l = none) : rd (o.code :: l) = none := by
  simp [rd, rdF, cls_bin]
  rw [rdF_any _ _ (Nat.le_refl _), h]
theorem rd_bin_none2 (o : Bop) {l : List UInt8} {f : Frm} {r : List UInt8} (h : rd l = some (f, r)) (h2 : rd r = none) : rd (o.code :: l) = none := by
  simp [rd, rdF, cls_bin]
  have hl := rd_sound h
  rw [rdF_any _ _ (Nat.le_refl _), h]
  dsimp only
  rw [rdF_any _ _ (by rw [hl]; simp), h2]
theorem rd_bin_some (o : Bop) {l : List UInt8} {f g : Frm} {r r2 : List UInt8} (h : rd l = some (f, r)) (h2 : rd r = some (g, r2)) : rd (o.code :: l) = some (.bin o f g, r2) := by
  rw [rd_sound h, rd_sound h2]
  have := rd_full (.bin o f g) r2
  simpa [txt] using this

/-- The formula that a text of at most 60 bytes is. -/
def asF (l : List UInt8) : Option Frm := if l.length ≤ 60 then match rd l with
  | some (f, []) => some f
  | _ => none
  else none

theorem asF_some {l : List UInt8} {f : Frm} (h : asF l = some f) : l = txt f ∧ l.length ≤ 60 := by
  unfold asF at h
  split at h
  · rename_i hl
    refine ⟨?_, hl⟩
    split at h
    · rename_i f' h'
      cases h
      rw [rd_sound h']; simp
    · cases h
  · cases h

theorem asF_txt (f : Frm) (h : (txt f).length ≤ 60) : asF (txt f) = some f := by
  unfold asF
  rw [if_pos h]
  have := rd_full f []
  rw [List.append_nil] at this
  rw [this]

theorem asF_long (l : List UInt8) (h : ¬ l.length ≤ 60) : asF l = none := by unfold asF; rw [if_neg h]
theorem asF_none {l : List UInt8} (h : rd l = none) : asF l = none := by unfold asF; rw [h]; simp
theorem asF_rest {l : List UInt8} {f : Frm} {c : UInt8} {r : List UInt8} (h : rd l = some (f, c :: r)) : asF l = none := by unfold asF; rw [h]; simp
theorem asF_whole {l : List UInt8} {f : Frm} (hl : l.length ≤ 60) (h : rd l = some (f, [])) : asF l = some f := by unfold asF; rw [h, if_pos hl]

/-- The value at an input. -/
def val (x : Nat) : Frm → Bool
  | .con b => b
  | .var i => x.testBit i.val
  | .neg f => !val x f
  | .bin .band f g => val x f && val x g
  | .bin .bor f g => val x f || val x g
  | .bin .bxor f g => val x f != val x g

def leaves : Frm → Nat
  | .con _ => 1
  | .var _ => 1
  | .neg f => leaves f
  | .bin _ f g => leaves f + leaves g

def depth : Frm → Nat
  | .con _ => 0
  | .var _ => 0
  | .neg f => depth f
  | .bin _ f g => 1 + max (depth f) (depth g)

/-- Which bytes are leaves. -/
def isLeaf (c : UInt8) : Bool := c != 33 && c != 38 && c != 124 && c != 94

theorem leaves_txt (f : Frm) : (txt f).countP isLeaf = leaves f := by
  induction f with
  | con b => cases b <;> decide
  | var i => revert i; decide
  | neg f ih =>
    have h33 : isLeaf 33 = false := by decide
    simp [txt, leaves, h33, ih]
  | bin o f g ihf ihg =>
    have ho : isLeaf o.code = false := by cases o <;> decide
    simp [txt, leaves, ho, ihf, ihg]

theorem leaves_le (f : Frm) : leaves f ≤ (txt f).length := by rw [← leaves_txt]; exact List.countP_le_length
theorem depth_le (f : Frm) : depth f ≤ (txt f).length := by
  induction f with
  | con b => simp [depth]
  | var i => simp [depth]
  | neg f ih => simp [depth, txt]; omega
  | bin o f g ihf ihg => simp [depth, txt]; omega

/-- The exchange of & and |, where the formula is negated. -/
def Bop.neg (n : Bool) : Bop → Bop
  | .band => if n then .bor else .band
  | .bor => if n then .band else .bor
  | .bxor => .bxor

/-- What the second formula of an operation becomes. -/
def Bop.snd (n : Bool) : Bop → Bool
  | .bxor => false
  | _ => n

/-- The formula, negated or not, with exclamation marks at letters only. -/
def push : Bool → Frm → Frm
  | n, .con b => .con (b != n)
  | n, .var i => if n then .neg (.var i) else .var i
  | n, .neg f => push (!n) f
  | n, .bin o f g => .bin (o.neg n) (push n f) (push (o.snd n) g)

theorem push_len (n : Bool) (f : Frm) : (txt (push n f)).length ≤ 2 * (txt f).length := by
  induction f generalizing n with
  | con b => simp [push, txt]
  | var i => cases n <;> simp [push, txt]
  | neg f ih => have := ih (!n); simp [push, txt]; omega
  | bin o f g ihf ihg => have h1 := ihf n; have h2 := ihg (o.snd n); simp [push, txt]; omega

/-- Letters, constants and marks are all below 128. -/
theorem txt_ascii (f : Frm) : ∀ c ∈ txt f, c.toNat < 128 := by
  induction f with
  | con b => cases b <;> decide
  | var i => revert i; decide
  | neg f ih => intro c hc; simp [txt] at hc; rcases hc with rfl | hc; · decide
                exact ih c hc
  | bin o f g ihf ihg =>
    intro c hc
    simp [txt] at hc
    rcases hc with rfl | hc | hc
    · cases o <;> decide
    · exact ihf c hc
    · exact ihg c hc

end Go.Proofs.YtdhdkonokbkdoaaGreatDoor.Plain
