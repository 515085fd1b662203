/-
  Chapter 5: IsMonotoneFormula of the program and of its model.
-/
import Derived.Test.YtpniefagpinbdaaFrmL
import Derived.Shelf.Strings.IndexAnyAll
namespace Go.Proofs.Ytpniefagpinbdaa
open Go.RowKit Plain Go.Shelf
set_option linter.unusedVariables false

theorem isF_txt_of {s : ByteArray} (h : isF s = true) : ∃ f, asF (lst s) = some f := by
  unfold isF at h
  cases ha : asF (lst s) with
  | none => rw [ha] at h; cases h
  | some f => exact ⟨f, rfl⟩
theorem isF_ascii {s : ByteArray} (h : isF s = true) : ∀ (j : Nat) b, s.data.toList[j]? = some b → b.toNat < 128 := by
  obtain ⟨f, hf⟩ := isF_txt_of h
  intro j b hb
  have h1 := (asF_some hf).1
  unfold lst at h1
  rw [h1] at hb
  exact txt_ascii f b (List.mem_of_getElem? hb)
theorem isF_size {s : ByteArray} (h : isF s = true) : s.size ≤ 60 := by
  obtain ⟨f, hf⟩ := isF_txt_of h
  exact size_60 hf

/-- strings.ContainsAny of a formula. -/
theorem Any.contains (s : ByteArray) (h : isF s = true) (l : List UInt8) (hl : ∀ c ∈ l, c.toNat < 128) (hn : l.length ≤ 5) (w : World) :
    Calls Try.prog 33 #[.string s, .string ⟨l.toArray⟩] w fun e w' => e = .returned (.bool (Lib.containsAny (lst s) l)) ∧ Below w.heap.size w w' := by
  have hz := isF_size h
  have e : (⟨l.toArray⟩ : ByteArray).data.toList = l := lst_ba l
  have := Any.strings_ContainsAny_laid Try.lays150 (by kernel_rfl) s ⟨l.toArray⟩ w (by omega) (by rw [ba_size]; omega) (isF_ascii h) (by rw [e]; exact fun j b hb => hl b (List.mem_of_getElem? hb))
  rw [e] at this
  exact this

theorem containsAny_any (l m : List UInt8) : Lib.containsAny l m = l.any (fun c => m.contains c) := by
  unfold Lib.containsAny
  induction l with
  | nil => rfl
  | cons c l ih =>
    unfold Lib.indexAny
    rw [List.any_cons]
    cases hc : m.contains c with
    | true => simp
    | false =>
      rw [← ih]
      have hge := Lib.indexAny_ge m l
      generalize Lib.indexAny l m = z at hge ⊢
      by_cases hz : z = -1
      · subst hz; decide
      · have : (z == -1) = false := by simpa using hz
        rw [this]
        simp
        omega

/-- What a monotone formula must not have: ! and ^. -/
def Plain.isMX (c : UInt8) : Bool := c == 33 || c == 94
def Plain.monB (s : ByteArray) : Bool := isF s && !(lst s).any isMX

theorem isMX_list (c : UInt8) : ([33, 94] : List UInt8).contains c = isMX c := by
  show ((c == 33) || ((c == 94) || false)) = _
  rw [Bool.or_false]; rfl

theorem isMX_yes {c : UInt8} (h : isMX c = true) : ((c.toNat : Int) = 33) ∨ ((c.toNat : Int) = 94) := by
  unfold isMX at h
  simp at h
  rcases h with rfl | rfl
  · exact .inl rfl
  · exact .inr rfl
theorem isMX_no {c : UInt8} (h : isMX c = false) : ((c.toNat : Int) == 33) = false ∧ ((c.toNat : Int) == 94) = false := by
  unfold isMX at h
  simp at h
  exact ⟨no_byte 33 (by decide) h.1, no_byte 94 (by decide) h.2⟩

theorem take_any (p : UInt8 → Bool) (s : ByteArray) (k : Nat) (h : k < s.size) : ((lst s).take (k + 1)).any p = (((lst s).take k).any p || p s[k]) := by
  have h' : k < (lst s).length := by rw [lst_len]; exact h
  rw [List.take_succ_eq_append_getElem h', List.any_append]
  have e : (lst s)[k] = s[k] := rfl
  rw [e]
  simp
theorem take_any_true {p : UInt8 → Bool} {s : ByteArray} {k : Nat} (h : k < s.size) (hp : p s[k] = true) : (lst s).any p = true := by
  rw [List.any_eq_true]
  refine ⟨s[k], ?_, hp⟩
  have h' : k < (lst s).length := by rw [lst_len]; exact h
  exact List.getElem_mem h'
theorem take_all (s : ByteArray) : (lst s).take s.size = lst s := by rw [← lst_len]; exact List.take_length


/-- IsMonotoneFormula of the program. -/
theorem Mon.impl (s : ByteArray) (w : World) :
    Calls Try.prog 23 #[.string s] w fun e w' => e = .returned (.bool (monB s)) ∧ Below w.heap.size w w' := by
  have HI := IsF.impl s
  unfold monB
  cases h : isF s with
  | false =>
    rw [h] at HI
    replace HI := Lib.hid HI
    clear h
    go_enter Try.func23, Try.ntmps23
    go_wp2_with fail
    refine (HI.out _).mono ?_
    rintro e w1 ⟨rfl, hb⟩
    go_wp2_with fail
    go_ret
    exact ⟨rfl, hb⟩
  | true =>
    rw [h] at HI
    have HC : ∀ w, Calls Try.prog 33 #[.string s, .string ⟨#[33, 94]⟩] w fun e w' => e = .returned (.bool ((lst s).any isMX)) ∧ Below w.heap.size w w' := fun w => by
      have := Any.contains s h [33, 94] (by decide) (by decide) w
      rw [containsAny_any] at this
      simp only [isMX_list] at this
      exact this
    replace HI := Lib.hid HI
    have HD := Lib.hid HC
    clear h HC
    generalize (lst s).any isMX = b at *
    go_enter Try.func23, Try.ntmps23
    go_wp2_with fail
    refine (HI.out _).mono ?_
    rintro e w1 ⟨rfl, hb⟩
    go_wp2_with fail
    refine (HD.out _).mono ?_
    rintro e w2 ⟨rfl, hb2⟩
    go_wp2_with fail
    go_ret
    exact ⟨rfl, bstep hb hb2⟩

set_option maxRecDepth 100000 in
/-- IsMonotoneFormula of the model. -/
theorem Mon.model (s : ByteArray) (hs : (s.size : Int) ≤ 1048576) (w : World) :
    Calls Try.prog 22 #[.string s] w fun e w' => e = .returned (.bool (monB s)) ∧ w = w' := by
  have HI := Lib.hid (IsF.model s)
  have HT : Hid (∀ k (h : k < s.size), isMX s[k] = true → monB s = false) := Lib.hid fun k h hp => by unfold monB; rw [take_any_true h hp]; simp
  have HE : Hid (((lst s).take s.size).any isMX = false → monB s = isF s) := Lib.hid fun h => by unfold monB; rw [take_all] at h; rw [h]; simp
  have HS := Lib.hid (take_any isMX s)
  go_enter Try.func22, Try.ntmps22
  go_wp2_with fail
  go_loop [3] (fun i => ∃ k : Nat, k ≤ s.size ∧ i = .int .i64 (k : Int) ∧ ((lst s).take k).any isMX = false) (fun i => s.size + 1 - (intOf i).toNat)
  case atStart => exact ⟨0, Nat.zero_le _, rfl, rfl⟩
  case round =>
    obtain ⟨k, hk, rfl, hn⟩ := hrel
    have HN := Lib.hid hn
    clear hn
    by_cases hlt : k < s.size
    · cases hp : isMX s[k] with
      | true =>
        have hq := isMX_yes hp
        have HB := Lib.hid (HT.out k hlt hp)
        clear hp
        rcases hq with q | q
        all_goals
          go_wp2_with fail
          go_ret
          exact ⟨ret_bool HB.out.symm, rfl⟩
      | false =>
        obtain ⟨t1, t2⟩ := isMX_no hp
        have HP := Lib.hid hp
        clear hp
        go_wp2
        go_round
        case rel => exact ⟨k + 1, by omega, by go_num, by rw [HS.out k hlt, HN.out, HP.out]; rfl⟩
        case measure => simp [intOf]; omega
    · obtain rfl : k = s.size := by omega
      have HB := Lib.hid (HE.out HN.out)
      go_wp2_with fail
      refine (HI.out _).mono ?_
      rintro e w1 ⟨rfl, rfl⟩
      go_wp2_with fail
      go_ret
      exact ⟨ret_bool HB.out.symm, rfl⟩


end Go.Proofs.Ytpniefagpinbdaa
