/-
  Chapter 5: values, depths, pushing negations down, of the model: at places of a text.
-/
import Derived.Test.YtpniefagpinbdaaFrmE
import Derived.Test.YtpniefagpinbdaaFrmW
import Derived.Test.YtpniefagpinbdaaFrmP
namespace Go.Proofs.Ytpniefagpinbdaa
open Go.RowKit Plain Go.Shelf
set_option linter.unusedVariables false

/-- A formula begins at a place of a text. -/
def At (s : ByteArray) (k : Nat) (f : Frm) : Prop := ∃ r, (lst s).drop k = txt f ++ r

theorem At.len {s : ByteArray} {k : Nat} {f : Frm} (h : At s k f) : k + (txt f).length ≤ s.size := by
  obtain ⟨r, h⟩ := h
  have hl := congrArg List.length h
  simp only [List.length_append, List.length_drop, lst_len] at hl
  have := txt_pos f
  omega

theorem At.head {s : ByteArray} {k : Nat} {f : Frm} (h : At s k f) : ∃ hk : k < s.size, (txt f).head? = some s[k] := by
  have hk : k < s.size := by have := h.len; have := txt_pos f; omega
  obtain ⟨r, h⟩ := h
  rw [lst_drop s k hk] at h
  refine ⟨hk, ?_⟩
  have hp := txt_pos f
  cases ht : txt f with
  | nil => rw [ht] at hp; simp at hp
  | cons c l => rw [ht] at h; simp at h; rw [h.1]; rfl

theorem At.neg {s : ByteArray} {k : Nat} {f : Frm} (h : At s k (.neg f)) : At s (k + 1) f := by
  obtain ⟨r, h⟩ := h
  refine ⟨r, ?_⟩
  rw [← List.drop_drop, h]; simp [txt]

theorem At.fst {s : ByteArray} {k : Nat} {o : Bop} {f g : Frm} (h : At s k (.bin o f g)) : At s (k + 1) f := by
  obtain ⟨r, h⟩ := h
  refine ⟨txt g ++ r, ?_⟩
  rw [← List.drop_drop, h]; simp [txt]

theorem At.snd {s : ByteArray} {k : Nat} {o : Bop} {f g : Frm} (h : At s k (.bin o f g)) : At s (k + 1 + (txt f).length) g := by
  obtain ⟨r, h⟩ := h
  refine ⟨r, ?_⟩
  rw [Nat.add_assoc, ← List.drop_drop, h]; simp [txt, ← List.drop_drop]

theorem At.endZ {s : ByteArray} {k : Nat} {f : Frm} (h : At s k f) : endZ s k = ((k + (txt f).length : Nat) : Int) := by
  have hl := h.len
  obtain ⟨r, h⟩ := h
  have h2 : rd ((lst s).drop k) = some (f, r) := by rw [h]; exact rd_full f r
  obtain ⟨h3, h4⟩ := rd_at h2 (by omega)
  rw [h3] at h2
  exact endZ_of_some h2 h4

theorem At.code {s : ByteArray} {k : Nat} {o : Bop} {f g : Frm} (h : At s k (.bin o f g)) : ∃ hk : k < s.size, s[k] = o.code := by
  obtain ⟨hk, hh⟩ := h.head
  exact ⟨hk, by simpa [txt, eq_comm] using hh⟩
theorem At.mark {s : ByteArray} {k : Nat} {f : Frm} (h : At s k (.neg f)) : ∃ hk : k < s.size, s[k] = 33 := by
  obtain ⟨hk, hh⟩ := h.head
  exact ⟨hk, by simpa [txt, eq_comm] using hh⟩
theorem At.con {s : ByteArray} {k : Nat} {b : Bool} (h : At s k (.con b)) : ∃ hk : k < s.size, s[k] = conC b := by
  obtain ⟨hk, hh⟩ := h.head
  exact ⟨hk, by simpa [txt, eq_comm] using hh⟩
theorem At.var {s : ByteArray} {k : Nat} {i : Fin 5} (h : At s k (.var i)) : ∃ hk : k < s.size, s[k] = letC i := by
  obtain ⟨hk, hh⟩ := h.head
  exact ⟨hk, by simpa [txt, eq_comm] using hh⟩

theorem At.all {s : ByteArray} {f : Frm} (h : asF (lst s) = some f) : At s 0 f := ⟨[], by rw [List.drop_zero, List.append_nil]; exact (asF_some h).1⟩

theorem letter_cases (i : Fin 5) : i = 0 ∨ i = 1 ∨ i = 2 ∨ i = 3 ∨ i = 4 := by revert i; decide


set_option maxRecDepth 100000 in
set_option maxHeartbeats 1000000 in
theorem Depth.model (s : ByteArray) (hs : (s.size : Int) ≤ 60) (f : Frm) : ∀ (k : Nat) (w : World), At s k f →
    Calls Try.prog 35 #[.string s, .int .i64 (k : Int)] w fun e w' => e = .returned (.int .i64 (depth f : Int)) ∧ w = w' := by
  induction f with
  | con b =>
    intro k w h
    obtain ⟨hlt, hc⟩ := h.con
    cases b
    case false =>
      have q := num_48 hc
      clear h hc
      go_enter Try.func35, Try.ntmps35
      go_wp2_with fail
      go_ret
      exact ⟨rfl, rfl⟩
    case true =>
      have q := num_49 hc
      clear h hc
      go_enter Try.func35, Try.ntmps35
      go_wp2_with fail
      go_ret
      exact ⟨rfl, rfl⟩
  | var i =>
    intro k w h
    obtain ⟨hlt, hc⟩ := h.var
    rcases letter_cases i with rfl | rfl | rfl | rfl | rfl
    all_goals
      first | have q := num_97 hc | have q := num_98 hc | have q := num_99 hc | have q := num_100 hc | have q := num_101 hc
      clear h hc
      go_enter Try.func35, Try.ntmps35
      go_wp2_with fail
      go_ret
      exact ⟨rfl, rfl⟩
  | neg f ih =>
    intro k w h
    obtain ⟨hlt, hc⟩ := h.mark
    have q := num_33 hc
    have IH : ∀ w, Calls Try.prog 35 #[.string s, .int .i64 ((k : Int) + 1)] w fun e w' => e = .returned (.int .i64 (depth f : Int)) ∧ w = w' := fun w => ih (k + 1) w h.neg
    have HI := Lib.hid IH
    show Calls _ _ _ _ (fun e w' => e = .returned (.int .i64 (depth f : Int)) ∧ _)
    clear h hc IH ih
    go_enter Try.func35, Try.ntmps35
    go_wp2_with fail
    refine (HI.out _).mono ?_
    rintro e w1 ⟨rfl, rfl⟩
    go_wp2_with fail
    go_ret
    exact ⟨rfl, rfl⟩
  | bin o f g ihf ihg =>
    intro k w h
    obtain ⟨hlt, hc⟩ := h.code
    have hl := h.len
    have h60 : depth (.bin o f g) ≤ 60 := by have := depth_le (.bin o f g); omega
    have IHF : ∀ w, Calls Try.prog 35 #[.string s, .int .i64 ((k : Int) + 1)] w fun e w' => e = .returned (.int .i64 (depth f : Int)) ∧ w = w' := fun w => ihf (k + 1) w h.fst
    have IHE : ∀ w, Calls Try.prog 28 #[.string s, .int .i64 ((k : Int) + 1)] w fun e w' => e = .returned (.int .i64 ((k + 1 + (txt f).length : Nat) : Int)) ∧ w = w' := fun w => by
      have := End.any s hs s.size (k + 1) w (by omega) hlt
      rw [h.fst.endZ] at this
      exact this
    have IHG := fun w => ihg (k + 1 + (txt f).length) w h.snd
    have HF := Lib.hid IHF
    have HE := Lib.hid IHE
    have HG := Lib.hid IHG
    have HV : Hid (depth (.bin o f g) = 1 + max (depth f) (depth g)) := Lib.hid rfl
    have hw : IntKind.i64.wrap (1 + max (depth f : Int) (depth g : Int)) = 1 + max (depth f : Int) (depth g : Int) := IntWalk.i64_in _ (by have := HV.out; omega)
    generalize k + 1 + (txt f).length = j at HE HG
    generalize depth (.bin o f g) = z at HV
    generalize depth f = a at *
    generalize depth g = b at *
    have q : (s[k].toNat : Int) = 38 ∨ (s[k].toNat : Int) = 124 ∨ (s[k].toNat : Int) = 94 := by
      rw [hc]; cases o <;> decide
    clear h hc ihf ihg IHF IHE IHG hl h60
    rcases q with q | q | q
    all_goals
      go_enter Try.func35, Try.ntmps35
      go_wp2_with fail
      refine (HF.out _).mono ?_
      rintro e w1 ⟨rfl, rfl⟩
      go_wp2_with fail
      refine (HE.out _).mono ?_
      rintro e w1 ⟨rfl, rfl⟩
      go_wp2_with fail
      refine (HG.out _).mono ?_
      rintro e w1 ⟨rfl, rfl⟩
      go_wp2
      go_ret
      refine ⟨ret_int ?_, rfl⟩
      rw [HV.out]; first | rfl | omega | (simp; done) | (simp; omega)


theorem letter_test (x i : Nat) (hx : x < 32) : (bits .and .i64 ((x : Int) / 2 ^ i) 1 == 1) = x.testBit i := by
  rw [letter_value x i hx]
  cases x.testBit i <;> rfl
theorem letter_test0 (x : Nat) (hx : x < 32) : (bits .and .i64 (x : Int) 1 == 1) = x.testBit 0 := by
  have h := letter_test x 0 hx
  rw [Int.pow_zero, Int.ediv_one] at h
  exact h


set_option maxRecDepth 100000 in
set_option maxHeartbeats 1000000 in
theorem Value.model (s : ByteArray) (hs : (s.size : Int) ≤ 60) (x : Nat) (hx : x < 32) (f : Frm) : ∀ (k : Nat) (w : World), At s k f →
    Calls Try.prog 31 #[.string s, .int .i64 (k : Int), .int .i64 (x : Int)] w fun e w' => e = .returned (.bool (val x f)) ∧ w = w' := by
  induction f with
  | con b =>
    intro k w h
    obtain ⟨hlt, hc⟩ := h.con
    cases b
    case false =>
      have q := num_48 hc
      clear h hc
      go_enter Try.func31, Try.ntmps31
      go_wp2_with fail
      go_ret
      exact ⟨rfl, rfl⟩
    case true =>
      have q := num_49 hc
      clear h hc
      go_enter Try.func31, Try.ntmps31
      go_wp2_with fail
      go_ret
      exact ⟨rfl, rfl⟩
  | var i =>
    intro k w h
    obtain ⟨hlt, hc⟩ := h.var
    rcases letter_cases i with rfl | rfl | rfl | rfl | rfl
    all_goals
      first
        | (have q := num_97 hc; have hv := letter_test0 x hx)
        | (have q := num_98 hc; have hv := letter_test x 1 hx)
        | (have q := num_99 hc; have hv := letter_test x 2 hx)
        | (have q := num_100 hc; have hv := letter_test x 3 hx)
        | (have q := num_101 hc; have hv := letter_test x 4 hx)
      clear h hc
      go_enter Try.func31, Try.ntmps31
      go_wp2_with fail
      go_ret
      refine ⟨ret_bool ?_, rfl⟩
      first | rfl | exact hv | exact (Nat.testBit_zero x).symm
  | neg f ih =>
    intro k w h
    obtain ⟨hlt, hc⟩ := h.mark
    have q := num_33 hc
    have IH : ∀ w, Calls Try.prog 31 #[.string s, .int .i64 ((k : Int) + 1), .int .i64 (x : Int)] w fun e w' => e = .returned (.bool (val x f)) ∧ w = w' := fun w => ih (k + 1) w h.neg
    have HI := Lib.hid IH
    show Calls _ _ _ _ (fun e w' => e = .returned (.bool (!val x f)) ∧ _)
    clear h hc IH ih
    generalize val x f = b at *
    go_enter Try.func31, Try.ntmps31
    go_wp2_with fail
    refine (HI.out _).mono ?_
    rintro e w1 ⟨rfl, rfl⟩
    go_wp2_with fail
    go_ret
    exact ⟨rfl, rfl⟩
  | bin o f g ihf ihg =>
    intro k w h
    obtain ⟨hlt, hc⟩ := h.code
    have hl := h.len
    have IHF : ∀ w, Calls Try.prog 31 #[.string s, .int .i64 ((k : Int) + 1), .int .i64 (x : Int)] w fun e w' => e = .returned (.bool (val x f)) ∧ w = w' := fun w => ihf (k + 1) w h.fst
    have IHE : ∀ w, Calls Try.prog 28 #[.string s, .int .i64 ((k : Int) + 1)] w fun e w' => e = .returned (.int .i64 ((k + 1 + (txt f).length : Nat) : Int)) ∧ w = w' := fun w => by
      have := End.any s hs s.size (k + 1) w (by omega) hlt
      rw [h.fst.endZ] at this
      exact this
    have IHG := fun w => ihg (k + 1 + (txt f).length) w h.snd
    have HF := Lib.hid IHF
    have HE := Lib.hid IHE
    have HG := Lib.hid IHG
    generalize k + 1 + (txt f).length = j at HE HG
    have q : ((s[k].toNat : Int) = 38 ∧ val x (.bin o f g) = (val x f && val x g)) ∨ ((s[k].toNat : Int) = 124 ∧ val x (.bin o f g) = (val x f || val x g)) ∨ ((s[k].toNat : Int) = 94 ∧ val x (.bin o f g) = (val x f != val x g)) := by
      rw [hc]; cases o
      · exact .inl ⟨rfl, rfl⟩
      · exact .inr (.inl ⟨rfl, rfl⟩)
      · exact .inr (.inr ⟨rfl, rfl⟩)
    generalize val x (.bin o f g) = z at *
    generalize val x f = a at *
    generalize val x g = b at *
    clear h hc ihf ihg IHF IHE IHG hl
    rcases q with ⟨q, rfl⟩ | ⟨q, rfl⟩ | ⟨q, rfl⟩
    all_goals
      cases a
      all_goals
        go_enter Try.func31, Try.ntmps31
        go_wp2_with fail
        refine (HF.out _).mono ?_
        rintro e w1 ⟨rfl, rfl⟩
        go_wp2_with fail
        first
          | (go_ret; exact ⟨rfl, rfl⟩)
          | (refine (HE.out _).mono ?_
             rintro e w1 ⟨rfl, rfl⟩
             go_wp2_with fail
             refine (HG.out _).mono ?_
             rintro e w1 ⟨rfl, rfl⟩
             go_wp2_with fail
             go_ret
             refine ⟨ret_bool ?_, rfl⟩
             cases b <;> rfl)


end Go.Proofs.Ytpniefagpinbdaa
