/-
  Chapter 5: reading a formula, of the program (readFormula, parseFormula, IsFormula).
-/
import Derived.Test.YtpniefagpinbdaaFrmE
import Derived.Test.YtpniefagpinbdaaTabA
import Derived.Lib.Strings
import Derived.Lib.IndexBytes
import Derived.Shelf.Small.Strs
import Derived.Test.YtpniefagpinbdaaShelf

namespace Go.Proofs.Ytpniefagpinbdaa
open Go.RowKit Plain Go.Shelf
set_option linter.unusedVariables false

/-- The dynamic type of a formula of the program, and its value. -/
def ty : Frm → TypeId
  | .con _ => 56
  | .var _ => 61
  | .neg _ => 58
  | .bin _ _ _ => 60
def raw : Frm → Value
  | .con b => .int .u8 ((conC b).toNat : Int)
  | .var i => .int .i64 (i.val : Int)
  | .neg f => .agg #[.iface (ty f) (raw f)]
  | .bin o f g => .agg #[.int .u8 (o.code.toNat : Int), .iface (ty f) (raw f), .iface (ty g) (raw g)]

/-- What readFormula answers. -/
def rdV (l : List UInt8) : Value := match rd l with
  | none => .tuple #[.nilIface, .string ⟨#[]⟩, .bool false]
  | some (f, r) => .tuple #[.iface (ty f) (raw f), .string ⟨r.toArray⟩, .bool true]

theorem rdV_none {l : List UInt8} (h : rd l = none) : rdV l = .tuple #[.nilIface, .string ⟨#[]⟩, .bool false] := by unfold rdV; rw [h]
theorem rdV_some {l r : List UInt8} {f : Frm} (h : rd l = some (f, r)) : rdV l = .tuple #[.iface (ty f) (raw f), .string ⟨r.toArray⟩, .bool true] := by unfold rdV; rw [h]

theorem lst_tail (s : ByteArray) : lst (s.extract 1 s.size) = (lst s).drop 1 := by
  exact Lib.extract_to_end s 1

theorem full_ne (s : ByteArray) (h : 0 < s.size) : s.toList.isEmpty = false := by
  rw [Lib.toList_data]
  have := lst_drop s 0 h
  rw [List.drop_zero] at this
  change (lst s).isEmpty = false
  rw [this]; rfl
theorem empty_is (s : ByteArray) (h : ¬ 0 < s.size) : s.toList.isEmpty = true := by
  rw [Lib.toList_data]
  have : lst s = [] := List.eq_nil_of_length_eq_zero (by rw [lst_len]; omega)
  change (lst s).isEmpty = true
  rw [this]; rfl

theorem ba_lst (s : ByteArray) : (⟨(lst s).toArray⟩ : ByteArray) = s := by cases s; simp [lst]
theorem lst_ba (l : List UInt8) : lst ⟨l.toArray⟩ = l := by simp [lst]
theorem ba_size (l : List UInt8) : (⟨l.toArray⟩ : ByteArray).size = l.length := by rw [← lst_len, lst_ba]

/-- strings.IndexByte in the five letters. -/
theorem Rd.letter (c : UInt8) (w : World) :
    Calls Try.prog 48 #[.string ⟨#[97, 98, 99, 100, 101]⟩, .int .u8 (c.toNat : Int)] w fun e w' => e = .returned (.int .i64 (Lib.indexByte [97, 98, 99, 100, 101] c)) ∧ w = w' :=
  (Any.strings_IndexByte Try.lays137 ⟨#[97, 98, 99, 100, 101]⟩ (c.toNat : Int) w).mono fun e w' ⟨h1, h2⟩ => ⟨by rw [h1]; simp, h2.symm⟩

theorem Rd.letter_at (i : Fin 5) (x : Int) (hx : x = 97 + (i.val : Int)) (w : World) :
    Calls Try.prog 48 #[.string ⟨#[97, 98, 99, 100, 101]⟩, .int .u8 x] w fun e w' => e = .returned (.int .i64 (i.val : Int)) ∧ w = w' := by
  have h := Rd.letter (letC i) w
  have e1 : ((letC i).toNat : Int) = x := by rw [hx]; clear hx h; revert i; decide
  have e2 : Lib.indexByte [97, 98, 99, 100, 101] (letC i) = (i.val : Int) := by clear hx h e1; revert i; decide
  rw [e1, e2] at h
  exact h

theorem bad_letter {c : UInt8} (h : cls c = .bad) : Lib.indexByte [97, 98, 99, 100, 101] c = -1 := by
  obtain ⟨_, _, _, _, _, _, h1, h2, h3, h4, h5⟩ := cls_bad c h
  simp [Lib.indexByte, h1.symm, h2.symm, h3.symm, h4.symm, h5.symm]

set_option maxRecDepth 100000 in
set_option maxHeartbeats 1000000 in
theorem Rd.any (n : Nat) : ∀ (s : ByteArray) (w : World), s.size ≤ n → (s.size : Int) ≤ 60 →
    Calls Try.prog 40 #[.string s] w fun e w' => e = .returned (rdV (lst s)) ∧ Below w.heap.size w w' := by
  induction n with
  | zero =>
    intro s w h h60
    have hne := empty_is s (by omega)
    have hnil : lst s = [] := List.eq_nil_of_length_eq_zero (by rw [lst_len]; omega)
    rw [hnil]
    clear h hnil
    go_enter Try.func40, Try.ntmps40
    go_wp2_with fail
    go_ret3
    exact ⟨rfl, Below.refl _ _⟩
  | succ n ih =>
    intro s w h h60
    by_cases hlt : 0 < s.size
    · have hd : lst s = s[0] :: lst (s.extract 1 s.size) := by rw [lst_tail, ← lst_drop s 0 hlt]; rfl
      have hne := full_ne s hlt
      have hz : (s.extract 1 s.size).size = s.size - 1 := by simp
      rcases code_cases s[0] with hc | hc | hc | hc | hc | hc | hc | hc | hc | hc | hc | hc
      case inr.inr.inr.inr.inr.inl | inr.inr.inr.inr.inr.inr.inl =>
        have HR : Hid (rdV (lst s) = .tuple #[.iface 56 (.int .u8 (s[0].toNat : Int)), .string (s.extract 1 s.size), .bool true]) := by
          rw [hd, hc]
          first
            | exact Lib.hid ((rdV_some (rd_con false _)).trans (by rw [ba_lst]; rfl))
            | exact Lib.hid ((rdV_some (rd_con true _)).trans (by rw [ba_lst]; rfl))
        first | have q := num_48 hc | have q := num_49 hc
        rw [q] at HR
        clear ih h hd hc hz
        go_enter Try.func40, Try.ntmps40
        go_wp2_with fail
        go_quiet (fail)
        go_wp2_with fail
        go_ret3
        exact ⟨by rw [HR.out]; rfl, below_drewN (Below.refl _ _) _⟩
      case inl | inr.inl | inr.inr.inl | inr.inr.inr.inl | inr.inr.inr.inr.inl =>
        have HL : ∃ i : Fin 5, (s[0].toNat : Int) = 97 + (i.val : Int) ∧ s[0] = letC i := by
          rw [hc]
          first | exact ⟨0, by decide⟩ | exact ⟨1, by decide⟩ | exact ⟨2, by decide⟩ | exact ⟨3, by decide⟩ | exact ⟨4, by decide⟩
        obtain ⟨i, hi, hci⟩ := HL
        have HR : Hid (rdV (lst s) = .tuple #[.iface 61 (.int .i64 (i.val : Int)), .string (s.extract 1 s.size), .bool true]) := by
          rw [hd, hci]
          exact Lib.hid ((rdV_some (rd_var i _)).trans (by rw [ba_lst]; rfl))
        first | have q := num_97 hc | have q := num_98 hc | have q := num_99 hc | have q := num_100 hc | have q := num_101 hc
        have HI := Lib.hid (Rd.letter_at i _ (q.symm.trans hi))
        have tn : decide ((i.val : Int) < 0) = false := decide_eq_false (by omega)
        clear ih h hd hc hz hi hci
        go_enter Try.func40, Try.ntmps40
        go_wp2_with fail
        go_quiet (fail)
        go_wp2_with fail
        refine (HI.out _).mono ?_
        rintro e w' ⟨rfl, rfl⟩
        go_wp2_with fail
        go_ret3
        exact ⟨by rw [HR.out]; rfl, below_drewN (Below.refl _ _) _⟩
      case inr.inr.inr.inr.inr.inr.inr.inr.inr.inr.inr =>
        have HR : Hid (rdV (lst s) = .tuple #[.nilIface, .string ⟨#[]⟩, .bool false]) := by
          rw [hd]
          exact Lib.hid (rdV_none (rd_bad _ hc))
        obtain ⟨q1, q2, q3, q4, q5, q6, q7, q8, q9, q10, q11⟩ := bad_tests hc
        have HI := Rd.letter s[0]
        rw [bad_letter hc] at HI
        replace HI := Lib.hid HI
        clear ih h hd hc hz q7 q8 q9 q10 q11
        go_enter Try.func40, Try.ntmps40
        go_wp2_with fail
        go_quiet (fail)
        go_wp2_with fail
        refine (HI.out _).mono ?_
        rintro e w' ⟨rfl, rfl⟩
        go_wp2_with fail
        go_ret3
        exact ⟨by rw [HR.out]; rfl, below_drewN (Below.refl _ _) _⟩
      case inr.inr.inr.inr.inr.inr.inr.inl =>
        have q := num_33 hc
        have IH := fun w => ih (s.extract 1 s.size) w (by omega) (by omega)
        cases hr : rd (lst (s.extract 1 s.size)) with
        | none =>
          have HR : Hid (rdV (lst s) = .tuple #[.nilIface, .string ⟨#[]⟩, .bool false]) := by
            rw [hd, hc]
            exact Lib.hid (rdV_none (rd_neg_none hr))
          rw [rdV_none hr] at IH
          have HI := Lib.hid IH
          clear ih h hd hc hz IH hr
          go_enter Try.func40, Try.ntmps40
          go_wp2_with fail
          go_quiet (fail)
          go_wp2_with fail
          refine (HI.out _).mono ?_
          rintro e w1 ⟨rfl, hb⟩
          go_wp2_with fail
          go_ret3
          exact ⟨by rw [HR.out]; rfl, (below_drewN (Below.refl _ _) _).trans (hb.mono (by simp))⟩
        | some p =>
          obtain ⟨f, r⟩ := p
          have HR : Hid (rdV (lst s) = .tuple #[.iface 58 (.agg #[.iface (ty f) (raw f)]), .string ⟨r.toArray⟩, .bool true]) := by
            rw [hd, hc]
            exact Lib.hid (rdV_some (rd_neg_some hr))
          rw [rdV_some hr] at IH
          have HI := Lib.hid IH
          clear ih h hd hc hz IH hr
          generalize ty f = tf at HI HR
          generalize raw f = vf at HI HR
          go_enter Try.func40, Try.ntmps40
          go_wp2_with fail
          go_quiet (fail)
          go_wp2_with fail
          refine (HI.out _).mono ?_
          rintro e w1 ⟨rfl, hb⟩
          go_wp2_with fail
          go_ret3
          exact ⟨by rw [HR.out]; rfl, (below_drewN (Below.refl _ _) _).trans (hb.mono (by simp))⟩
      all_goals
        obtain ⟨o, ho⟩ : ∃ o : Bop, s[0] = o.code := by
          rw [hc]
          first | exact ⟨.band, rfl⟩ | exact ⟨.bor, rfl⟩ | exact ⟨.bxor, rfl⟩
        have q0 : (s[0].toNat : Int) = (o.code.toNat : Int) := by rw [ho]
        first | have q := num_38 hc | have q := num_124 hc | have q := num_94 hc
        have IH := fun w => ih (s.extract 1 s.size) w (by omega) (by omega)
        cases hr : rd (lst (s.extract 1 s.size)) with
        | none =>
          have HR : Hid (rdV (lst s) = .tuple #[.nilIface, .string ⟨#[]⟩, .bool false]) := by
            rw [hd, ho]
            exact Lib.hid (rdV_none (rd_bin_none o hr))
          rw [rdV_none hr] at IH
          have HI := Lib.hid IH
          clear ih h hd hc hz IH hr ho q0
          go_enter Try.func40, Try.ntmps40
          go_wp2_with fail
          go_quiet (fail)
          go_wp2_with fail
          refine (HI.out _).mono ?_
          rintro e w1 ⟨rfl, hb⟩
          go_wp2_with fail
          go_ret3
          exact ⟨by rw [HR.out]; rfl, (below_drewN (Below.refl _ _) _).trans (hb.mono (by simp))⟩
        | some p =>
          obtain ⟨f, r⟩ := p
          rw [rdV_some hr] at IH
          have hl := congrArg List.length (rd_sound hr)
          rw [List.length_append, lst_len] at hl
          have IH2 := fun w => ih ⟨r.toArray⟩ w (by rw [ba_size]; omega) (by rw [ba_size]; omega)
          rw [lst_ba] at IH2
          cases hr2 : rd r with
          | none =>
            have HR : Hid (rdV (lst s) = .tuple #[.nilIface, .string ⟨#[]⟩, .bool false]) := by
              rw [hd, ho]
              exact Lib.hid (rdV_none (rd_bin_none2 o hr hr2))
            rw [rdV_none hr2] at IH2
            have HI := Lib.hid IH
            have HJ := Lib.hid IH2
            clear ih h hd hc hz IH hr ho q0 IH2 hr2 hl
            generalize ty f = tf at HI HR
            generalize raw f = vf at HI HR
            go_enter Try.func40, Try.ntmps40
            go_wp2_with fail
            go_quiet (fail)
            go_wp2_with fail
            refine (HI.out _).mono ?_
            rintro e w1 ⟨rfl, hb⟩
            go_wp2_with fail
            refine (HJ.out _).mono ?_
            rintro e w2 ⟨rfl, hb2⟩
            go_wp2_with fail
            go_ret3
            exact ⟨by rw [HR.out]; rfl, bstep ((below_drewN (Below.refl _ _) _).trans (hb.mono (by simp))) hb2⟩
          | some p2 =>
            obtain ⟨g, r2⟩ := p2
            have HR : Hid (rdV (lst s) = .tuple #[.iface 60 (.agg #[.int .u8 (s[0].toNat : Int), .iface (ty f) (raw f), .iface (ty g) (raw g)]), .string ⟨r2.toArray⟩, .bool true]) := by
              rw [hd, ho]
              exact Lib.hid (rdV_some (rd_bin_some o hr hr2))
            rw [q] at HR
            rw [rdV_some hr2] at IH2
            have HI := Lib.hid IH
            have HJ := Lib.hid IH2
            clear ih h hd hc hz IH hr ho q0 IH2 hr2 hl
            generalize ty f = tf at HI HR
            generalize raw f = vf at HI HR
            generalize ty g = tg at HJ HR
            generalize raw g = vg at HJ HR
            go_enter Try.func40, Try.ntmps40
            go_wp2_with fail
            go_quiet (fail)
            go_wp2_with fail
            refine (HI.out _).mono ?_
            rintro e w1 ⟨rfl, hb⟩
            go_wp2_with fail
            refine (HJ.out _).mono ?_
            rintro e w2 ⟨rfl, hb2⟩
            go_wp2_with fail
            go_ret3
            exact ⟨by rw [HR.out]; rfl, bstep ((below_drewN (Below.refl _ _) _).trans (hb.mono (by simp))) hb2⟩
    · have hne := empty_is s hlt
      have hnil : lst s = [] := List.eq_nil_of_length_eq_zero (by rw [lst_len]; omega)
      rw [hnil]
      clear h hnil ih hlt
      go_enter Try.func40, Try.ntmps40
      go_wp2_with fail
      go_ret3
      exact ⟨rfl, Below.refl _ _⟩

/-- What parseFormula answers. -/
def asV (l : List UInt8) : Value := match asF l with
  | none => .tuple #[.nilIface, .bool false]
  | some f => .tuple #[.iface (ty f) (raw f), .bool true]
theorem asV_none {l : List UInt8} (h : asF l = none) : asV l = .tuple #[.nilIface, .bool false] := by unfold asV; rw [h]
theorem asV_some {l : List UInt8} {f : Frm} (h : asF l = some f) : asV l = .tuple #[.iface (ty f) (raw f), .bool true] := by unfold asV; rw [h]

/-- parseFormula of the program. -/
theorem Rd.parse (s : ByteArray) (w : World) :
    Calls Try.prog 29 #[.string s] w fun e w' => e = .returned (asV (lst s)) ∧ Below w.heap.size w w' := by
  by_cases h : (s.size : Int) ≤ 60
  · have HI := fun w => Rd.any s.size s w (Nat.le_refl _) h
    cases hr : rd (lst s) with
    | none =>
      rw [rdV_none hr] at HI
      rw [asV_none (asF_none hr)]
      replace HI := Lib.hid HI
      clear hr
      go_enter Try.func29, Try.ntmps29
      go_wp2_with fail
      refine (HI.out _).mono ?_
      rintro e w1 ⟨rfl, hb⟩
      go_wp2_with fail
      go_ret2
      exact ⟨rfl, hb⟩
    | some p =>
      obtain ⟨f, r⟩ := p
      rw [rdV_some hr] at HI
      cases r with
      | nil =>
        rw [asV_some (asF_whole (by rw [lst_len]; omega) hr)]
        have hne : (⟨#[]⟩ : ByteArray).toList.isEmpty = true := by rw [Lib.toList_data]; rfl
        replace HI := Lib.hid HI
        clear hr
        generalize ty f = tf at HI ⊢
        generalize raw f = vf at HI ⊢
        go_enter Try.func29, Try.ntmps29
        go_wp2_with fail
        refine (HI.out _).mono ?_
        rintro e w1 ⟨rfl, hb⟩
        go_wp2_with fail
        go_ret2
        exact ⟨rfl, hb⟩
      | cons c r =>
        rw [asV_none (asF_rest hr)]
        have hne : (⟨(c :: r).toArray⟩ : ByteArray).toList.isEmpty = false := by rw [Lib.toList_data]; simp
        replace HI := Lib.hid HI
        clear hr
        generalize ty f = tf at HI
        generalize raw f = vf at HI
        generalize (⟨(c :: r).toArray⟩ : ByteArray) = t at HI hne
        go_enter Try.func29, Try.ntmps29
        go_wp2_with fail
        refine (HI.out _).mono ?_
        rintro e w1 ⟨rfl, hb⟩
        go_wp2_with fail
        go_ret2
        exact ⟨rfl, hb⟩
  · rw [asV_none (asF_long _ (by rw [lst_len]; omega))]
    go_enter Try.func29, Try.ntmps29
    go_wp2_with fail
    go_ret2
    exact ⟨rfl, Below.refl _ _⟩

/-- IsFormula of the program. -/
theorem IsF.impl (s : ByteArray) (w : World) :
    Calls Try.prog 12 #[.string s] w fun e w' => e = .returned (.bool (isF s)) ∧ Below w.heap.size w w' := by
  have HI := Rd.parse s
  unfold isF
  cases h : asF (lst s) with
  | none =>
    rw [asV_none h] at HI
    replace HI := Lib.hid HI
    clear h
    go_enter Try.func12, Try.ntmps12
    go_wp2_with fail
    refine (HI.out _).mono ?_
    rintro e w1 ⟨rfl, hb⟩
    go_wp2_with fail
    go_ret
    exact ⟨rfl, hb⟩
  | some f =>
    rw [asV_some h] at HI
    replace HI := Lib.hid HI
    clear h
    generalize ty f = tf at HI
    generalize raw f = vf at HI
    go_enter Try.func12, Try.ntmps12
    go_wp2_with fail
    refine (HI.out _).mono ?_
    rintro e w1 ⟨rfl, hb⟩
    go_wp2_with fail
    go_ret
    exact ⟨rfl, hb⟩

end Go.Proofs.Ytpniefagpinbdaa
