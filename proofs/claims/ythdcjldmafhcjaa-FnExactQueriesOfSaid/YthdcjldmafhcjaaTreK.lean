/-
  Chapter 7: parseTree, IsTree, QueriesOf and DepthOfTree of the program; DepthOfTree of the model.
-/
import Derived.Test.YthdcjldmafhcjaaTreJ
import Derived.Test.YthdcjldmafhcjaaTreR
import Derived.Test.YthdcjldmafhcjaaTabE
namespace Go.Proofs.Ythdcjldmafhcjaa
open Go.RowKit Plain Go.Shelf
set_option linter.unusedVariables false

set_option maxRecDepth 100000 in
/-- parseTree, no tree. -/
theorem Ps.bad (s : ByteArray) (h : asD (lst s) = none) (w : World) :
    Calls Try.prog 74 #[.string s] w fun e w' => e = .returned (.tuple #[.pointer none, .bool false]) ∧ Below w.heap.size w w' := by
  have HI := fun w => RdT.any s.size s 0 w (Nat.le_refl _) (by decide)
  cases hr : rdd 0 (lst s) with
  | none =>
    rw [hr] at HI
    have HA : ∀ w, Calls Try.prog 94 #[.string s, .int .i64 0] w fun e w' => e = .returned (.tuple #[.pointer none, .string ⟨#[]⟩]) ∧ Below w.heap.size w w' := fun w =>
      (HI w).mono fun e w' ⟨p, rs, he, ⟨hp, hrs⟩, hbb⟩ => ⟨by rw [he, hp, hrs], hbb⟩
    replace HA := Lib.hid HA
    clear HI hr h
    go_enter Try.func74, Try.ntmps74
    go_wp2_with fail
    refine (HA.out _).mono ?_
    rintro e w1 ⟨rfl, hb⟩
    go_wp2_with fail
    go_ret2
    exact ⟨rfl, hb⟩
  | some p =>
    obtain ⟨T, r⟩ := p
    rw [hr] at HI
    cases r with
    | nil => rw [asD_whole hr] at h; cases h
    | cons c r =>
      have HA : ∀ w, Calls Try.prog 94 #[.string s, .int .i64 0] w fun e w' => ∃ b, e = .returned (.tuple #[.pointer (some ⟨b, 0, none⟩), .string ⟨(c :: r).toArray⟩]) ∧ Below w.heap.size w w' := fun w =>
        (HI w).mono fun e w' ⟨p, rs, he, ⟨b, hp, hrs, _⟩, hbb⟩ => ⟨b, by rw [he, hp, hrs], hbb⟩
      have hne : (⟨(c :: r).toArray⟩ : ByteArray).toList.isEmpty = false := by rw [Lib.toList_data]; simp
      replace HA := Lib.hid HA
      clear HI hr h
      generalize (⟨(c :: r).toArray⟩ : ByteArray) = t at HA hne
      go_enter Try.func74, Try.ntmps74
      go_wp2_with fail
      refine (HA.out _).mono ?_
      rintro e w1 ⟨b, rfl, hb⟩
      go_wp2_with fail
      go_ret2
      exact ⟨rfl, hb⟩

set_option maxRecDepth 100000 in
/-- parseTree, a tree. -/
theorem Ps.good (s : ByteArray) (T : DT) (h : asD (lst s) = some T) (w : World) :
    Calls Try.prog 74 #[.string s] w fun e w' => ∃ b, e = .returned (.tuple #[.pointer (some ⟨b, 0, none⟩), .bool true]) ∧ TrIn w.heap.size w' T b ∧ Below w.heap.size w w' := by
  have HI := fun w => RdT.any s.size s 0 w (Nat.le_refl _) (by decide)
  have hr : rdd 0 (lst s) = some (T, []) := by
    obtain ⟨e, o, _⟩ := asD_some h
    have := rdd_full T 0 [] o
    rwa [List.append_nil, ← e] at this
  rw [hr] at HI
  have HA : ∀ w, Calls Try.prog 94 #[.string s, .int .i64 0] w fun e w' => ∃ b, e = .returned (.tuple #[.pointer (some ⟨b, 0, none⟩), .string ⟨#[]⟩]) ∧ TrIn w.heap.size w' T b ∧ Below w.heap.size w w' := fun w =>
    (HI w).mono fun e w' ⟨p, rs, he, ⟨b, hp, hrs, hti⟩, hbb⟩ => ⟨b, by rw [he, hp, hrs], hti, hbb⟩
  have hne : (⟨#[]⟩ : ByteArray).toList.isEmpty = true := by rw [Lib.toList_data]; rfl
  replace HA := Lib.hid HA
  clear HI hr h
  go_enter Try.func74, Try.ntmps74
  go_wp2_with fail
  refine (HA.out _).mono ?_
  rintro e w1 ⟨b, rfl, hti, hb⟩
  have HTI := Lib.hid hti
  clear hti
  go_wp2_with fail
  go_ret2
  exact ⟨b, rfl, HTI.out, hb⟩

set_option maxRecDepth 100000 in
/-- IsTree of the program. -/
theorem IsD.impl (s : ByteArray) (w : World) :
    Calls Try.prog 35 #[.string s] w fun e w' => e = .returned (.bool (isD s)) ∧ Below w.heap.size w w' := by
  cases h : asD (lst s) with
  | none =>
    rw [isD_none h]
    have HI := Lib.hid (Ps.bad s h)
    clear h
    go_enter Try.func35, Try.ntmps35
    go_wp2_with fail
    refine (HI.out _).mono ?_
    rintro e w1 ⟨rfl, hb⟩
    go_wp2_with fail
    go_ret
    exact ⟨rfl, hb⟩
  | some T =>
    rw [isD_some h]
    have HI := Lib.hid (Ps.good s T h)
    clear h
    go_enter Try.func35, Try.ntmps35
    go_wp2_with fail
    refine (HI.out _).mono ?_
    rintro e w1 ⟨b, rfl, hti, hb⟩
    clear hti
    go_wp2_with fail
    go_ret
    exact ⟨rfl, hb⟩

set_option maxRecDepth 100000 in
/-- QueriesOf of the program. -/
theorem Qu.impl (s : ByteArray) (x : Int) (w : World) :
    Calls Try.prog 45 #[.string s, .int .i64 x] w fun e w' => e = .returned (.int .i64 (quD s x)) ∧ Below w.heap.size w w' := by
  cases h : asD (lst s) with
  | none =>
    rw [quD_none x h]
    have HI := Lib.hid (Ps.bad s h)
    clear h
    go_enter Try.func45, Try.ntmps45
    go_wp2_with fail
    refine (HI.out _).mono ?_
    rintro e w1 ⟨rfl, hb⟩
    go_wp2_with fail
    go_ret
    exact ⟨rfl, hb⟩
  | some T =>
    have HI := Lib.hid (Ps.good s T h)
    have HN0 : ∀ w, Calls Try.prog 83 #[.int .i64 5, .int .i64 x] w fun e w' => e = .returned (.bool (inpB 5 x)) ∧ w = w' := fun w => Tab.input 5 x (by decide) w
    have HN := Lib.hid HN0
    clear HN0
    by_cases hx : 0 ≤ x ∧ x ≤ 31
    · obtain ⟨y, rfl⟩ : ∃ y : Nat, x = (y : Int) := ⟨x.toNat, by omega⟩
      have HIN : Hid (inpB 5 (y : Int) = true) := Lib.hid (inpB_yes (by omega))
      rw [quD_in h hx.2]
      have hn5 := num_5 (asD_some h).2.1 y
      have HT := Lib.hid (fun base b w => TrNum.any T y hx.2 hn5 base b w)
      clear h hn5
      go_enter Try.func45, Try.ntmps45
      go_wp2_with fail
      refine (HI.out _).mono ?_
      rintro e w1 ⟨b, rfl, hti, hb⟩
      have HTI := Lib.hid hti
      clear hti
      go_wp2_with fail
      refine (HN.out _).mono ?_
      rintro e w2 ⟨rfl, rfl⟩
      rw [HIN.out]
      go_wp2_with fail
      refine (HT.out _ _ _ HTI.out).mono ?_
      rintro e w3 ⟨rfl, hb3⟩
      go_wp2_with fail
      go_ret
      exact ⟨rfl, bstep hb hb3⟩
    · have HIN : Hid (inpB 5 x = false) := Lib.hid (inpB_no (by omega))
      rw [quD_out hx]
      clear h hx
      go_enter Try.func45, Try.ntmps45
      go_wp2_with fail
      refine (HI.out _).mono ?_
      rintro e w1 ⟨b, rfl, hti, hb⟩
      clear hti
      go_wp2_with fail
      refine (HN.out _).mono ?_
      rintro e w2 ⟨rfl, rfl⟩
      rw [HIN.out]
      go_wp2_with fail
      go_ret
      exact ⟨rfl, hb⟩

/-- The greatest number of letters for the inputs below k. -/
def Plain.depK (T : DT) : Nat → Nat
  | 0 => 0
  | k + 1 => max (depK T k) (numD T k)
theorem depK_5 {T : DT} (h : okD 0 T = true) (k : Nat) : depK T k ≤ 5 := by
  induction k with
  | zero => exact Nat.zero_le _
  | succ k ih => have := num_5 h k; unfold depK; omega
theorem depK_step (T : DT) (k : Nat) : max (depK T k : Int) (numD T k : Int) = (depK T (k + 1) : Int) := by
  have e : depK T (k + 1) = max (depK T k) (numD T k) := rfl
  rw [e]; omega
/-- What DepthOfTree answers. -/
def Plain.depD (s : ByteArray) : Int := match asD (lst s) with
  | none => -1
  | some T => (depK T 32 : Int)
theorem depD_none {s : ByteArray} (h : asD (lst s) = none) : depD s = -1 := by unfold depD; rw [h]
theorem depD_some {s : ByteArray} {T : DT} (h : asD (lst s) = some T) : depD s = (depK T 32 : Int) := by unfold depD; rw [h]

set_option maxRecDepth 100000 in
set_option maxHeartbeats 1000000 in
/-- DepthOfTree of the model. -/
theorem Dep.model (s : ByteArray) (w : World) :
    Calls Try.prog 39 #[.string s] w fun e w' => e = .returned (.int .i64 (depD s)) ∧ w = w' := by
  have HM := Lib.hid (IsD.model s)
  cases hT : asD (lst s) with
  | none =>
    rw [depD_none hT]
    rw [isD_none hT] at HM
    clear hT
    go_enter Try.func39, Try.ntmps39
    go_wp2_with fail
    refine (HM.out _).mono ?_
    rintro e w2 ⟨rfl, rfl⟩
    go_wp2_with fail
    go_ret
    exact ⟨rfl, rfl⟩
  | some T =>
    rw [isD_some hT] at HM
    rw [depD_some hT]
    have HQ := Lib.hid (fun (x : Nat) (hx : (x : Int) ≤ 31) (w : World) => by have := Qu.model s x w; rw [quD_in hT hx] at this; exact this)
    clear hT
    go_enter Try.func39, Try.ntmps39
    go_wp2_with fail
    refine (HM.out _).mono ?_
    rintro e w2 ⟨rfl, rfl⟩
    go_wp2_with fail
    go_loop [3, 4] (fun n x => ∃ y : Nat, x = .int .i64 (y : Int) ∧ n = .int .i64 (depK T y : Int) ∧ (y : Int) ≤ 32) (fun _ x => 40 - (intOf x).toNat)
    case atStart => exact ⟨0, rfl, rfl, by omega⟩
    case round =>
      obtain ⟨y, rfl, rfl, hy⟩ := hrel
      by_cases hlt : (y : Int) < 32
      · have HD := Lib.hid (depK_step T y)
        have HQ2 := Lib.hid (HQ.out y (by omega))
        generalize depK T y = d1 at *
        generalize numD T y = d3 at *
        go_wp2_with fail
        refine (HQ2.out _).mono ?_
        rintro e w2 ⟨rfl, rfl⟩
        go_wp2_with fail
        go_round
        case rel => exact ⟨y + 1, by go_num, by rw [HD.out], by omega⟩
        case measure => simp [intOf]; omega
      · obtain rfl : y = 32 := by omega
        go_wp2_with fail
        go_ret
        exact ⟨rfl, rfl⟩

set_option maxRecDepth 100000 in
set_option maxHeartbeats 1000000 in
/-- DepthOfTree of the program. -/
theorem Dep.impl (s : ByteArray) (w : World) :
    Calls Try.prog 40 #[.string s] w fun e w' => e = .returned (.int .i64 (depD s)) ∧ Below w.heap.size w w' := by
  cases hT : asD (lst s) with
  | none =>
    rw [depD_none hT]
    have HI := Lib.hid (Ps.bad s hT)
    clear hT
    go_enter Try.func40, Try.ntmps40
    go_wp2_with fail
    refine (HI.out _).mono ?_
    rintro e w2 ⟨rfl, hb⟩
    go_wp2_with fail
    go_ret
    exact ⟨rfl, hb⟩
  | some T =>
    rw [depD_some hT]
    have HI := Lib.hid (Ps.good s T hT)
    have hok := (asD_some hT).2.1
    have HQ := Lib.hid (fun (x : Nat) (hx : (x : Int) ≤ 31) (base b : Nat) (w : World) => TrNum.any T x hx (num_5 hok x) base b w)
    have HC0 : ∀ w, Calls Try.prog 66 #[.int .i64 5] w fun e w' => e = .returned (.int .i64 32) ∧ w = w' := fun w => Tab.count 5 (by decide) w
    have HC := Lib.hid HC0
    clear hT hok HC0
    go_enter Try.func40, Try.ntmps40
    go_wp2_with fail
    refine (HI.out _).mono ?_
    rintro e w2 ⟨b, rfl, hti, hb⟩
    have HTI := Lib.hid hti
    have HB2 := Lib.hid hb
    have hs2 := hb.size
    clear hti hb
    go_wp2_with fail
    refine (HC.out _).mono ?_
    rintro e w3 ⟨rfl, rfl⟩
    go_wp2_with fail
    go_loopw [5, 15] (fun n x wr => ∃ y : Nat, x = .int .i64 (y : Int) ∧ n = .int .i64 (depK T y : Int) ∧ (y : Int) ≤ 32 ∧ Below w2.heap.size w2 wr) (fun _ x _ => 40 - (intOf x).toNat)
    case atStart => exact ⟨0, rfl, rfl, by omega, Below.refl _ _⟩
    case round =>
      obtain ⟨y, rfl, rfl, hy, hbel⟩ := hrel
      by_cases hlt : (y : Int) < 32
      · have HD := Lib.hid (depK_step T y)
        have HQ2 := Lib.hid (HQ.out y (by omega) _ _ wr (HTI.out.below hbel))
        have HB := Lib.hid hbel
        clear hbel
        generalize depK T y = d1 at *
        generalize numD T y = d3 at *
        go_wp2_with fail
        refine HQ2.out.mono ?_
        rintro e w2 ⟨rfl, hb4⟩
        have HB4 := Lib.hid hb4
        clear hb4
        go_wp2_with fail
        go_roundw
        case rel => exact ⟨y + 1, by go_num, by rw [HD.out], by omega, bstep HB.out HB4.out⟩
        case measure => simp [intOf]; omega
      · obtain rfl : y = 32 := by omega
        have HB := Lib.hid hbel
        clear hbel
        go_wp2_with fail
        go_ret
        exact ⟨rfl, bstep HB2.out HB.out⟩

end Go.Proofs.Ythdcjldmafhcjaa
