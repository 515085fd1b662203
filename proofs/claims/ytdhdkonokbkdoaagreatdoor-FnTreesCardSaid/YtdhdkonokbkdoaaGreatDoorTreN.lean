/-
  Chapter 7: parseTree, IsTree, QueriesOf and DepthOfTree of the program; DepthOfTree of the model.
  Chapter 7: TableOfTree and AverageOf of the model.
  Chapter 7: tableFrom at a tree, TableOfTree and AverageOf of the program.
  Chapter 7: AverageOf of the program.
-/
import Derived.Test.YtdhdkonokbkdoaaGreatDoorTreJ
import Derived.Test.YtdhdkonokbkdoaaGreatDoorTreR
import Derived.Test.YtdhdkonokbkdoaaGreatDoorTabE
import Derived.Test.YtdhdkonokbkdoaaGreatDoorResE
import Derived.Shelf.Strings.IndexAnyAll
import Derived.Test.YtdhdkonokbkdoaaGreatDoorTabK

namespace Go.Proofs.YtdhdkonokbkdoaaGreatDoor
open Go.RowKit Plain Go.Shelf
set_option linter.unusedVariables false

set_option maxRecDepth 100000 in
/-- parseTree, no tree. -/
theorem Ps.bad (s : ByteArray) (h : asD (lst s) = none) (w : World) :
    Calls Tryz.prog 39 #[.string s] w fun e w' => e = .returned (.tuple #[.pointer none, .bool false]) ∧ Below w.heap.size w w' := by
  have HI := fun w => RdT.any s.size s 0 w (Nat.le_refl _) (by decide)
  cases hr : rdd 0 (lst s) with
  | none =>
    rw [hr] at HI
    have HA : ∀ w, Calls Tryz.prog 62 #[.string s, .int .i64 0] w fun e w' => e = .returned (.tuple #[.pointer none, .string ⟨#[]⟩]) ∧ Below w.heap.size w w' := fun w =>
      (HI w).mono fun e w' ⟨p, rs, he, ⟨hp, hrs⟩, hbb⟩ => ⟨by rw [he, hp, hrs], hbb⟩
    replace HA := Lib.hid HA
    clear HI hr h
    go_enter Tryz.func39, Tryz.ntmps39
    go_wp2_with fail
    refine (HA.out _).mono ?_
    rintro e w1 ⟨rfl, hb⟩
    go_wp2_with fail
    go_ret2
    exact ⟨rfl, hb⟩
  | some p =>
    obtain ⟨T, r⟩ := p
    rw [hr] at HI
    cases r with
    | nil => rw [asD_whole hr] at h; cases h
    | cons c r =>
      have HA : ∀ w, Calls Tryz.prog 62 #[.string s, .int .i64 0] w fun e w' => ∃ b, e = .returned (.tuple #[.pointer (some ⟨b, 0, none⟩), .string ⟨(c :: r).toArray⟩]) ∧ Below w.heap.size w w' := fun w =>
        (HI w).mono fun e w' ⟨p, rs, he, ⟨b, hp, hrs, _⟩, hbb⟩ => ⟨b, by rw [he, hp, hrs], hbb⟩
      have hne : (⟨(c :: r).toArray⟩ : ByteArray).toList.isEmpty = false := by rw [Lib.toList_data]; simp
      replace HA := Lib.hid HA
      clear HI hr h
      generalize (⟨(c :: r).toArray⟩ : ByteArray) = t at HA hne
      go_enter Tryz.func39, Tryz.ntmps39
      go_wp2_with fail
      refine (HA.out _).mono ?_
      rintro e w1 ⟨b, rfl, hb⟩
      go_wp2_with fail
      go_ret2
      exact ⟨rfl, hb⟩

set_option maxRecDepth 100000 in
/-- parseTree, a tree. -/
theorem Ps.good (s : ByteArray) (T : DT) (h : asD (lst s) = some T) (w : World) :
    Calls Tryz.prog 39 #[.string s] w fun e w' => ∃ b, e = .returned (.tuple #[.pointer (some ⟨b, 0, none⟩), .bool true]) ∧ TrIn w.heap.size w' T b ∧ Below w.heap.size w w' := by
  have HI := fun w => RdT.any s.size s 0 w (Nat.le_refl _) (by decide)
  have hr : rdd 0 (lst s) = some (T, []) := by
    obtain ⟨e, o, _⟩ := asD_some h
    have := rdd_full T 0 [] o
    rwa [List.append_nil, ← e] at this
  rw [hr] at HI
  have HA : ∀ w, Calls Tryz.prog 62 #[.string s, .int .i64 0] w fun e w' => ∃ b, e = .returned (.tuple #[.pointer (some ⟨b, 0, none⟩), .string ⟨#[]⟩]) ∧ TrIn w.heap.size w' T b ∧ Below w.heap.size w w' := fun w =>
    (HI w).mono fun e w' ⟨p, rs, he, ⟨b, hp, hrs, hti⟩, hbb⟩ => ⟨b, by rw [he, hp, hrs], hti, hbb⟩
  have hne : (⟨#[]⟩ : ByteArray).toList.isEmpty = true := by rw [Lib.toList_data]; rfl
  replace HA := Lib.hid HA
  clear HI hr h
  go_enter Tryz.func39, Tryz.ntmps39
  go_wp2_with fail
  refine (HA.out _).mono ?_
  rintro e w1 ⟨b, rfl, hti, hb⟩
  have HTI := Lib.hid hti
  clear hti
  go_wp2_with fail
  go_ret2
  exact ⟨b, rfl, HTI.out, hb⟩

set_option maxRecDepth 100000 in
/-- IsTree of the program. -/
theorem IsD.impl (s : ByteArray) (w : World) :
    Calls Tryz.prog 13 #[.string s] w fun e w' => e = .returned (.bool (isD s)) ∧ Below w.heap.size w w' := by
  cases h : asD (lst s) with
  | none =>
    rw [isD_none h]
    have HI := Lib.hid (Ps.bad s h)
    clear h
    go_enter Tryz.func13, Tryz.ntmps13
    go_wp2_with fail
    refine (HI.out _).mono ?_
    rintro e w1 ⟨rfl, hb⟩
    go_wp2_with fail
    go_ret
    exact ⟨rfl, hb⟩
  | some T =>
    rw [isD_some h]
    have HI := Lib.hid (Ps.good s T h)
    clear h
    go_enter Tryz.func13, Tryz.ntmps13
    go_wp2_with fail
    refine (HI.out _).mono ?_
    rintro e w1 ⟨b, rfl, hti, hb⟩
    clear hti
    go_wp2_with fail
    go_ret
    exact ⟨rfl, hb⟩

set_option maxRecDepth 100000 in
/-- QueriesOf of the program. -/
theorem Qu.impl (s : ByteArray) (x : Int) (w : World) :
    Calls Tryz.prog 21 #[.string s, .int .i64 x] w fun e w' => e = .returned (.int .i64 (quD s x)) ∧ Below w.heap.size w w' := by
  cases h : asD (lst s) with
  | none =>
    rw [quD_none x h]
    have HI := Lib.hid (Ps.bad s h)
    clear h
    go_enter Tryz.func21, Tryz.ntmps21
    go_wp2_with fail
    refine (HI.out _).mono ?_
    rintro e w1 ⟨rfl, hb⟩
    go_wp2_with fail
    go_ret
    exact ⟨rfl, hb⟩
  | some T =>
    have HI := Lib.hid (Ps.good s T h)
    have HN0 : ∀ w, Calls Tryz.prog 51 #[.int .i64 5, .int .i64 x] w fun e w' => e = .returned (.bool (inpB 5 x)) ∧ w = w' := fun w => Tab.input 5 x (by decide) w
    have HN := Lib.hid HN0
    clear HN0
    by_cases hx : 0 ≤ x ∧ x ≤ 31
    · obtain ⟨y, rfl⟩ : ∃ y : Nat, x = (y : Int) := ⟨x.toNat, by omega⟩
      have HIN : Hid (inpB 5 (y : Int) = true) := Lib.hid (inpB_yes (by omega))
      rw [quD_in h hx.2]
      have hn5 := num_5 (asD_some h).2.1 y
      have HT := Lib.hid (fun base b w => TrNum.any T y hx.2 hn5 base b w)
      clear h hn5
      go_enter Tryz.func21, Tryz.ntmps21
      go_wp2_with fail
      refine (HI.out _).mono ?_
      rintro e w1 ⟨b, rfl, hti, hb⟩
      have HTI := Lib.hid hti
      clear hti
      go_wp2_with fail
      refine (HN.out _).mono ?_
      rintro e w2 ⟨rfl, rfl⟩
      rw [HIN.out]
      go_wp2_with fail
      refine (HT.out _ _ _ HTI.out).mono ?_
      rintro e w3 ⟨rfl, hb3⟩
      go_wp2_with fail
      go_ret
      exact ⟨rfl, bstep hb hb3⟩
    · have HIN : Hid (inpB 5 x = false) := Lib.hid (inpB_no (by omega))
      rw [quD_out hx]
      clear h hx
      go_enter Tryz.func21, Tryz.ntmps21
      go_wp2_with fail
      refine (HI.out _).mono ?_
      rintro e w1 ⟨b, rfl, hti, hb⟩
      clear hti
      go_wp2_with fail
      refine (HN.out _).mono ?_
      rintro e w2 ⟨rfl, rfl⟩
      rw [HIN.out]
      go_wp2_with fail
      go_ret
      exact ⟨rfl, hb⟩

/-- The greatest number of letters for the inputs below k. -/
def Plain.depK (T : DT) : Nat → Nat
  | 0 => 0
  | k + 1 => max (depK T k) (numD T k)
theorem depK_5 {T : DT} (h : okD 0 T = true) (k : Nat) : depK T k ≤ 5 := by
  induction k with
  | zero => exact Nat.zero_le _
  | succ k ih => have := num_5 h k; unfold depK; omega
theorem depK_step (T : DT) (k : Nat) : max (depK T k : Int) (numD T k : Int) = (depK T (k + 1) : Int) := by
  have e : depK T (k + 1) = max (depK T k) (numD T k) := rfl
  rw [e]; omega
/-- What DepthOfTree answers. -/
def Plain.depD (s : ByteArray) : Int := match asD (lst s) with
  | none => -1
  | some T => (depK T 32 : Int)
theorem depD_none {s : ByteArray} (h : asD (lst s) = none) : depD s = -1 := by unfold depD; rw [h]
theorem depD_some {s : ByteArray} {T : DT} (h : asD (lst s) = some T) : depD s = (depK T 32 : Int) := by unfold depD; rw [h]

set_option maxRecDepth 100000 in
set_option maxHeartbeats 1000000 in
/-- DepthOfTree of the model. -/
theorem Dep.model (s : ByteArray) (w : World) :
    Calls Tryz.prog 25 #[.string s] w fun e w' => e = .returned (.int .i64 (depD s)) ∧ w = w' := by
  have HM := Lib.hid (IsD.model s)
  cases hT : asD (lst s) with
  | none =>
    rw [depD_none hT]
    rw [isD_none hT] at HM
    clear hT
    go_enter Tryz.func25, Tryz.ntmps25
    go_wp2_with fail
    refine (HM.out _).mono ?_
    rintro e w2 ⟨rfl, rfl⟩
    go_wp2_with fail
    go_ret
    exact ⟨rfl, rfl⟩
  | some T =>
    rw [isD_some hT] at HM
    rw [depD_some hT]
    have HQ := Lib.hid (fun (x : Nat) (hx : (x : Int) ≤ 31) (w : World) => by have := Qu.model s x w; rw [quD_in hT hx] at this; exact this)
    clear hT
    go_enter Tryz.func25, Tryz.ntmps25
    go_wp2_with fail
    refine (HM.out _).mono ?_
    rintro e w2 ⟨rfl, rfl⟩
    go_wp2_with fail
    go_loop [3, 4] (fun n x => ∃ y : Nat, x = .int .i64 (y : Int) ∧ n = .int .i64 (depK T y : Int) ∧ (y : Int) ≤ 32) (fun _ x => 40 - (intOf x).toNat)
    case atStart => exact ⟨0, rfl, rfl, by omega⟩
    case round =>
      obtain ⟨y, rfl, rfl, hy⟩ := hrel
      by_cases hlt : (y : Int) < 32
      · have HD := Lib.hid (depK_step T y)
        have HQ2 := Lib.hid (HQ.out y (by omega))
        generalize depK T y = d1 at *
        generalize numD T y = d3 at *
        go_wp2_with fail
        refine (HQ2.out _).mono ?_
        rintro e w2 ⟨rfl, rfl⟩
        go_wp2_with fail
        go_round
        case rel => exact ⟨y + 1, by go_num, by rw [HD.out], by omega⟩
        case measure => simp [intOf]; omega
      · obtain rfl : y = 32 := by omega
        go_wp2_with fail
        go_ret
        exact ⟨rfl, rfl⟩

set_option maxRecDepth 100000 in
set_option maxHeartbeats 1000000 in
/-- DepthOfTree of the program. -/
theorem Dep.impl (s : ByteArray) (w : World) :
    Calls Tryz.prog 14 #[.string s] w fun e w' => e = .returned (.int .i64 (depD s)) ∧ Below w.heap.size w w' := by
  cases hT : asD (lst s) with
  | none =>
    rw [depD_none hT]
    have HI := Lib.hid (Ps.bad s hT)
    clear hT
    go_enter Tryz.func14, Tryz.ntmps14
    go_wp2_with fail
    refine (HI.out _).mono ?_
    rintro e w2 ⟨rfl, hb⟩
    go_wp2_with fail
    go_ret
    exact ⟨rfl, hb⟩
  | some T =>
    rw [depD_some hT]
    have HI := Lib.hid (Ps.good s T hT)
    have hok := (asD_some hT).2.1
    have HQ := Lib.hid (fun (x : Nat) (hx : (x : Int) ≤ 31) (base b : Nat) (w : World) => TrNum.any T x hx (num_5 hok x) base b w)
    have HC0 : ∀ w, Calls Tryz.prog 36 #[.int .i64 5] w fun e w' => e = .returned (.int .i64 32) ∧ w = w' := fun w => Tab.count 5 (by decide) w
    have HC := Lib.hid HC0
    clear hT hok HC0
    go_enter Tryz.func14, Tryz.ntmps14
    go_wp2_with fail
    refine (HI.out _).mono ?_
    rintro e w2 ⟨b, rfl, hti, hb⟩
    have HTI := Lib.hid hti
    have HB2 := Lib.hid hb
    have hs2 := hb.size
    clear hti hb
    go_wp2_with fail
    refine (HC.out _).mono ?_
    rintro e w3 ⟨rfl, rfl⟩
    go_wp2_with fail
    go_loopw [5, 15] (fun n x wr => ∃ y : Nat, x = .int .i64 (y : Int) ∧ n = .int .i64 (depK T y : Int) ∧ (y : Int) ≤ 32 ∧ Below w2.heap.size w2 wr) (fun _ x _ => 40 - (intOf x).toNat)
    case atStart => exact ⟨0, rfl, rfl, by omega, Below.refl _ _⟩
    case round =>
      obtain ⟨y, rfl, rfl, hy, hbel⟩ := hrel
      by_cases hlt : (y : Int) < 32
      · have HD := Lib.hid (depK_step T y)
        have HQ2 := Lib.hid (HQ.out y (by omega) _ _ wr (HTI.out.below hbel))
        have HB := Lib.hid hbel
        clear hbel
        generalize depK T y = d1 at *
        generalize numD T y = d3 at *
        go_wp2_with fail
        refine HQ2.out.mono ?_
        rintro e w2 ⟨rfl, hb4⟩
        have HB4 := Lib.hid hb4
        clear hb4
        go_wp2_with fail
        go_roundw
        case rel => exact ⟨y + 1, by go_num, by rw [HD.out], by omega, bstep HB.out HB4.out⟩
        case measure => simp [intOf]; omega
      · obtain rfl : y = 32 := by omega
        have HB := Lib.hid hbel
        clear hbel
        go_wp2_with fail
        go_ret
        exact ⟨rfl, bstep HB2.out HB.out⟩

end Go.Proofs.YtdhdkonokbkdoaaGreatDoor

namespace Go.Proofs.YtdhdkonokbkdoaaGreatDoor
open Go.RowKit Plain Go.Shelf
set_option linter.unusedVariables false

/-- A letter that is no variable of n. -/
def Plain.bigL (n : Nat) (c : UInt8) : Bool := (([97, 98, 99, 100, 101] : List UInt8).drop n).contains c

/-- A byte of a tree. -/
theorem byteD (T : DT) : ∀ c ∈ txtD T, (∃ b, c = conC b) ∨ ∃ i, c = letC i := by
  induction T with
  | val b => intro c hc; simp [txtD] at hc; exact .inl ⟨b, hc⟩
  | ask i l r ihl ihr =>
    intro c hc
    simp only [txtD, List.mem_cons, List.mem_append] at hc
    rcases hc with h | h | h
    · exact .inr ⟨i, h⟩
    · exact ihl c h
    · exact ihr c h
theorem byte_tree {s : ByteArray} {T : DT} (h : asD (lst s) = some T) (k : Nat) (hk : k < s.size) : (s[k].toNat : Int) ≤ 101 ∧ s[k].toNat < 128 := by
  have hm : s[k] ∈ txtD T := by
    rw [← (asD_some h).1]
    exact List.getElem_mem (l := lst s) (n := k) (by rw [lst_len]; exact hk)
  rcases byteD T _ hm with ⟨b, hb⟩ | ⟨i, hi⟩
  · rw [hb]; cases b <;> decide
  · have hall : ∀ i : Fin 5, ((letC i).toNat : Int) ≤ 101 ∧ (letC i).toNat < 128 := by decide
    rw [hi]; exact hall i

/-- What TableOfTree answers. -/
def totD (s : ByteArray) (n : Int) : Int × Int × Bool := match asD (lst s) with
  | none => (0, 0, false)
  | some T => if (0 ≤ n ∧ n ≤ 5) ∧ (lst s).any (bigL n.toNat) = false then (n, (tabN (valD T) (2 ^ n.toNat) : Int), true) else (0, 0, false)
theorem totD_none {s : ByteArray} (n : Int) (h : asD (lst s) = none) : totD s n = (0, 0, false) := by unfold totD; rw [h]
theorem totD_out {s : ByteArray} {T : DT} {n : Int} (h : asD (lst s) = some T) (hn : ¬ (0 ≤ n ∧ n ≤ 5)) : totD s n = (0, 0, false) := by
  unfold totD; rw [h]; exact if_neg fun hh => hn hh.1
theorem totD_big {s : ByteArray} {T : DT} {m : Nat} (h : asD (lst s) = some T) (hb : (lst s).any (bigL m) = true) : totD s m = (0, 0, false) := by
  unfold totD; rw [h]; exact if_neg fun hh => by have := hh.2; rw [Int.toNat_natCast, hb] at this; cases this
theorem totD_yes {s : ByteArray} {T : DT} {m : Nat} (h : asD (lst s) = some T) (hm : m ≤ 5) (hb : (lst s).any (bigL m) = false) : totD s m = ((m : Int), (tabN (valD T) (2 ^ m) : Int), true) := by
  unfold totD; rw [h]
  have : (0 ≤ (m : Int) ∧ (m : Int) ≤ 5) ∧ (lst s).any (bigL (m : Int).toNat) = false := ⟨by omega, by rw [Int.toNat_natCast]; exact hb⟩
  dsimp only
  rw [if_pos this, Int.toNat_natCast]

theorem take_any (p : UInt8 → Bool) (s : ByteArray) (k : Nat) (h : k < s.size) : ((lst s).take (k + 1)).any p = (((lst s).take k).any p || p s[k]) := by
  have h' : k < (lst s).length := by rw [lst_len]; exact h
  rw [List.take_succ_eq_append_getElem h', List.any_append]
  have e : (lst s)[k] = s[k] := rfl
  rw [e]
  simp
theorem take_any_true {p : UInt8 → Bool} {s : ByteArray} {k : Nat} (h : k < s.size) (hp : p s[k] = true) : (lst s).any p = true := by
  rw [List.any_eq_true]
  refine ⟨s[k], ?_, hp⟩
  have h' : k < (lst s).length := by rw [lst_len]; exact h
  exact List.getElem_mem h'
theorem take_all (s : ByteArray) : (lst s).take s.size = lst s := by rw [← lst_len]; exact List.take_length

theorem containsAny_any (l m : List UInt8) : Lib.containsAny l m = l.any (fun c => m.contains c) := by
  unfold Lib.containsAny
  induction l with
  | nil => rfl
  | cons c l ih =>
    unfold Lib.indexAny
    rw [List.any_cons]
    cases hc : m.contains c with
    | true => simp
    | false =>
      rw [← ih]
      have hge := Lib.indexAny_ge m l
      generalize Lib.indexAny l m = z at hge ⊢
      by_cases hz : z = -1
      · subst hz; decide
      · have : (z == -1) = false := by simpa using hz
        rw [this]
        simp
        omega

theorem bigL_let {m : Nat} {c : UInt8} (h : bigL m c = true) : ∃ i, i < 5 ∧ m ≤ i ∧ (c.toNat : Int) = 97 + (i : Int) := by
  have hall : ∀ m, m < 6 → ∀ n, n < 256 → bigL m (UInt8.ofNat n) = true → ∃ i, i < 5 ∧ m ≤ i ∧ (UInt8.ofNat n).toNat = 97 + i := by decide +kernel
  by_cases hm : m < 6
  · have := hall m hm c.toNat (UInt8.toNat_lt c)
    rw [UInt8.ofNat_toNat] at this
    obtain ⟨i, h1, h2, h3⟩ := this h
    exact ⟨i, h1, h2, by omega⟩
  · unfold bigL at h
    rw [List.drop_eq_nil_of_le (by simp; omega)] at h
    cases h
theorem bigL_not {m : Nat} {c : UInt8} (h : bigL m c = false) : (c.toNat : Int) < 97 ∨ 101 < (c.toNat : Int) ∨ ∃ i, i < 5 ∧ i < m ∧ (c.toNat : Int) = 97 + (i : Int) := by
  have hall : ∀ m, m < 6 → ∀ n, n < 256 → bigL m (UInt8.ofNat n) = false → (UInt8.ofNat n).toNat < 97 ∨ 101 < (UInt8.ofNat n).toNat ∨ ∃ i, i < 5 ∧ i < m ∧ (UInt8.ofNat n).toNat = 97 + i := by decide +kernel
  by_cases hm : m < 6
  · have := hall m hm c.toNat (UInt8.toNat_lt c)
    rw [UInt8.ofNat_toNat] at this
    rcases this h with h | h | ⟨i, h1, h2, h3⟩
    · exact .inl (by omega)
    · exact .inr (.inl (by omega))
    · exact .inr (.inr ⟨i, h1, h2, by omega⟩)
  · by_cases h1 : (c.toNat : Int) < 97
    · exact .inl h1
    · by_cases h2 : 101 < (c.toNat : Int)
      · exact .inr (.inl h2)
      · exact .inr (.inr ⟨c.toNat - 97, by omega, by omega, by omega⟩)

set_option maxRecDepth 100000 in
set_option maxHeartbeats 2000000 in
theorem Tot.model_in (s : ByteArray) (m : Nat) (hm : m ≤ 5) (T : DT) (h : asD (lst s) = some T) (w : World) :
    Calls Tryz.prog 18 #[.string s, .int .i64 (m : Int)] w fun e w' => e = .returned (.tuple #[.agg #[.int .i64 (totD s m).1, .int .i64 (totD s m).2.1], .bool (totD s m).2.2]) ∧ Below w.heap.size w w' := by
  obtain ⟨hp1, hp2⟩ := two_pow_int m hm
  have HI := Lib.hid (IsD.model s)
  rw [isD_some h] at HI
  have HB := Lib.hid (Widths.in_yes (m : Int) 0 5 (by omega))
  have h60 : (s.size : Int) ≤ 63 := by have := (asD_some h).2.2; rw [lst_len] at this; omega
  have HBY := Lib.hid (byte_tree h)
  have hok := (asD_some h).2.1
  have HV : Hid (∀ x : Nat, x < 2 ^ m → ∀ w, Calls Tryz.prog 49 #[.string s, .int .i64 (x : Int)] w fun e w' => e = .returned (.tuple #[.int .i64 (valD T x : Int), .int .i64 (numD T x : Int)]) ∧ w = w') :=
    Lib.hid fun x hx w => Run.any s T (asD_some h).1 h60 x (by have := pow5 hm hx; omega) (num_5 hok x) w
  have HBIG : Hid (∀ k (hk : k < s.size), bigL m s[k] = true → totD s m = (0, 0, false)) := Lib.hid fun k hk hc => totD_big h (take_any_true hk hc)
  have HYES : Hid (((lst s).take s.size).any (bigL m) = false → totD s m = ((m : Int), (tabN (valD T) (2 ^ m) : Int), true)) := Lib.hid fun hx => by
    rw [take_all] at hx
    exact totD_yes h hm hx
  have HXS := Lib.hid (take_any (bigL m) s)
  have HTB := Lib.hid (fun y hy => tabN_bound (valD T) y hy)
  have HVL := Lib.hid (valD_lt T)
  clear h hok
  go_enter Tryz.func18, Tryz.ntmps18
  go_wp2_with fail
  refine (HI.out _).mono ?_
  rintro e w1 ⟨rfl, rfl⟩
  go_wp2_with fail
  refine (HB.out _).mono ?_
  rintro e w1 ⟨rfl, rfl⟩
  go_wp2_with fail
  go_loop [6] (fun i => ∃ k : Nat, k ≤ s.size ∧ i = .int .i64 (k : Int) ∧ ((lst s).take k).any (bigL m) = false) (fun i => 64 - (intOf i).toNat)
  case atStart => exact ⟨0, Nat.zero_le _, rfl, rfl⟩
  case round =>
    obtain ⟨k, hk, rfl, hx⟩ := hrel
    have HX := Lib.hid hx
    clear hx
    by_cases hlt : k < s.size
    · cases hbig : bigL m s[k] with
      | true =>
        obtain ⟨i, hi5, hmi, hq⟩ := bigL_let hbig
        have HR := Lib.hid (HBIG.out k hlt hbig)
        have hmi' : (m : Int) ≤ (i : Int) := by omega
        have g1 : (97 : Int) ≤ (s[k].toNat : Int) := by omega
        have g2 : (s[k].toNat : Int) ≤ 101 := by omega
        have g3 : (m : Int) ≤ (s[k].toNat : Int) - 97 := by omega
        clear hbig hq hmi hi5 hmi'
        go_wp2_with fail
        exact bodyPost_ret (v := .tuple #[.agg #[.int .i64 0, .int .i64 0], .bool false]) (by simp [results, Tryz.results18, go_sem]) rfl ⟨by rw [HR.out], by repeat (first | (with_reducible exact Below.refl _ _) | ((with_reducible refine bS ?_ ?_); (focus (dsimp only; omega))) | ((with_reducible refine bA ?_ ?_); (focus (first | omega | (simp; done) | (simp; omega)))))⟩
      | false =>
        have HX' : Hid (((lst s).take (k + 1)).any (bigL m) = false) := Lib.hid (by rw [HXS.out k hlt, HX.out, hbig]; rfl)
        have hq101 := (HBY.out k hlt).1
        rcases bigL_not hbig with hq | hq | ⟨i, hi5, hmi, hq⟩
        · have d1 : decide ((97 : Int) ≤ (s[k].toNat : Int)) = false := decide_eq_false (by omega)
          clear hbig hq hq101
          go_wp2_with fail
          go_round
          case rel => first | exact ⟨k + 1, by omega, by go_num, HX'.out⟩ | ((repeat apply Exists.intro); exact ⟨⟨k + 1, by omega, by go_num, HX'.out⟩, rfl⟩)
          case measure => simp [intOf]; omega
        · omega
        · have g1 : (97 : Int) ≤ (s[k].toNat : Int) := by omega
          have g2 : (s[k].toNat : Int) ≤ 101 := by omega
          have d3 : decide ((m : Int) ≤ (s[k].toNat : Int) - 97) = false := decide_eq_false (by omega)
          clear hbig hq hmi hi5
          go_wp2_with fail
          go_round
          case rel => first | exact ⟨k + 1, by omega, by go_num, HX'.out⟩ | ((repeat apply Exists.intro); exact ⟨⟨k + 1, by omega, by go_num, HX'.out⟩, rfl⟩)
          case measure => simp [intOf]; omega
    · obtain rfl : k = s.size := by omega
      have HR := Lib.hid (HYES.out HX.out)
      go_wp2_with fail
      go_loop [7, 8] (fun a x => ∃ y : Nat, x = .int .i64 (y : Int) ∧ a = .int .i64 (tabN (valD T) y : Int) ∧ (y : Int) ≤ 2 ^ m) (fun _ x => 33 - (intOf x).toNat)
      case atStart => exact ⟨0, rfl, rfl, by omega⟩
      case round =>
        obtain ⟨y, rfl, rfl, hy⟩ := hrel
        by_cases hly : (y : Int) < 2 ^ m
        · have hy2 : y < 2 ^ m := by rw [up2] at hly; omega
          have hvb := HTB.out y (by omega)
          have hvl := HVL.out y
          have HO := Lib.hid (mulbit_i64 (tabN (valD T) y) (valD T y) y hvb hvl (by omega))
          have HT := Lib.hid (tabN_mul hvl)
          have HC := Lib.hid (HV.out y hy2)
          have hv0 : (0 : Int) ≤ (valD T y : Int) := by omega
          clear hy2 hvl
          go_wp2_with fail
          refine (HC.out _).mono ?_
          rintro e w3 ⟨rfl, rfl⟩
          go_wp2_with fail
          go_round
          case rel => exact ⟨y + 1, by go_num, by rw [HT.out, HO.out], by omega⟩
          case measure => simp [intOf]; omega
        · have he : y = 2 ^ m := by rw [up2] at hy hly; omega
          have HE : Hid (tabN (valD T) y = tabN (valD T) (2 ^ m)) := Lib.hid (by rw [he])
          clear he
          go_wp2_with fail
          exact bodyPost_ret (v := .tuple #[.agg #[.int .i64 (m : Int), .int .i64 (tabN (valD T) y : Int)], .bool true]) (by simp [results, Tryz.results18, go_sem]) rfl ⟨by rw [HR.out, HE.out], by repeat (first | (with_reducible exact Below.refl _ _) | ((with_reducible refine bS ?_ ?_); (focus (dsimp only; omega))) | ((with_reducible refine bA ?_ ?_); (focus (first | omega | (simp; done) | (simp; omega)))))⟩

theorem Tot.model (s : ByteArray) (n : Int) (w : World) :
    Calls Tryz.prog 18 #[.string s, .int .i64 n] w fun e w' => e = .returned (.tuple #[.agg #[.int .i64 (totD s n).1, .int .i64 (totD s n).2.1], .bool (totD s n).2.2]) ∧ Below w.heap.size w w' := by
  cases h : asD (lst s) with
  | none =>
    have HI := Lib.hid (IsD.model s)
    rw [isD_none h] at HI
    rw [totD_none n h]
    clear h
    go_enter Tryz.func18, Tryz.ntmps18
    go_wp2_with fail
    refine (HI.out _).mono ?_
    rintro e w1 ⟨rfl, rfl⟩
    go_wp2
    exact bodyPost_ret (v := .tuple #[.agg #[.int .i64 0, .int .i64 0], .bool false]) (by simp [results, Tryz.results18, go_sem]) rfl ⟨rfl, by repeat (first | (with_reducible exact Below.refl _ _) | ((with_reducible refine bS ?_ ?_); (focus (dsimp only; omega))) | ((with_reducible refine bA ?_ ?_); (focus (first | omega | (simp; done) | (simp; omega)))))⟩
  | some T =>
    by_cases hn : 0 ≤ n ∧ n ≤ 5
    · obtain ⟨m, rfl⟩ := Int.eq_ofNat_of_zero_le hn.1
      exact Tot.model_in s m (by omega) T h w
    · have HI := Lib.hid (IsD.model s)
      rw [isD_some h] at HI
      have HB := Lib.hid (Widths.in_no n 0 5 hn)
      rw [totD_out h hn]
      clear h hn
      go_enter Tryz.func18, Tryz.ntmps18
      go_wp2_with fail
      refine (HI.out _).mono ?_
      rintro e w1 ⟨rfl, rfl⟩
      go_wp2_with fail
      refine (HB.out _).mono ?_
      rintro e w1 ⟨rfl, rfl⟩
      go_wp2
      exact bodyPost_ret (v := .tuple #[.agg #[.int .i64 0, .int .i64 0], .bool false]) (by simp [results, Tryz.results18, go_sem]) rfl ⟨rfl, by repeat (first | (with_reducible exact Below.refl _ _) | ((with_reducible refine bS ?_ ?_); (focus (dsimp only; omega))) | ((with_reducible refine bA ?_ ?_); (focus (first | omega | (simp; done) | (simp; omega)))))⟩

/-- The sum of the numbers of letters for the inputs below k. -/
def Plain.sumK (T : DT) : Nat → Nat
  | 0 => 0
  | k + 1 => sumK T k + numD T k
theorem sumK_le {T : DT} (h : okD 0 T = true) (k : Nat) : sumK T k ≤ 5 * k := by
  induction k with
  | zero => exact Nat.zero_le _
  | succ k ih => have := num_5 h k; unfold sumK; omega
/-- What AverageOf answers. -/
def Plain.avgD (s : ByteArray) (n : Int) : Int := if (totD s n).2.2 = true then (match asD (lst s) with
  | none => -1
  | some T => (sumK T (2 ^ n.toNat) : Int)) else -1
theorem avgD_no {s : ByteArray} {n : Int} (h : (totD s n).2.2 = false) : avgD s n = -1 := by unfold avgD; rw [h]; rfl
theorem avgD_yes {s : ByteArray} {n : Int} {T : DT} (h : (totD s n).2.2 = true) (hT : asD (lst s) = some T) : avgD s n = (sumK T (2 ^ n.toNat) : Int) := by
  unfold avgD; rw [if_pos h, hT]
theorem tot_is {s : ByteArray} {n : Int} (h : (totD s n).2.2 = true) : ∃ (T : DT) (m : Nat), asD (lst s) = some T ∧ n = (m : Int) ∧ m ≤ 5 := by
  cases hT : asD (lst s) with
  | none => rw [totD_none n hT] at h; cases h
  | some T =>
    by_cases hn : 0 ≤ n ∧ n ≤ 5
    · exact ⟨T, n.toNat, rfl, by omega, by omega⟩
    · rw [totD_out hT hn] at h; cases h

set_option maxRecDepth 100000 in
set_option maxHeartbeats 1000000 in
/-- AverageOf of the model. -/
theorem Avg.model (s : ByteArray) (n : Int) (w : World) :
    Calls Tryz.prog 23 #[.string s, .int .i64 n] w fun e w' => e = .returned (.int .i64 (avgD s n)) ∧ Below w.heap.size w w' := by
  have HM := Lib.hid (Tot.model s n)
  cases ht : (totD s n).2.2 with
  | false =>
    rw [avgD_no ht]
    generalize totD s n = r at *
    obtain ⟨x, y, b⟩ := r
    dsimp only at ht
    subst ht
    go_enter Tryz.func23, Tryz.ntmps23
    go_wp2_with fail
    refine (HM.out _).mono ?_
    rintro e w2 ⟨rfl, hb⟩
    go_wp2_with fail
    go_ret
    exact ⟨rfl, by repeat (first | (with_reducible exact hb) | ((with_reducible refine bS ?_ ?_); (focus (dsimp only; first | exact hb.size | omega))) | ((with_reducible refine bA ?_ ?_); (focus (first | exact hb.size | omega | (simp; done) | (simp; omega)))))⟩
  | true =>
    obtain ⟨T, m, hT, rfl, hm5⟩ := tot_is ht
    rw [avgD_yes ht hT, Int.toNat_natCast]
    obtain ⟨hp1, hp2⟩ := two_pow_int m hm5
    have hok := (asD_some hT).2.1
    have HQ := Lib.hid (fun (x : Nat) (hx : (x : Int) ≤ 31) (w : World) => by have := Qu.model s x w; rw [quD_in hT hx] at this; exact this)
    have HS := Lib.hid (sumK_le hok)
    have HN := Lib.hid (num_5 hok)
    clear hT hok
    generalize totD s m = r at *
    obtain ⟨x, y, b⟩ := r
    dsimp only at ht
    subst ht
    go_enter Tryz.func23, Tryz.ntmps23
    go_wp2_with fail
    refine (HM.out _).mono ?_
    rintro e w2 ⟨rfl, hb⟩
    have HB := Lib.hid hb
    have hz := hb.size
    clear hb
    go_wp2_with fail
    go_loop [7, 8] (fun k x => ∃ y : Nat, x = .int .i64 (y : Int) ∧ k = .int .i64 (sumK T y : Int) ∧ (y : Int) ≤ 2 ^ m) (fun _ x => 40 - (intOf x).toNat)
    case atStart => exact ⟨0, rfl, rfl, by omega⟩
    case round =>
      obtain ⟨y, rfl, rfl, hy⟩ := hrel
      by_cases hlt : (y : Int) < 2 ^ m
      · have HQ2 := Lib.hid (HQ.out y (by omega))
        have hs1 : (sumK T y : Int) ≤ 160 := by have := HS.out y; omega
        have hn1 : (numD T y : Int) ≤ 5 := by have := HN.out y; omega
        have HE : Hid ((sumK T (y + 1) : Int) = (sumK T y : Int) + (numD T y : Int)) := Lib.hid (by show ((sumK T y + numD T y : Nat) : Int) = _; omega)
        go_wp2_with fail
        refine (HQ2.out _).mono ?_
        rintro e w2 ⟨rfl, rfl⟩
        go_wp2_with fail
        go_round
        case rel => exact ⟨y + 1, by go_num, by rw [HE.out], by omega⟩
        case measure => simp [intOf]; omega
      · have he : y = 2 ^ m := by rw [up2] at hy hlt; omega
        have HE : Hid (sumK T y = sumK T (2 ^ m)) := Lib.hid (by rw [he])
        clear he
        go_wp2_with fail
        go_ret
        exact ⟨by rw [← HE.out]; rfl, by repeat (first | (with_reducible exact HB.out) | ((with_reducible refine bS ?_ ?_); (focus (dsimp only; omega))) | ((with_reducible refine bA ?_ ?_); (focus (first | omega | (simp; done) | (simp; omega)))))⟩

end Go.Proofs.YtdhdkonokbkdoaaGreatDoor

namespace Go.Proofs.YtdhdkonokbkdoaaGreatDoor
open Go.RowKit Plain Go.Shelf
set_option linter.unusedVariables false

set_option maxRecDepth 100000 in
set_option maxHeartbeats 1000000 in
/-- tableFrom, at a tree's method 'value'. -/
theorem Tab.from_tree (n : Nat) (hn : n ≤ 5) (T : DT) (hok : okD 0 T = true) (base b : Nat) (w : World) (hti : TrIn base w T b) :
    Calls Tryz.prog 42 #[.int .i64 n, .func (.func 43) #[.pointer (some ⟨b, 0, none⟩)] #[]] w fun e w' => e = .returned (.agg #[.int .i64 n, .int .i64 (tabN (valD T) (2 ^ n) : Int)]) ∧ Below w.heap.size w w' := by
  have hp : ∀ (W : World) (x : Nat), x < 2 ^ n → Below w.heap.size w W → Calls Tryz.prog 43 #[.pointer (some ⟨b, 0, none⟩), .int .i64 x] W fun e w' => e = .returned (.int .i64 (valD T x : Int)) ∧ Below W.heap.size W w' :=
    fun W x hx hb => TrVal.any T x (by have := pow5 hn hx; omega) (num_5 hok x) base b W (hti.below hb)
  have eg : ∀ args w, (callFunc 43 args).run Tryz.prog w = .ok (.enter 43 args) w := enters_of Tryz.func43 (by kernel_rfl) rfl
  have HVB := Lib.hid (fun y hy => tabN_bound (valD T) y hy)
  generalize valD T = v at *
  clear hti hok
  obtain ⟨hp1, hp2⟩ := two_pow_int n hn
  have hvb : (tabN v (2 ^ n) : Int) ≤ 4294967295 := HVB.out _ (by have := two_pow_le n hn; omega)
  have HP := Lib.hid hp
  clear hp
  go_enter Tryz.func42, Tryz.ntmps42
  go_wp2_with fail
  refine (Tab.count n hn _).mono ?_
  rintro e w1 ⟨rfl, rfl⟩
  go_wp2_with fail
  go_loopw [5, 6, 9] (fun a _ x wr => ∃ y : Nat, x = .int .i64 (y : Int) ∧ a = .int .u64 (tabN v y : Int) ∧ (y : Int) ≤ 2 ^ n ∧ Below w.heap.size w wr ∧ wr.heap[w.heap.size]? = some (.cells #[.int .i64 0, .int .i64 0] 25 (0, 0))) (fun _ _ x _ => 32 - (intOf x).toNat)
  case atStart => exact ⟨0, rfl, rfl, by omega, (Below.refl _ _).alloc (Nat.le_refl _) _, heap_alloc_new w _⟩
  case round =>
    obtain ⟨y, rfl, rfl, hy, hbel, hcell⟩ := hrel
    have HB := Lib.hid hbel
    have HX := Lib.hid hcell
    have hszr : w.heap.size ≤ wr.heap.size := hbel.size
    clear hbel hcell
    by_cases hlt : (y : Int) < 2 ^ n
    · have hvy := tabN_bound v y (by omega)
      have hy2 : y < 2 ^ n := by rw [up2] at hlt; omega
      by_cases hb : v y = 1
      · have HV := Lib.hid (tabN_yes hb)
        have HC := Lib.hid (HP.out wr y hy2 HB.out)
        have HE := Lib.hid hb
        clear hb hy2
        go_wp2_with fail
        refine HC.out.mono ?_
        rintro e w' ⟨rfl, hb'⟩
        rw [HE.out]
        have HB' := Lib.hid (HB.out.trans (hb'.mono hszr))
        have HX' := Lib.hid (blockOn HX.out hb')
        clear hb'
        go_wp2_with fail
        refine (Tab.withBit _ _ hvy (by omega) _).mono ?_
        rintro e w2 ⟨rfl, rfl⟩
        go_wp2_with fail
        go_roundw
        case rel => exact ⟨y + 1, by go_num, by rw [HV.out], by omega, HB'.out, HX'.out⟩
        case measure => simp [intOf]; omega
      · have HV := Lib.hid (tabN_no hb)
        have HC := Lib.hid (HP.out wr y hy2 HB.out)
        have hne : (((v y : Nat) : Int) == 1) = false := by rw [beq_eq_false_iff_ne]; omega
        clear hb hy2
        go_wp2_with fail
        refine HC.out.mono ?_
        rintro e w' ⟨rfl, hb'⟩
        have HB' := Lib.hid (HB.out.trans (hb'.mono hszr))
        have HX' := Lib.hid (blockOn HX.out hb')
        clear hb'
        go_wp2_with fail
        go_roundw
        case rel => exact ⟨y + 1, by go_num, by rw [HV.out], by omega, HB'.out, HX'.out⟩
        case measure => simp [intOf]; omega
    · have he : y = 2 ^ n := by rw [up2] at hy hlt; omega
      have HE : Hid (tabN v y = tabN v (2 ^ n)) := Lib.hid (by rw [he])
      have hvy : (tabN v y : Int) ≤ 9223372036854775807 := by rw [HE.out]; omega
      clear he
      obtain ⟨c0, c1, f0, f1⟩ := cells2 HX.out
      have hlt2 : w.heap.size < wr.heap.size := lt_of_block HX.out
      have HVE := HE
      clear HE
      go_wp2_with fail
      refine (Tab.tableX' n _ hvy _).mono ?_
      rintro e w1 ⟨rfl, rfl⟩
      go_wp2
      rw [← HVE.out]
      obtain ⟨k0, k1⟩ := keepT (u := .int .i64 n) (v := .int .i64 (tabN v y : Int)) c0 c1
      have m0 := keepA (o := .cells #[.int .i64 n, .int .i64 (tabN v y : Int)] 25) k0
      have m1 := keepA (o := .cells #[.int .i64 n, .int .i64 (tabN v y : Int)] 25) k1
      exact bodyPost_ret (v := .agg #[.int .i64 n, .int .i64 (tabN v y : Int)]) (by simp [results, Tryz.results42, go_sem, m0, m1]) rfl ⟨rfl, bA (by simp; omega) (bS (Nat.le_refl _) (bS (Nat.le_refl _) HB.out))⟩


theorem Tot.any (s : ByteArray) (T : DT) (h : asD (lst s) = some T) (m : Nat) (w : World) :
    Calls Tryz.prog 41 #[.string s, .string ⟨(([97, 98, 99, 100, 101] : List UInt8).drop m).toArray⟩] w fun e w' => e = .returned (.bool ((lst s).any (bigL m))) ∧ Below w.heap.size w w' := by
  have hz := (asD_some h).2.2
  rw [lst_len] at hz
  have e : (⟨(([97, 98, 99, 100, 101] : List UInt8).drop m).toArray⟩ : ByteArray).data.toList = ([97, 98, 99, 100, 101] : List UInt8).drop m := lst_ba _
  have := Any.strings_ContainsAny_laid Tryz.lays150 (by kernel_rfl) s ⟨(([97, 98, 99, 100, 101] : List UInt8).drop m).toArray⟩ w (by omega) (by rw [ba_size]; simp; omega) (fun j b hb => by
      obtain ⟨hj, hjb⟩ := List.getElem?_eq_some_iff.1 hb
      rw [← hjb]
      exact (byte_tree h j (by rw [← lst_len]; exact hj)).2) (by
    rw [e]
    intro j b hb
    have hc' := List.mem_of_mem_drop (List.mem_of_getElem? hb)
    clear hb
    revert b; decide)
  rw [e, containsAny_any] at this
  exact this

set_option maxRecDepth 100000 in
set_option maxHeartbeats 2000000 in
/-- TableOfTree of the program. -/
theorem Tot.impl (s : ByteArray) (n : Int) (w : World) :
    Calls Tryz.prog 12 #[.string s, .int .i64 n] w fun e w' => e = .returned (.tuple #[.agg #[.int .i64 (totD s n).1, .int .i64 (totD s n).2.1], .bool (totD s n).2.2]) ∧ Below w.heap.size w w' := by
  cases h : asD (lst s) with
  | none =>
    have HI := Lib.hid (Ps.bad s h)
    rw [totD_none n h]
    clear h
    go_enter Tryz.func12, Tryz.ntmps12
    go_wp2_with fail
    refine (HI.out _).mono ?_
    rintro e w1 ⟨rfl, hb⟩
    obtain ⟨hc, hf⟩ := bcell hb
    have hz2 : w.heap.size < w1.heap.size := by have := hb.size; simp at this; omega
    go_wp2
    exact bodyPost_ret (v := .tuple #[.agg #[.int .i64 0, .int .i64 0], .bool false]) (by simp [results, Tryz.results12, go_sem, hc]) rfl ⟨rfl, bS (by simp) (bS (by simp) (((Below.refl _ _).alloc (Nat.le_refl _) _).trans (hb.mono (by simp))))⟩
  | some T =>
    have HI := Lib.hid (Ps.good s T h)
    have hok := (asD_some h).2.1
    by_cases hn : 0 ≤ n ∧ n ≤ 5
    · obtain ⟨m, rfl⟩ := Int.eq_ofNat_of_zero_le hn.1
      have hm5 : m ≤ 5 := by omega
      have HC := Tot.any s T h m
      have HB : Hid (∀ w, Calls Tryz.prog 40 #[.int .i64 (m : Int)] w fun e w' => e = .returned (.bool true) ∧ w = w') := Lib.hid fun w => by have := Tab.bits (m : Int) w; rwa [inB_yes hn] at this
      cases hb : (lst s).any (bigL m) with
      | true =>
        rw [totD_big h hb]
        rw [hb] at HC
        replace HC := Lib.hid HC
        clear h hn hb
        rcases cases5 m hm5 with rfl | rfl | rfl | rfl | rfl | rfl
        all_goals clear hm5
        · replace HC : Hid (∀ w, Calls Tryz.prog 41 #[.string s, .string ⟨#[97, 98, 99, 100, 101]⟩] w fun e w' => e = .returned (.bool true) ∧ Below w.heap.size w w') := HC
          go_enter Tryz.func12, Tryz.ntmps12
          go_wp2_with fail
          refine (HI.out _).mono ?_
          rintro e w1 ⟨pb, rfl, hti, hb⟩
          have HTI := Lib.hid hti
          clear hti
          obtain ⟨hc, hf⟩ := bcell hb
          go_wp2_with fail
          refine (HB.out _).mono ?_
          rintro e w2 ⟨rfl, rfl⟩
          go_wp2_with fail
          refine (HC.out _).mono ?_
          rintro e w2 ⟨rfl, hb2⟩
          have HTI2 := Lib.hid (HTI.out.below hb2)
          clear hc hf HTI
          replace hb := bstep hb hb2
          obtain ⟨hc, hf⟩ := bcell hb
          have hz2 : w.heap.size < w2.heap.size := by have := hb.size; simp at this; omega
          go_wp2
          exact bodyPost_ret (v := .tuple #[.agg #[.int .i64 0, .int .i64 0], .bool false]) (by simp [results, Tryz.results12, go_sem, hc]) rfl ⟨rfl, bS (by simp) (bS (by simp) (((Below.refl _ _).alloc (Nat.le_refl _) _).trans (hb.mono (by simp))))⟩
        · replace HC : Hid (∀ w, Calls Tryz.prog 41 #[.string s, .string ⟨#[98, 99, 100, 101]⟩] w fun e w' => e = .returned (.bool true) ∧ Below w.heap.size w w') := HC
          go_enter Tryz.func12, Tryz.ntmps12
          go_wp2_with fail
          refine (HI.out _).mono ?_
          rintro e w1 ⟨pb, rfl, hti, hb⟩
          have HTI := Lib.hid hti
          clear hti
          obtain ⟨hc, hf⟩ := bcell hb
          go_wp2_with fail
          refine (HB.out _).mono ?_
          rintro e w2 ⟨rfl, rfl⟩
          go_wp2_with fail
          refine (HC.out _).mono ?_
          rintro e w2 ⟨rfl, hb2⟩
          have HTI2 := Lib.hid (HTI.out.below hb2)
          clear hc hf HTI
          replace hb := bstep hb hb2
          obtain ⟨hc, hf⟩ := bcell hb
          have hz2 : w.heap.size < w2.heap.size := by have := hb.size; simp at this; omega
          go_wp2
          exact bodyPost_ret (v := .tuple #[.agg #[.int .i64 0, .int .i64 0], .bool false]) (by simp [results, Tryz.results12, go_sem, hc]) rfl ⟨rfl, bS (by simp) (bS (by simp) (((Below.refl _ _).alloc (Nat.le_refl _) _).trans (hb.mono (by simp))))⟩
        · replace HC : Hid (∀ w, Calls Tryz.prog 41 #[.string s, .string ⟨#[99, 100, 101]⟩] w fun e w' => e = .returned (.bool true) ∧ Below w.heap.size w w') := HC
          go_enter Tryz.func12, Tryz.ntmps12
          go_wp2_with fail
          refine (HI.out _).mono ?_
          rintro e w1 ⟨pb, rfl, hti, hb⟩
          have HTI := Lib.hid hti
          clear hti
          obtain ⟨hc, hf⟩ := bcell hb
          go_wp2_with fail
          refine (HB.out _).mono ?_
          rintro e w2 ⟨rfl, rfl⟩
          go_wp2_with fail
          refine (HC.out _).mono ?_
          rintro e w2 ⟨rfl, hb2⟩
          have HTI2 := Lib.hid (HTI.out.below hb2)
          clear hc hf HTI
          replace hb := bstep hb hb2
          obtain ⟨hc, hf⟩ := bcell hb
          have hz2 : w.heap.size < w2.heap.size := by have := hb.size; simp at this; omega
          go_wp2
          exact bodyPost_ret (v := .tuple #[.agg #[.int .i64 0, .int .i64 0], .bool false]) (by simp [results, Tryz.results12, go_sem, hc]) rfl ⟨rfl, bS (by simp) (bS (by simp) (((Below.refl _ _).alloc (Nat.le_refl _) _).trans (hb.mono (by simp))))⟩
        · replace HC : Hid (∀ w, Calls Tryz.prog 41 #[.string s, .string ⟨#[100, 101]⟩] w fun e w' => e = .returned (.bool true) ∧ Below w.heap.size w w') := HC
          go_enter Tryz.func12, Tryz.ntmps12
          go_wp2_with fail
          refine (HI.out _).mono ?_
          rintro e w1 ⟨pb, rfl, hti, hb⟩
          have HTI := Lib.hid hti
          clear hti
          obtain ⟨hc, hf⟩ := bcell hb
          go_wp2_with fail
          refine (HB.out _).mono ?_
          rintro e w2 ⟨rfl, rfl⟩
          go_wp2_with fail
          refine (HC.out _).mono ?_
          rintro e w2 ⟨rfl, hb2⟩
          have HTI2 := Lib.hid (HTI.out.below hb2)
          clear hc hf HTI
          replace hb := bstep hb hb2
          obtain ⟨hc, hf⟩ := bcell hb
          have hz2 : w.heap.size < w2.heap.size := by have := hb.size; simp at this; omega
          go_wp2
          exact bodyPost_ret (v := .tuple #[.agg #[.int .i64 0, .int .i64 0], .bool false]) (by simp [results, Tryz.results12, go_sem, hc]) rfl ⟨rfl, bS (by simp) (bS (by simp) (((Below.refl _ _).alloc (Nat.le_refl _) _).trans (hb.mono (by simp))))⟩
        · replace HC : Hid (∀ w, Calls Tryz.prog 41 #[.string s, .string ⟨#[101]⟩] w fun e w' => e = .returned (.bool true) ∧ Below w.heap.size w w') := HC
          go_enter Tryz.func12, Tryz.ntmps12
          go_wp2_with fail
          refine (HI.out _).mono ?_
          rintro e w1 ⟨pb, rfl, hti, hb⟩
          have HTI := Lib.hid hti
          clear hti
          obtain ⟨hc, hf⟩ := bcell hb
          go_wp2_with fail
          refine (HB.out _).mono ?_
          rintro e w2 ⟨rfl, rfl⟩
          go_wp2_with fail
          refine (HC.out _).mono ?_
          rintro e w2 ⟨rfl, hb2⟩
          have HTI2 := Lib.hid (HTI.out.below hb2)
          clear hc hf HTI
          replace hb := bstep hb hb2
          obtain ⟨hc, hf⟩ := bcell hb
          have hz2 : w.heap.size < w2.heap.size := by have := hb.size; simp at this; omega
          go_wp2
          exact bodyPost_ret (v := .tuple #[.agg #[.int .i64 0, .int .i64 0], .bool false]) (by simp [results, Tryz.results12, go_sem, hc]) rfl ⟨rfl, bS (by simp) (bS (by simp) (((Below.refl _ _).alloc (Nat.le_refl _) _).trans (hb.mono (by simp))))⟩
        · replace HC : Hid (∀ w, Calls Tryz.prog 41 #[.string s, .string ⟨#[]⟩] w fun e w' => e = .returned (.bool true) ∧ Below w.heap.size w w') := HC
          go_enter Tryz.func12, Tryz.ntmps12
          go_wp2_with fail
          refine (HI.out _).mono ?_
          rintro e w1 ⟨pb, rfl, hti, hb⟩
          have HTI := Lib.hid hti
          clear hti
          obtain ⟨hc, hf⟩ := bcell hb
          go_wp2_with fail
          refine (HB.out _).mono ?_
          rintro e w2 ⟨rfl, rfl⟩
          go_wp2_with fail
          refine (HC.out _).mono ?_
          rintro e w2 ⟨rfl, hb2⟩
          have HTI2 := Lib.hid (HTI.out.below hb2)
          clear hc hf HTI
          replace hb := bstep hb hb2
          obtain ⟨hc, hf⟩ := bcell hb
          have hz2 : w.heap.size < w2.heap.size := by have := hb.size; simp at this; omega
          go_wp2
          exact bodyPost_ret (v := .tuple #[.agg #[.int .i64 0, .int .i64 0], .bool false]) (by simp [results, Tryz.results12, go_sem, hc]) rfl ⟨rfl, bS (by simp) (bS (by simp) (((Below.refl _ _).alloc (Nat.le_refl _) _).trans (hb.mono (by simp))))⟩
      | false =>
        rw [totD_yes h hm5 hb]
        rw [hb] at HC
        replace HC := Lib.hid HC
        have HT := Lib.hid (fun base b w => Tab.from_tree m hm5 T hok base b w)
        generalize tabN (valD T) (2 ^ m) = z at *
        clear h hn hb
        rcases cases5 m hm5 with rfl | rfl | rfl | rfl | rfl | rfl
        all_goals clear hm5
        · replace HC : Hid (∀ w, Calls Tryz.prog 41 #[.string s, .string ⟨#[97, 98, 99, 100, 101]⟩] w fun e w' => e = .returned (.bool false) ∧ Below w.heap.size w w') := HC
          go_enter Tryz.func12, Tryz.ntmps12
          go_wp2_with fail
          refine (HI.out _).mono ?_
          rintro e w1 ⟨pb, rfl, hti, hb⟩
          have HTI := Lib.hid hti
          clear hti
          obtain ⟨hc, hf⟩ := bcell hb
          go_wp2_with fail
          refine (HB.out _).mono ?_
          rintro e w2 ⟨rfl, rfl⟩
          go_wp2_with fail
          refine (HC.out _).mono ?_
          rintro e w2 ⟨rfl, hb2⟩
          have HTI2 := Lib.hid (HTI.out.below hb2)
          clear hc hf HTI
          replace hb := bstep hb hb2
          obtain ⟨hc, hf⟩ := bcell hb
          go_wp2_with fail
          refine (HT.out _ _ _ HTI2.out).mono ?_
          rintro e w3 ⟨rfl, hb3⟩
          clear hc hf
          replace hb := bstep hb hb3
          obtain ⟨hc, hf⟩ := bcell hb
          have hz2 : w.heap.size < w3.heap.size := by have := hb.size; simp at this; omega
          go_wp2
          exact bodyPost_ret (v := .tuple #[.agg #[.int .i64 0, .int .i64 (z : Int)], .bool true]) (by simp [results, Tryz.results12, go_sem, hc]) rfl ⟨rfl, bS (by simp) (bS (by simp) (((Below.refl _ _).alloc (Nat.le_refl _) _).trans (hb.mono (by simp))))⟩
        · replace HC : Hid (∀ w, Calls Tryz.prog 41 #[.string s, .string ⟨#[98, 99, 100, 101]⟩] w fun e w' => e = .returned (.bool false) ∧ Below w.heap.size w w') := HC
          go_enter Tryz.func12, Tryz.ntmps12
          go_wp2_with fail
          refine (HI.out _).mono ?_
          rintro e w1 ⟨pb, rfl, hti, hb⟩
          have HTI := Lib.hid hti
          clear hti
          obtain ⟨hc, hf⟩ := bcell hb
          go_wp2_with fail
          refine (HB.out _).mono ?_
          rintro e w2 ⟨rfl, rfl⟩
          go_wp2_with fail
          refine (HC.out _).mono ?_
          rintro e w2 ⟨rfl, hb2⟩
          have HTI2 := Lib.hid (HTI.out.below hb2)
          clear hc hf HTI
          replace hb := bstep hb hb2
          obtain ⟨hc, hf⟩ := bcell hb
          go_wp2_with fail
          refine (HT.out _ _ _ HTI2.out).mono ?_
          rintro e w3 ⟨rfl, hb3⟩
          clear hc hf
          replace hb := bstep hb hb3
          obtain ⟨hc, hf⟩ := bcell hb
          have hz2 : w.heap.size < w3.heap.size := by have := hb.size; simp at this; omega
          go_wp2
          exact bodyPost_ret (v := .tuple #[.agg #[.int .i64 1, .int .i64 (z : Int)], .bool true]) (by simp [results, Tryz.results12, go_sem, hc]) rfl ⟨rfl, bS (by simp) (bS (by simp) (((Below.refl _ _).alloc (Nat.le_refl _) _).trans (hb.mono (by simp))))⟩
        · replace HC : Hid (∀ w, Calls Tryz.prog 41 #[.string s, .string ⟨#[99, 100, 101]⟩] w fun e w' => e = .returned (.bool false) ∧ Below w.heap.size w w') := HC
          go_enter Tryz.func12, Tryz.ntmps12
          go_wp2_with fail
          refine (HI.out _).mono ?_
          rintro e w1 ⟨pb, rfl, hti, hb⟩
          have HTI := Lib.hid hti
          clear hti
          obtain ⟨hc, hf⟩ := bcell hb
          go_wp2_with fail
          refine (HB.out _).mono ?_
          rintro e w2 ⟨rfl, rfl⟩
          go_wp2_with fail
          refine (HC.out _).mono ?_
          rintro e w2 ⟨rfl, hb2⟩
          have HTI2 := Lib.hid (HTI.out.below hb2)
          clear hc hf HTI
          replace hb := bstep hb hb2
          obtain ⟨hc, hf⟩ := bcell hb
          go_wp2_with fail
          refine (HT.out _ _ _ HTI2.out).mono ?_
          rintro e w3 ⟨rfl, hb3⟩
          clear hc hf
          replace hb := bstep hb hb3
          obtain ⟨hc, hf⟩ := bcell hb
          have hz2 : w.heap.size < w3.heap.size := by have := hb.size; simp at this; omega
          go_wp2
          exact bodyPost_ret (v := .tuple #[.agg #[.int .i64 2, .int .i64 (z : Int)], .bool true]) (by simp [results, Tryz.results12, go_sem, hc]) rfl ⟨rfl, bS (by simp) (bS (by simp) (((Below.refl _ _).alloc (Nat.le_refl _) _).trans (hb.mono (by simp))))⟩
        · replace HC : Hid (∀ w, Calls Tryz.prog 41 #[.string s, .string ⟨#[100, 101]⟩] w fun e w' => e = .returned (.bool false) ∧ Below w.heap.size w w') := HC
          go_enter Tryz.func12, Tryz.ntmps12
          go_wp2_with fail
          refine (HI.out _).mono ?_
          rintro e w1 ⟨pb, rfl, hti, hb⟩
          have HTI := Lib.hid hti
          clear hti
          obtain ⟨hc, hf⟩ := bcell hb
          go_wp2_with fail
          refine (HB.out _).mono ?_
          rintro e w2 ⟨rfl, rfl⟩
          go_wp2_with fail
          refine (HC.out _).mono ?_
          rintro e w2 ⟨rfl, hb2⟩
          have HTI2 := Lib.hid (HTI.out.below hb2)
          clear hc hf HTI
          replace hb := bstep hb hb2
          obtain ⟨hc, hf⟩ := bcell hb
          go_wp2_with fail
          refine (HT.out _ _ _ HTI2.out).mono ?_
          rintro e w3 ⟨rfl, hb3⟩
          clear hc hf
          replace hb := bstep hb hb3
          obtain ⟨hc, hf⟩ := bcell hb
          have hz2 : w.heap.size < w3.heap.size := by have := hb.size; simp at this; omega
          go_wp2
          exact bodyPost_ret (v := .tuple #[.agg #[.int .i64 3, .int .i64 (z : Int)], .bool true]) (by simp [results, Tryz.results12, go_sem, hc]) rfl ⟨rfl, bS (by simp) (bS (by simp) (((Below.refl _ _).alloc (Nat.le_refl _) _).trans (hb.mono (by simp))))⟩
        · replace HC : Hid (∀ w, Calls Tryz.prog 41 #[.string s, .string ⟨#[101]⟩] w fun e w' => e = .returned (.bool false) ∧ Below w.heap.size w w') := HC
          go_enter Tryz.func12, Tryz.ntmps12
          go_wp2_with fail
          refine (HI.out _).mono ?_
          rintro e w1 ⟨pb, rfl, hti, hb⟩
          have HTI := Lib.hid hti
          clear hti
          obtain ⟨hc, hf⟩ := bcell hb
          go_wp2_with fail
          refine (HB.out _).mono ?_
          rintro e w2 ⟨rfl, rfl⟩
          go_wp2_with fail
          refine (HC.out _).mono ?_
          rintro e w2 ⟨rfl, hb2⟩
          have HTI2 := Lib.hid (HTI.out.below hb2)
          clear hc hf HTI
          replace hb := bstep hb hb2
          obtain ⟨hc, hf⟩ := bcell hb
          go_wp2_with fail
          refine (HT.out _ _ _ HTI2.out).mono ?_
          rintro e w3 ⟨rfl, hb3⟩
          clear hc hf
          replace hb := bstep hb hb3
          obtain ⟨hc, hf⟩ := bcell hb
          have hz2 : w.heap.size < w3.heap.size := by have := hb.size; simp at this; omega
          go_wp2
          exact bodyPost_ret (v := .tuple #[.agg #[.int .i64 4, .int .i64 (z : Int)], .bool true]) (by simp [results, Tryz.results12, go_sem, hc]) rfl ⟨rfl, bS (by simp) (bS (by simp) (((Below.refl _ _).alloc (Nat.le_refl _) _).trans (hb.mono (by simp))))⟩
        · replace HC : Hid (∀ w, Calls Tryz.prog 41 #[.string s, .string ⟨#[]⟩] w fun e w' => e = .returned (.bool false) ∧ Below w.heap.size w w') := HC
          go_enter Tryz.func12, Tryz.ntmps12
          go_wp2_with fail
          refine (HI.out _).mono ?_
          rintro e w1 ⟨pb, rfl, hti, hb⟩
          have HTI := Lib.hid hti
          clear hti
          obtain ⟨hc, hf⟩ := bcell hb
          go_wp2_with fail
          refine (HB.out _).mono ?_
          rintro e w2 ⟨rfl, rfl⟩
          go_wp2_with fail
          refine (HC.out _).mono ?_
          rintro e w2 ⟨rfl, hb2⟩
          have HTI2 := Lib.hid (HTI.out.below hb2)
          clear hc hf HTI
          replace hb := bstep hb hb2
          obtain ⟨hc, hf⟩ := bcell hb
          go_wp2_with fail
          refine (HT.out _ _ _ HTI2.out).mono ?_
          rintro e w3 ⟨rfl, hb3⟩
          clear hc hf
          replace hb := bstep hb hb3
          obtain ⟨hc, hf⟩ := bcell hb
          have hz2 : w.heap.size < w3.heap.size := by have := hb.size; simp at this; omega
          go_wp2
          exact bodyPost_ret (v := .tuple #[.agg #[.int .i64 5, .int .i64 (z : Int)], .bool true]) (by simp [results, Tryz.results12, go_sem, hc]) rfl ⟨rfl, bS (by simp) (bS (by simp) (((Below.refl _ _).alloc (Nat.le_refl _) _).trans (hb.mono (by simp))))⟩
    · have HB : Hid (∀ w, Calls Tryz.prog 40 #[.int .i64 n] w fun e w' => e = .returned (.bool false) ∧ w = w') := Lib.hid fun w => by have := Tab.bits n w; rwa [inB_no hn] at this
      rw [totD_out h hn]
      clear h hn
      go_enter Tryz.func12, Tryz.ntmps12
      go_wp2_with fail
      refine (HI.out _).mono ?_
      rintro e w1 ⟨pb, rfl, hti, hb⟩
      clear hti
      obtain ⟨hc, hf⟩ := bcell hb
      have hz2 : w.heap.size < w1.heap.size := by have := hb.size; simp at this; omega
      go_wp2_with fail
      refine (HB.out _).mono ?_
      rintro e w2 ⟨rfl, rfl⟩
      go_wp2
      exact bodyPost_ret (v := .tuple #[.agg #[.int .i64 0, .int .i64 0], .bool false]) (by simp [results, Tryz.results12, go_sem, hc]) rfl ⟨rfl, bS (by simp) (bS (by simp) (((Below.refl _ _).alloc (Nat.le_refl _) _).trans (hb.mono (by simp))))⟩

end Go.Proofs.YtdhdkonokbkdoaaGreatDoor

namespace Go.Proofs.YtdhdkonokbkdoaaGreatDoor
open Go.RowKit Plain Go.Shelf
set_option linter.unusedVariables false

set_option maxRecDepth 100000 in
set_option maxHeartbeats 1000000 in
/-- AverageOf of the program. -/
theorem Avg.impl (s : ByteArray) (n : Int) (w : World) :
    Calls Tryz.prog 15 #[.string s, .int .i64 n] w fun e w' => e = .returned (.int .i64 (avgD s n)) ∧ Below w.heap.size w w' := by
  have HM := Lib.hid (Tot.impl s n)
  cases ht : (totD s n).2.2 with
  | false =>
    rw [avgD_no ht]
    generalize totD s n = r at *
    obtain ⟨x, y, b⟩ := r
    dsimp only at ht
    subst ht
    go_enter Tryz.func15, Tryz.ntmps15
    go_wp2_with fail
    refine (HM.out _).mono ?_
    rintro e w2 ⟨rfl, hb⟩
    go_wp2_with fail
    go_ret
    exact ⟨rfl, by repeat (first | (with_reducible exact hb) | ((with_reducible refine bS ?_ ?_); (focus (dsimp only; first | exact hb.size | omega))) | ((with_reducible refine bA ?_ ?_); (focus (first | exact hb.size | omega | (simp; done) | (simp; omega)))))⟩
  | true =>
    obtain ⟨T, m, hT, rfl, hm5⟩ := tot_is ht
    rw [avgD_yes ht hT, Int.toNat_natCast]
    obtain ⟨hp1, hp2⟩ := two_pow_int m hm5
    have hok := (asD_some hT).2.1
    have HQ := Lib.hid (fun (x : Nat) (hx : (x : Int) ≤ 31) (w : World) => by have := Qu.impl s x w; rw [quD_in hT hx] at this; exact this)
    have HS := Lib.hid (sumK_le hok)
    have HN := Lib.hid (num_5 hok)
    have HC := Lib.hid (Tab.count m hm5)
    clear hT hok
    generalize totD s m = r at *
    obtain ⟨x, y, b⟩ := r
    dsimp only at ht
    subst ht
    go_enter Tryz.func15, Tryz.ntmps15
    go_wp2_with fail
    refine (HM.out _).mono ?_
    rintro e w2 ⟨rfl, hb⟩
    have HB := Lib.hid hb
    have hz := hb.size
    clear hb
    go_wp2_with fail
    refine (HC.out _).mono ?_
    rintro e w3 ⟨rfl, rfl⟩
    go_wp2_with fail
    go_loopw [7, 19] (fun k x wr => ∃ z : Nat, x = .int .i64 (z : Int) ∧ k = .int .i64 (sumK T z : Int) ∧ (z : Int) ≤ 2 ^ m ∧ Below w.heap.size w wr) (fun _ x _ => 40 - (intOf x).toNat)
    case atStart => exact ⟨0, rfl, rfl, by omega, by repeat (first | (with_reducible exact HB.out) | ((with_reducible refine bS ?_ ?_); (focus (dsimp only; omega))) | ((with_reducible refine bA ?_ ?_); (focus (first | omega | (simp; done) | (simp; omega)))))⟩
    case round =>
      obtain ⟨z, rfl, rfl, hy, hbel⟩ := hrel
      have HBL := Lib.hid hbel
      have hz2 := hbel.size
      clear hbel
      by_cases hlt : (z : Int) < 2 ^ m
      · have HQ2 := Lib.hid (HQ.out z (by omega))
        have hs1 : (sumK T z : Int) ≤ 160 := by have := HS.out z; omega
        have hn1 : (numD T z : Int) ≤ 5 := by have := HN.out z; omega
        have HE : Hid ((sumK T (z + 1) : Int) = (sumK T z : Int) + (numD T z : Int)) := Lib.hid (by show ((sumK T z + numD T z : Nat) : Int) = _; omega)
        go_wp2_with fail
        refine (HQ2.out _).mono ?_
        rintro e w4 ⟨rfl, hb4⟩
        have HB4 := Lib.hid hb4
        clear hb4
        go_wp2_with fail
        go_roundw
        case rel => exact ⟨z + 1, by go_num, by rw [HE.out], by omega, HBL.out.trans (HB4.out.mono hz2)⟩
        case measure => simp [intOf]; omega
      · have he : z = 2 ^ m := by rw [up2] at hy hlt; omega
        have HE : Hid (sumK T z = sumK T (2 ^ m)) := Lib.hid (by rw [he])
        clear he
        go_wp2_with fail
        go_ret
        exact ⟨by rw [← HE.out]; rfl, HBL.out⟩

end Go.Proofs.YtdhdkonokbkdoaaGreatDoor
