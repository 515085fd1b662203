/-
  Chapter 5: LeavesOf, DepthOf, PushNegations of the program and of its model.
-/
import Derived.Test.YtpniefagpinbdaaFrmQ
namespace Go.Proofs.Ytpniefagpinbdaa
open Go.RowKit Plain Go.Shelf
set_option linter.unusedVariables false

def leavesZ (s : ByteArray) : Int := match asF (lst s) with
  | none => -1
  | some f => leaves f
def depthZ (s : ByteArray) : Int := match asF (lst s) with
  | none => -1
  | some f => depth f
theorem leavesZ_none {s : ByteArray} (h : asF (lst s) = none) : leavesZ s = -1 := by unfold leavesZ; rw [h]
theorem leavesZ_some {s : ByteArray} {f : Frm} (h : asF (lst s) = some f) : leavesZ s = leaves f := by unfold leavesZ; rw [h]
theorem depthZ_none {s : ByteArray} (h : asF (lst s) = none) : depthZ s = -1 := by unfold depthZ; rw [h]
theorem depthZ_some {s : ByteArray} {f : Frm} (h : asF (lst s) = some f) : depthZ s = depth f := by unfold depthZ; rw [h]
theorem isF_none {s : ByteArray} (h : asF (lst s) = none) : isF s = false := by unfold isF; rw [h]; rfl
theorem isF_some {s : ByteArray} {f : Frm} (h : asF (lst s) = some f) : isF s = true := by unfold isF; rw [h]; rfl
theorem txt_60 {s : ByteArray} {f : Frm} (h : asF (lst s) = some f) : (txt f).length ≤ 60 := by
  obtain ⟨h1, h2⟩ := asF_some h
  rw [← h1]; exact h2
theorem size_60 {s : ByteArray} {f : Frm} (h : asF (lst s) = some f) : s.size ≤ 60 := by rw [← lst_len]; exact (asF_some h).2

theorem Is.model_no {s : ByteArray} (h : asF (lst s) = none) : Hid (∀ w, Calls Try.prog 11 #[.string s] w fun e w' => e = .returned (.bool false) ∧ w = w') :=
  Lib.hid fun w => by have := IsF.model s w; rwa [isF_none h] at this
theorem Is.model_yes {s : ByteArray} {f : Frm} (h : asF (lst s) = some f) : Hid (∀ w, Calls Try.prog 11 #[.string s] w fun e w' => e = .returned (.bool true) ∧ w = w') :=
  Lib.hid fun w => by have := IsF.model s w; rwa [isF_some h] at this
theorem Is.parse_no {s : ByteArray} (h : asF (lst s) = none) : Hid (∀ w, Calls Try.prog 29 #[.string s] w fun e w' => e = .returned (.tuple #[.nilIface, .bool false]) ∧ Below w.heap.size w w') :=
  Lib.hid fun w => by have := Rd.parse s w; rwa [asV_none h] at this
theorem Is.parse_yes {s : ByteArray} {f : Frm} (h : asF (lst s) = some f) : Hid (∀ w, Calls Try.prog 29 #[.string s] w fun e w' => e = .returned (.tuple #[.iface (ty f) (raw f), .bool true]) ∧ Below w.heap.size w w') :=
  Lib.hid fun w => by have := Rd.parse s w; rwa [asV_some h] at this

/-- LeavesOf of the program. -/
theorem LeavesOf.impl (s : ByteArray) (w : World) :
    Calls Try.prog 17 #[.string s] w fun e w' => e = .returned (.int .i64 (leavesZ s)) ∧ Below w.heap.size w w' := by
  cases h : asF (lst s) with
  | none =>
    have HI := Is.parse_no h
    rw [leavesZ_none h]
    clear h
    go_enter Try.func17, Try.ntmps17
    go_wp2_with fail
    refine (HI.out _).mono ?_
    rintro e w1 ⟨rfl, hb⟩
    go_wp2_with fail
    go_ret
    exact ⟨rfl, hb⟩
  | some f =>
    have HI := Is.parse_yes h
    have HL := Lib.hid (Leaves.any f (txt_60 h))
    have hm := inv_leaves f
    have he := ent_leaves f
    rw [leavesZ_some h]
    clear h
    go_enter Try.func17, Try.ntmps17
    go_wp2_with fail
    refine (HI.out _).mono ?_
    rintro e w1 ⟨rfl, hb⟩
    go_wp2_with fail
    refine (HL.out _).mono ?_
    rintro e w2 ⟨rfl, hb2⟩
    go_wp2_with fail
    go_ret
    exact ⟨rfl, bstep hb hb2⟩

/-- DepthOf of the program. -/
theorem DepthOf.impl (s : ByteArray) (w : World) :
    Calls Try.prog 19 #[.string s] w fun e w' => e = .returned (.int .i64 (depthZ s)) ∧ Below w.heap.size w w' := by
  cases h : asF (lst s) with
  | none =>
    have HI := Is.parse_no h
    rw [depthZ_none h]
    clear h
    go_enter Try.func19, Try.ntmps19
    go_wp2_with fail
    refine (HI.out _).mono ?_
    rintro e w1 ⟨rfl, hb⟩
    go_wp2_with fail
    go_ret
    exact ⟨rfl, hb⟩
  | some f =>
    have HI := Is.parse_yes h
    have HL := Lib.hid (Depth.any f (txt_60 h))
    have hm := inv_depth f
    have he := ent_depth f
    rw [depthZ_some h]
    clear h
    go_enter Try.func19, Try.ntmps19
    go_wp2_with fail
    refine (HI.out _).mono ?_
    rintro e w1 ⟨rfl, hb⟩
    go_wp2_with fail
    refine (HL.out _).mono ?_
    rintro e w2 ⟨rfl, hb2⟩
    go_wp2_with fail
    go_ret
    exact ⟨rfl, bstep hb hb2⟩

/-- DepthOf of the model. -/
theorem DepthOf.model (s : ByteArray) (w : World) :
    Calls Try.prog 18 #[.string s] w fun e w' => e = .returned (.int .i64 (depthZ s)) ∧ w = w' := by
  cases h : asF (lst s) with
  | none =>
    have HI := Is.model_no h
    rw [depthZ_none h]
    clear h
    go_enter Try.func18, Try.ntmps18
    go_wp2_with fail
    refine (HI.out _).mono ?_
    rintro e w1 ⟨rfl, rfl⟩
    go_wp2_with fail
    go_ret
    exact ⟨rfl, rfl⟩
  | some f =>
    have HI := Is.model_yes h
    have HD : Hid (∀ w, Calls Try.prog 35 #[.string s, .int .i64 0] w fun e w' => e = .returned (.int .i64 (depth f : Int)) ∧ w = w') :=
      Lib.hid fun w => Depth.model s (by have := size_60 h; omega) f 0 w (At.all h)
    rw [depthZ_some h]
    clear h
    go_enter Try.func18, Try.ntmps18
    go_wp2_with fail
    refine (HI.out _).mono ?_
    rintro e w1 ⟨rfl, rfl⟩
    go_wp2_with fail
    refine (HD.out _).mono ?_
    rintro e w1 ⟨rfl, rfl⟩
    go_wp2_with fail
    go_ret
    exact ⟨rfl, rfl⟩


theorem leaf_step (s : ByteArray) (k : Nat) (h : k < s.size) : ((lst s).take (k + 1)).countP isLeaf = ((lst s).take k).countP isLeaf + (if isLeaf s[k] then 1 else 0) := by
  have h' : k < (lst s).length := by rw [lst_len]; exact h
  rw [List.take_succ_eq_append_getElem h', List.countP_append]
  congr 1
  have e : (lst s)[k] = s[k] := rfl
  rw [e]
  simp only [List.countP_cons, List.countP_nil]
  split <;> omega

theorem leaf_no {c : UInt8} (h : isLeaf c = false) : ((c.toNat : Int) = 33) ∨ ((c.toNat : Int) = 38) ∨ ((c.toNat : Int) = 124) ∨ ((c.toNat : Int) = 94) := by
  unfold isLeaf at h
  have : c = 33 ∨ c = 38 ∨ c = 124 ∨ c = 94 := by
    by_cases h1 : c = 33
    · exact .inl h1
    · by_cases h2 : c = 38
      · exact .inr (.inl h2)
      · by_cases h3 : c = 124
        · exact .inr (.inr (.inl h3))
        · by_cases h4 : c = 94
          · exact .inr (.inr (.inr h4))
          · simp [h1, h2, h3, h4] at h
  rcases this with rfl | rfl | rfl | rfl
  · exact .inl rfl
  · exact .inr (.inl rfl)
  · exact .inr (.inr (.inl rfl))
  · exact .inr (.inr (.inr rfl))

theorem leaf_yes {c : UInt8} (h : isLeaf c = true) : ((c.toNat : Int) != 33) = true ∧ ((c.toNat : Int) != 38) = true ∧ ((c.toNat : Int) != 124) = true ∧ ((c.toNat : Int) != 94) = true := by
  unfold isLeaf at h
  simp only [Bool.and_eq_true, bne_iff_ne] at h
  obtain ⟨⟨⟨h1, h2⟩, h3⟩, h4⟩ := h
  have n1 := no_byte 33 (by decide) h1
  have n2 := no_byte 38 (by decide) h2
  have n3 := no_byte 124 (by decide) h3
  have n4 := no_byte 94 (by decide) h4
  refine ⟨?_, ?_, ?_, ?_⟩
  · exact congrArg (! ·) n1
  · exact congrArg (! ·) n2
  · exact congrArg (! ·) n3
  · exact congrArg (! ·) n4

set_option maxRecDepth 100000 in
set_option maxHeartbeats 1000000 in
/-- LeavesOf of the model. -/
theorem LeavesOf.model (s : ByteArray) (w : World) :
    Calls Try.prog 16 #[.string s] w fun e w' => e = .returned (.int .i64 (leavesZ s)) ∧ w = w' := by
  cases h : asF (lst s) with
  | none =>
    have HI := Is.model_no h
    rw [leavesZ_none h]
    clear h
    go_enter Try.func16, Try.ntmps16
    go_wp2_with fail
    refine (HI.out _).mono ?_
    rintro e w1 ⟨rfl, rfl⟩
    go_wp2_with fail
    go_ret
    exact ⟨rfl, rfl⟩
  | some f =>
    have HI := Is.model_yes h
    have h60 : (s.size : Int) ≤ 60 := by have := size_60 h; omega
    have HV : Hid (leavesZ s = (((lst s).take s.size).countP isLeaf : Int)) := by
      refine Lib.hid ?_
      rw [leavesZ_some h, ← lst_len, List.take_length, (asF_some h).1, leaves_txt]
    have HS := Lib.hid (leaf_step s)
    have HC : Hid (∀ k, ((lst s).take k).countP isLeaf ≤ k) := Lib.hid fun k => Nat.le_trans List.countP_le_length (by simp; omega)
    clear h
    generalize leavesZ s = z at HV
    go_enter Try.func16, Try.ntmps16
    go_wp2_with fail
    refine (HI.out _).mono ?_
    rintro e w1 ⟨rfl, rfl⟩
    go_wp2_with fail
    go_loop [3, 4] (fun n i => ∃ k : Nat, k ≤ s.size ∧ i = .int .i64 (k : Int) ∧ n = .int .i64 ((((lst s).take k).countP isLeaf : Nat) : Int)) (fun _ i => 61 - (intOf i).toNat)
    case atStart => exact ⟨0, Nat.zero_le _, rfl, rfl⟩
    case round =>
      obtain ⟨k, hk, rfl, rfl⟩ := hrel
      have hc60 := HC.out k
      by_cases hlt : k < s.size
      · have HT := Lib.hid (HS.out k hlt)
        have hc0 : ((((lst s).take k).countP isLeaf : Nat) : Int) ≤ 60 := by omega
        cases hl : isLeaf s[k] with
        | true =>
          obtain ⟨t1, t2, t3, t4⟩ := leaf_yes hl
          rw [hl] at HT
          generalize ((lst s).take k).countP isLeaf = m at *
          clear hl hc60
          go_wp2
          go_round
          case rel => exact ⟨k + 1, by omega, by go_num, by rw [HT.out]; go_num⟩
          case measure => simp [intOf]; omega
        | false =>
          have hq := leaf_no hl
          rw [hl] at HT
          generalize ((lst s).take k).countP isLeaf = m at *
          clear hl hc60
          rcases hq with q | q | q | q
          all_goals
            go_wp2
            go_round
            case rel => exact ⟨k + 1, by omega, by go_num, by rw [HT.out]; rfl⟩
            case measure => simp [intOf]; omega
      · obtain rfl : k = s.size := by omega
        go_wp2
        go_ret
        exact ⟨ret_int HV.out.symm, rfl⟩


end Go.Proofs.Ytpniefagpinbdaa
