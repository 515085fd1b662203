/-
  Chapter 7: following a tree's text, of the model (l7Skip, l7Run, QueriesOf).
-/
import Derived.Test.YtdhdkonokbkdoaaGreatDoorTreE
namespace Go.Proofs.YtdhdkonokbkdoaaGreatDoor
open Go.RowKit Plain
set_option linter.unusedVariables false

theorem txt_head {s : ByteArray} {k : Nat} {c : UInt8} {l : List UInt8} (h : (lst s).drop k = c :: l) : ∃ hlt : k < s.size, s[k] = c ∧ (lst s).drop (k + 1) = l := by
  have hlt : k < s.size := by
    rw [← lst_len]
    by_cases hh : k < (lst s).length
    · exact hh
    · rw [List.drop_eq_nil_of_le (by omega)] at h; cases h
  refine ⟨hlt, ?_⟩
  rw [lst_drop s k hlt] at h
  cases h
  exact ⟨rfl, rfl⟩

theorem txt_room {s : ByteArray} {k : Nat} {T : DT} {r : List UInt8} (h : (lst s).drop k = txtD T ++ r) : k + (txtD T).length ≤ s.size ∧ (lst s).drop (k + (txtD T).length) = r := by
  have hl := congrArg List.length h
  simp only [List.length_append, List.length_drop, lst_len] at hl
  have := txtD_pos T
  refine ⟨by omega, ?_⟩
  rw [← List.drop_drop, h]
  simp

set_option maxRecDepth 100000 in
set_option maxHeartbeats 1000000 in
/-- l7Skip. -/
theorem Skip.any (s : ByteArray) (hs : (s.size : Int) ≤ 63) (T : DT) : ∀ (k : Nat) (r : List UInt8) (w : World), (lst s).drop k = txtD T ++ r →
    Calls Tryz.prog 71 #[.string s, .int .i64 (k : Int)] w fun e w' => e = .returned (.int .i64 ((k + (txtD T).length : Nat) : Int)) ∧ w = w' := by
  induction T with
  | val b =>
    intro k r w h
    obtain ⟨hlt, hc, _⟩ := txt_head h
    have hlen : (txtD (.val b)).length = 1 := rfl
    rw [hlen]
    cases b
    case' false => have q : (s[k].toNat : Int) = 48 := by rw [hc]; rfl
    case' true => have q : (s[k].toNat : Int) = 49 := by rw [hc]; rfl
    all_goals
      clear hc h hlen
      go_enter Tryz.func71, Tryz.ntmps71
      go_wp2_with fail
      go_ret
      exact ⟨ret_int (by omega), rfl⟩
  | ask i l u ihl ihu =>
    intro k r w h
    have h2 : (lst s).drop k = letC i :: (txtD l ++ (txtD u ++ r)) := by rw [h]; simp [txtD]
    obtain ⟨hlt, hc, h3⟩ := txt_head h2
    obtain ⟨hr1, h4⟩ := txt_room h3
    obtain ⟨hr2, _⟩ := txt_room h4
    have hlen : (txtD (.ask i l u)).length = (txtD l).length + (txtD u).length + 1 := by simp [txtD]
    have q : (s[k].toNat : Int) = 97 + (i.val : Int) := by rw [hc]; exact letC_int i
    have hi := i.isLt
    have q48 : (97 + (i.val : Int) == 48) = false := by rw [beq_eq_false_iff_ne]; omega
    have q49 : (97 + (i.val : Int) == 49) = false := by rw [beq_eq_false_iff_ne]; omega
    have IH1 : ∀ w, Calls Tryz.prog 71 #[.string s, .int .i64 ((k : Int) + 1)] w fun e w' => e = .returned (.int .i64 ((k + 1 + (txtD l).length : Nat) : Int)) ∧ w = w' := fun w => ihl (k + 1) _ w h3
    have IH2 := fun w => ihu (k + 1 + (txtD l).length) r w h4
    rw [hlen]
    have he : k + ((txtD l).length + (txtD u).length + 1) = k + 1 + (txtD l).length + (txtD u).length := by omega
    rw [he]
    have hz1 : ((k + 1 + (txtD l).length : Nat) : Int) ≤ 63 := by omega
    have hz2 : ((k + 1 + (txtD l).length + (txtD u).length : Nat) : Int) ≤ 63 := by omega
    clear ihl ihu hc h h2 h3 h4 hlen he
    generalize k + 1 + (txtD l).length = a at *
    generalize a + (txtD u).length = b at *
    have HI := Lib.hid IH1
    have HI2 := Lib.hid IH2
    clear IH1 IH2
    generalize i.val = I at *
    go_enter Tryz.func71, Tryz.ntmps71
    go_wp2_with fail
    refine (HI.out _).mono ?_
    rintro e w2 ⟨rfl, rfl⟩
    go_wp2_with fail
    refine (HI2.out _).mono ?_
    rintro e w2 ⟨rfl, rfl⟩
    go_wp2_with fail
    go_ret
    exact ⟨rfl, rfl⟩

/-- At place k there begins a tree, by which the whole goes on for the input x. -/
def Plain.OnD (s : ByteArray) (T : DT) (x k c : Nat) : Prop := ∃ U r, (lst s).drop k = txtD U ++ r ∧ valD U x = valD T x ∧ c + numD U x = numD T x

set_option maxRecDepth 100000 in
set_option maxHeartbeats 2000000 in
/-- l7Run. -/
theorem Run.any (s : ByteArray) (T : DT) (hs : lst s = txtD T) (hz : (s.size : Int) ≤ 63) (x : Nat) (hx : (x : Int) ≤ 31) (hn5 : numD T x ≤ 5) (w : World) :
    Calls Tryz.prog 49 #[.string s, .int .i64 (x : Int)] w fun e w' => e = .returned (.tuple #[.int .i64 (valD T x : Int), .int .i64 (numD T x : Int)]) ∧ w = w' := by
  have hon : OnD s T x 0 0 := ⟨T, [], by rw [List.drop_zero, hs, List.append_nil], rfl, by omega⟩
  have HSK := Lib.hid (Skip.any s hz)
  have HV := Lib.hid hn5
  generalize hvt : valD T x = vt at *
  generalize hnt : numD T x = nt at *
  have HVT := Lib.hid hvt
  have HNT := Lib.hid hnt
  clear hvt hnt hn5 hs
  go_enter Tryz.func49, Tryz.ntmps49
  go_wp2_with fail
  go_loop [6, 7] (fun at_ c => ∃ (k m : Nat), at_ = .int .i64 (k : Int) ∧ c = .int .i64 (m : Int) ∧ OnD s T x k m) (fun at_ _ => 64 - (intOf at_).toNat)
  case atStart => exact ⟨0, 0, rfl, rfl, hon⟩
  case round =>
    obtain ⟨k, m, rfl, rfl, U, r, hd, hv, hc⟩ := hrel
    clear hon
    have hroom := (txt_room hd).1
    rw [HVT.out] at hv
    rw [HNT.out] at hc
    have hm5 : (m : Int) ≤ 5 := by have := HV.out; omega
    cases U with
    | val b =>
      obtain ⟨hlt, hcc, _⟩ := txt_head hd
      have hlen : (txtD (.val b)).length = 1 := rfl
      rw [hlen] at hroom
      have HE : Hid (vt = b.toNat ∧ nt = m) := Lib.hid ⟨hv.symm, by simp only [numD] at hc; omega⟩
      clear hd hv hc hlen
      cases b
      case' false => have q : (s[k].toNat : Int) = 48 := by rw [hcc]; rfl
      case' true => have q : (s[k].toNat : Int) = 49 := by rw [hcc]; rfl
      all_goals
        clear hcc
        go_wp2_with fail
        go_ret2
        exact ⟨by rw [HE.out.1, HE.out.2]; rfl, rfl⟩
    | ask i l u =>
      have h2 : (lst s).drop k = letC i :: (txtD l ++ (txtD u ++ r)) := by rw [hd]; simp [txtD]
      obtain ⟨hlt, hcc, h3⟩ := txt_head h2
      obtain ⟨hr1, h4⟩ := txt_room h3
      have hpos := txtD_pos l
      have q : (s[k].toNat : Int) = 97 + (i.val : Int) := by rw [hcc]; exact letC_int i
      have hi := i.isLt
      have h97 : (97 + (i.val : Int)) - 97 = (i.val : Int) := by omega
      have q48 : (97 + (i.val : Int) != 48) = true := by rw [bne_iff_ne]; omega
      have q49 : (97 + (i.val : Int) != 49) = true := by rw [bne_iff_ne]; omega
      have hbit := bit_i64 x i.val (by omega)
      cases hb : x.testBit i.val with
      | true =>
        rw [bit_of x i.val true hb] at hbit
        have HO : Hid (OnD s T x (k + 1 + (txtD l).length) (m + 1)) := Lib.hid ⟨u, r, h4, by rw [HVT.out, ← hv]; simp [valD, hb], by rw [HNT.out, ← hc]; simp only [numD, hb]; simp; omega⟩
        have HI : Hid (∀ w, Calls Tryz.prog 71 #[.string s, .int .i64 ((k : Int) + 1)] w fun e w' => e = .returned (.int .i64 ((k + 1 + (txtD l).length : Nat) : Int)) ∧ w = w') := Lib.hid fun w => HSK.out l (k + 1) _ w h3
        have hz1 : ((k + 1 + (txtD l).length : Nat) : Int) ≤ 63 := by omega
        have hz3 : k < k + 1 + (txtD l).length := by omega
        clear hd hv hc h2 h3 h4 hb hcc hroom hr1 hpos
        generalize k + 1 + (txtD l).length = a at *
        generalize i.val = I at *
        go_wp2_with fail
        refine (HI.out _).mono ?_
        rintro e w2 ⟨rfl, rfl⟩
        go_wp2_with fail
        go_round
        case rel => exact ⟨a, m + 1, rfl, by go_num, HO.out⟩
        case measure => simp [intOf]; omega
      | false =>
        rw [bit_of x i.val false hb] at hbit
        have HO : Hid (OnD s T x (k + 1) (m + 1)) := Lib.hid ⟨l, txtD u ++ r, h3, by rw [HVT.out, ← hv]; simp [valD, hb], by rw [HNT.out, ← hc]; simp only [numD, hb]; simp; omega⟩
        have hz1 : ((k + 1 : Nat) : Int) ≤ 63 := by omega
        clear hd hv hc h2 h3 h4 hb hcc hroom hr1 hpos
        generalize i.val = I at *
        go_wp2_with fail
        go_round
        case rel => exact ⟨k + 1, m + 1, by go_num, by go_num, HO.out⟩
        case measure => simp [intOf]; omega

theorem isD_some {s : ByteArray} {T : DT} (h : asD (lst s) = some T) : isD s = true := by unfold isD; rw [h]; rfl
theorem isD_none {s : ByteArray} (h : asD (lst s) = none) : isD s = false := by unfold isD; rw [h]; rfl

/-- What QueriesOf answers. -/
def Plain.quD (s : ByteArray) (x : Int) : Int := match asD (lst s) with
  | none => -1
  | some T => if 0 ≤ x ∧ x ≤ 31 then (numD T x.toNat : Int) else -1
theorem quD_none {s : ByteArray} (x : Int) (h : asD (lst s) = none) : quD s x = -1 := by unfold quD; rw [h]
theorem quD_out {s : ByteArray} {x : Int} (h : ¬ (0 ≤ x ∧ x ≤ 31)) : quD s x = -1 := by
  unfold quD
  split
  · rfl
  · exact if_neg h
theorem quD_in {s : ByteArray} {T : DT} {x : Nat} (h : asD (lst s) = some T) (hx : (x : Int) ≤ 31) : quD s x = (numD T x : Int) := by
  unfold quD; rw [h]; exact if_pos ⟨by omega, hx⟩

set_option maxRecDepth 100000 in
/-- QueriesOf of the model. -/
theorem Qu.model (s : ByteArray) (x : Int) (w : World) :
    Calls Tryz.prog 22 #[.string s, .int .i64 x] w fun e w' => e = .returned (.int .i64 (quD s x)) ∧ w = w' := by
  have HM := Lib.hid (IsD.model s)
  cases hT : asD (lst s) with
  | none =>
    rw [quD_none x hT]
    rw [isD_none hT] at HM
    go_enter Tryz.func22, Tryz.ntmps22
    go_wp2_with fail
    refine (HM.out _).mono ?_
    rintro e w2 ⟨rfl, rfl⟩
    go_wp2_with fail
    go_ret
    exact ⟨rfl, rfl⟩
  | some T =>
    rw [isD_some hT] at HM
    by_cases hx : 0 ≤ x ∧ x ≤ 31
    · obtain ⟨y, rfl⟩ : ∃ y : Nat, x = (y : Int) := ⟨x.toNat, by omega⟩
      have HIN := Lib.hid (inB_yes hx)
      rw [quD_in hT hx.2]
      obtain ⟨ht, ho, hl⟩ := asD_some hT
      have HR := Lib.hid (Run.any s T ht (by rw [lst_len] at hl; omega) y hx.2 (num_5 ho y))
      clear ht ho hl hT
      go_enter Tryz.func22, Tryz.ntmps22
      go_wp2_with fail
      refine (HM.out _).mono ?_
      rintro e w2 ⟨rfl, rfl⟩
      go_wp2_with fail
      refine (Widths.inRange _ _ _ _).mono ?_
      rintro e w2 ⟨rfl, rfl⟩
      rw [HIN.out]
      go_wp2_with fail
      refine (HR.out _).mono ?_
      rintro e w2 ⟨rfl, rfl⟩
      go_wp2_with fail
      go_ret
      exact ⟨rfl, rfl⟩
    · have HIN := Lib.hid (inB_no hx)
      rw [quD_out hx]
      clear hx
      go_enter Tryz.func22, Tryz.ntmps22
      go_wp2_with fail
      refine (HM.out _).mono ?_
      rintro e w2 ⟨rfl, rfl⟩
      go_wp2_with fail
      refine (Widths.inRange _ _ _ _).mono ?_
      rintro e w2 ⟨rfl, rfl⟩
      rw [HIN.out]
      go_wp2_with fail
      go_ret
      exact ⟨rfl, rfl⟩

end Go.Proofs.YtdhdkonokbkdoaaGreatDoor
