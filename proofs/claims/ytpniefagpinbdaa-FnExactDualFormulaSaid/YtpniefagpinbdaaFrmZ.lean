/-
  Chapter 5: DualFormula of the program and of its model.
-/
import Derived.Test.YtpniefagpinbdaaFrmX
import Derived.Shelf.Strings.Search3
namespace Go.Proofs.Ytpniefagpinbdaa
open Go.RowKit Plain Go.Shelf
set_option linter.unusedVariables false

/-- A row of bytes in a block. -/
def BRow (w : World) (g : Nat) (l : List UInt8) : Prop := ∀ j (h : j < l.length), w.cell? ⟨g, j, none⟩ = some (.int .u8 (l[j].toNat : Int)) ∧ w.frozen? ⟨g, j, none⟩ = false

theorem bytesRow_get (s : ByteArray) (cap j : Nat) (h : j < (lst s).length) : (bytesRow s cap)[j]? = some (.int .u8 ((lst s)[j].toNat : Int)) := by
  unfold bytesRow
  have h' : j < s.data.size := by simpa [lst] using h
  rw [Array.getElem?_append_left (by simpa using h')]
  simp [lst]
  exact ⟨_, Array.getElem?_eq_getElem h', rfl⟩
theorem bytesRow_size (s : ByteArray) (cap : Nat) : (lst s).length ≤ (bytesRow s cap).size := by
  unfold bytesRow
  simp [lst]

/-- '[]byte(s)'. -/
theorem BRow.conv (s : ByteArray) (w : World) : ∃ cap w2, (convert 9 47 (.string s)).run Try.prog w = .ok (.slice (some ⟨w.heap.size, 0, none⟩) s.size cap) w2 ∧ BRow w2 w.heap.size (lst s) ∧ Below w.heap.size w w2 ∧ w.heap.size < w2.heap.size := by
  refine ⟨_, _, run_bytes_of_string w 9 47 5 s Try.underlying9 Try.underlying47 Try.underlying5, ?_, ?_, ?_⟩
  · intro j hj
    refine ⟨?_, ?_⟩
    · exact (World.cell?_alloc_mark w.drew _ _ _ j).trans (bytesRow_get s _ j hj)
    · refine (World.frozen?_alloc_mark w.drew _ _ _ _ j).trans ?_
      have := bytesRow_size s (grownCap w s.size 0 5)
      rw [decide_eq_false (by omega)]; rfl
  · exact (Below.refl _ _).drew.alloc (Nat.le_refl _) _
  · simp

theorem BRow.set {w : World} {g : Nat} {l : List UInt8} (h : BRow w g l) (i : Nat) (hi : i < l.length) (c : UInt8) (x : Int) (hx : x = (c.toNat : Int)) : BRow (w.setCell ⟨g, i, none⟩ (.int .u8 x)) g (l.set i c) := by
  intro j hj
  have hj' : j < l.length := by simpa using hj
  refine ⟨?_, ?_⟩
  · by_cases e : j = i
    · subst e
      rw [World.cell?_setCell_same _ _ _ (h j hj').1, hx]
      simp
    · rw [World.cell?_setCell_other _ _ _ _ (by first | (simp; done) | (simp; omega)), (h j hj').1]
      rw [List.getElem_set_ne (by omega)]
  · exact (World.frozen?_setCell ..).trans (h j hj').2

/-- 'string(out)'. -/
theorem BRow.text {w : World} {g n cap : Nat} {l : List UInt8} (h : BRow w g l) (hn : n = l.length) : (convert 47 9 (.slice (some ⟨g, 0, none⟩) n cap)).run Try.prog w = .ok (.string ⟨l.toArray⟩) w := by
  subst hn
  refine run_convert_bytes_back w _ _ 5 _ _ l Try.underlying47 Try.underlying5 Try.underlying9 ?_
  intro j hj
  exact (congrArg w.cell? (by simp [Addr.add]; omega)).trans (h j hj).1

/-- The bytes when the first k are exchanged. -/
def Plain.dualL (s : ByteArray) (k : Nat) : List UInt8 := ((lst s).take k).map dualC ++ (lst s).drop k
theorem dualL_zero (s : ByteArray) : dualL s 0 = lst s := by simp [dualL]
theorem dualL_len (s : ByteArray) (k : Nat) (h : k ≤ s.size) : (dualL s k).length = s.size := by
  have := lst_len s
  simp only [dualL, List.length_append, List.length_map, List.length_take, List.length_drop]
  omega
theorem dualL_all (s : ByteArray) : dualL s s.size = (lst s).map dualC := by
  unfold dualL
  rw [take_all, lst_end, List.append_nil]
theorem dualL_at (s : ByteArray) (k : Nat) (h : k < s.size) : (dualL s k)[k]'(by rw [dualL_len s k (by omega)]; exact h) = s[k] := by
  have hl := lst_len s
  unfold dualL
  rw [List.getElem_append_right (by simp [hl]; omega)]
  simp [hl]
  congr 1
  simp [Nat.min_eq_left (Nat.le_of_lt h)]
theorem dualL_step (s : ByteArray) (k : Nat) (h : k < s.size) : (dualL s k).set k (dualC s[k]) = dualL s (k + 1) := by
  have hl := lst_len s
  unfold dualL
  have h' : k < (lst s).length := by rw [hl]; exact h
  rw [List.take_succ_eq_append_getElem h', List.map_append, lst_drop s k h]
  have hk : (((lst s).take k).map dualC).length = k := by simp [hl]; omega
  rw [List.set_append_right _ _ (by omega), hk, Nat.sub_self]
  have e : (lst s)[k] = s[k] := rfl
  simp [e]

/-- Has the text a ^? -/
def Plain.hasXor (s : ByteArray) : Bool := decide (0 ≤ Lib.indexByte (lst s) 94)
theorem hasXor_any (l : List UInt8) : decide (0 ≤ Lib.indexByte l 94) = l.any (fun c => c == 94) := by
  induction l with
  | nil => rfl
  | cons c l ih =>
    unfold Lib.indexByte
    rw [List.any_cons]
    cases hc : c == 94 with
    | true => simp
    | false =>
      rw [← ih]
      have hge := Lib.indexByte_ge l 94
      generalize Lib.indexByte l 94 = z at hge ⊢
      by_cases hz : z = -1
      · subst hz; decide
      · have : (z == -1) = false := by simpa using hz
        rw [this]
        simp
        omega

/-- What DualFormula answers. -/
def dualV (s : ByteArray) : ByteArray × Bool := if isF s && !(lst s).any (fun c => c == 94) then (⟨((lst s).map dualC).toArray⟩, true) else (⟨#[]⟩, false)
theorem dualV_no {s : ByteArray} (h : isF s = false) : dualV s = (⟨#[]⟩, false) := by unfold dualV; rw [h]; rfl
theorem dualV_xor {s : ByteArray} (h : (lst s).any (fun c => c == 94) = true) : dualV s = (⟨#[]⟩, false) := by unfold dualV; rw [h]; simp
theorem dualV_yes {s : ByteArray} (h : isF s = true) (h2 : (lst s).any (fun c => c == 94) = false) : dualV s = (⟨((lst s).map dualC).toArray⟩, true) := by unfold dualV; rw [h, h2]; rfl

theorem Dual.has (s : ByteArray) (w : World) :
    Calls Try.prog 38 #[.string s, .string ⟨#[94]⟩] w fun e w' => e = .returned (.bool ((lst s).any (fun c => c == 94))) ∧ w = w' :=
  (Any.strings_Contains_one Try.lays144 s 94 w).mono fun e w' ⟨h1, h2⟩ => ⟨by rw [h1, ← hasXor_any], h2.symm⟩

set_option maxRecDepth 100000 in
set_option maxHeartbeats 1000000 in
/-- DualFormula of the program. -/
theorem DualF.impl (s : ByteArray) (w : World) :
    Calls Try.prog 27 #[.string s] w fun e w' => e = .returned (.tuple #[.string (dualV s).1, .bool (dualV s).2]) ∧ Below w.heap.size w w' := by
  have HI := IsF.impl s
  cases h : isF s with
  | false =>
    rw [dualV_no h]
    rw [h] at HI
    replace HI := Lib.hid HI
    clear h
    go_enter Try.func27, Try.ntmps27
    go_wp2_with fail
    refine (HI.out _).mono ?_
    rintro e w1 ⟨rfl, hb⟩
    go_wp2_with fail
    go_ret2
    exact ⟨rfl, hb⟩
  | true =>
    rw [h] at HI
    replace HI := Lib.hid HI
    have HX := Dual.has s
    cases hx : (lst s).any (fun c => c == 94) with
    | true =>
      rw [dualV_xor hx]
      rw [hx] at HX
      replace HX := Lib.hid HX
      clear h hx
      go_enter Try.func27, Try.ntmps27
      go_wp2_with fail
      refine (HI.out _).mono ?_
      rintro e w1 ⟨rfl, hb⟩
      go_wp2_with fail
      refine (HX.out _).mono ?_
      rintro e w2 ⟨rfl, rfl⟩
      go_wp2_with fail
      go_ret2
      exact ⟨rfl, hb⟩
    | false =>
      rw [dualV_yes h hx]
      rw [hx] at HX
      replace HX := Lib.hid HX
      have HZ := Lib.hid (isF_size h)
      have HL := Lib.hid (dualL_all s)
      have HA := Lib.hid (dualL_at s)
      have HS := Lib.hid (dualL_step s)
      have HN := Lib.hid (dualL_len s)
      have HD := Lib.hid Dual.any
      have H0 := Lib.hid (dualL_zero s)
      clear h hx
      generalize (lst s).map dualC = R at *
      go_enter Try.func27, Try.ntmps27
      go_wp2_with fail
      refine (HI.out _).mono ?_
      rintro e w1 ⟨rfl, hb⟩
      go_wp2_with fail
      refine (HX.out _).mono ?_
      rintro e w2 ⟨rfl, rfl⟩
      obtain ⟨cap, w2, hcv, hrow, hb2, hz2⟩ := BRow.conv s w1
      rw [← H0.out] at hrow
      have HB0 := Lib.hid (bstep hb hb2)
      have hg : w.heap.size ≤ w1.heap.size := hb.size
      clear hb hb2
      have HROW := Lib.hid hrow
      clear hrow
      go_wp2_with fail
      go_loopw [18] (fun i wr => ∃ k : Nat, k ≤ s.size ∧ i = .int .i64 (k : Int) ∧ BRow wr w1.heap.size (dualL s k) ∧ Below w.heap.size w wr) (fun i _ => s.size + 1 - (intOf i).toNat)
      case atStart => exact ⟨0, Nat.zero_le _, rfl, HROW.out, HB0.out⟩
      case round =>
        obtain ⟨k, hk, rfl, hrk, hbk⟩ := hrel
        have HRK := Lib.hid hrk
        have HBK := Lib.hid hbk
        clear hrk hbk
        have hs60 : (s.size : Int) ≤ 60 := by have := HZ.out; omega
        by_cases hlt : k < s.size
        · have hlen := HN.out k (by omega)
          have hcell : wr.cell? ⟨w1.heap.size, k, none⟩ = some (.int .u8 (s[k].toNat : Int)) := by
            have := (HRK.out k (by omega)).1
            rw [HA.out k hlt] at this
            exact this
          have hfree := (HRK.out k (by omega)).2
          have HSET := Lib.hid (HRK.out.set k (by omega) (dualC s[k]) _ rfl)
          rw [HS.out k hlt] at HSET
          clear hlen
          go_wp2_with fail
          refine (HD.out _ _).mono ?_
          rintro e w3 ⟨rfl, rfl⟩
          go_wp2_with fail
          go_roundw
          case rel => exact ⟨k + 1, by omega, by go_num, HSET.out, HBK.out.setCell hg _⟩
          case measure => simp [intOf]; omega
        · obtain rfl : k = s.size := by omega
          have ht := HRK.out.text (cap := cap) (HN.out s.size (Nat.le_refl _)).symm
          rw [HL.out] at ht
          go_wp2_with fail
          go_ret2
          exact ⟨rfl, HBK.out⟩


theorem dual_step_txt (s : ByteArray) (hs : s.size ≤ 60) (k : Nat) (h : k < s.size) (w : World) :
    (Op.stringOp .add ⟨(((lst s).take k).map dualC).toArray⟩ ⟨#[dualC s[k]]⟩).run Try.prog w = .ok (.string ⟨(((lst s).take (k + 1)).map dualC).toArray⟩) w := by
  have h' : k < (lst s).length := by rw [lst_len]; exact h
  have e : ((lst s).take (k + 1)).map dualC = ((lst s).take k).map dualC ++ [dualC s[k]] := by
    rw [List.take_succ_eq_append_getElem h', List.map_append]
    rfl
  rw [e]
  exact join_txt _ [dualC s[k]] (by simp; omega) w

set_option maxRecDepth 100000 in
set_option maxHeartbeats 1000000 in
/-- DualFormula of the model. -/
theorem DualF.model (s : ByteArray) (hbig : (s.size : Int) ≤ 1048576) (w : World) :
    Calls Try.prog 26 #[.string s] w fun e w' => e = .returned (.tuple #[.string (dualV s).1, .bool (dualV s).2]) ∧ w = w' := by
  have HI := IsF.model s
  cases h : isF s with
  | false =>
    rw [dualV_no h]
    rw [h] at HI
    replace HI := Lib.hid HI
    clear h
    go_enter Try.func26, Try.ntmps26
    go_wp2_with fail
    go_loop [4, 5] (fun t i => t = .string ⟨#[]⟩ ∧ i = .int .i64 0) (fun _ _ => 1)
    case atStart => exact ⟨rfl, rfl⟩
    case round =>
      obtain ⟨rfl, rfl⟩ := hrel
      by_cases hz : (0 : Int) < (s.size : Int)
      · go_wp2_with fail
        refine (HI.out _).mono ?_
        rintro e w3 ⟨rfl, rfl⟩
        go_wp2_with fail
        refine (HI.out _).mono ?_
        rintro e w3 ⟨rfl, rfl⟩
        go_wp2_with fail
        go_ret2
        exact ⟨rfl, rfl⟩
      · have hz0 : s.size = 0 := by omega
        clear hz
        go_wp2_with fail
        refine (HI.out _).mono ?_
        rintro e w3 ⟨rfl, rfl⟩
        go_wp2_with fail
        go_ret2
        exact ⟨rfl, rfl⟩
  | true =>
    rw [h] at HI
    replace HI := Lib.hid HI
    have hz60 := isF_size h
    have HJ := Lib.hid (dual_step_txt s hz60)
    have hs60 : (s.size : Int) ≤ 60 := by omega
    have HXT : Hid (∀ k (hk : k < s.size), s[k] = 94 → dualV s = (⟨#[]⟩, false)) := Lib.hid fun k hk hc => dualV_xor (take_any_true hk (by rw [hc]; rfl))
    have HXN : Hid (((lst s).take s.size).any (fun c => c == 94) = false → dualV s = (⟨(((lst s).take s.size).map dualC).toArray⟩, true)) := Lib.hid fun hx => by
      rw [take_all] at hx ⊢
      exact dualV_yes h hx
    have HXS := Lib.hid (take_any (fun c => c == 94) s)
    have HSL := Lib.hid (one_text_at s)
    clear h hbig hz60
    go_enter Try.func26, Try.ntmps26
    go_wp2_with fail
    go_loop [4, 5] (fun t i => ∃ k : Nat, k ≤ s.size ∧ i = .int .i64 (k : Int) ∧ t = .string ⟨(((lst s).take k).map dualC).toArray⟩ ∧ ((lst s).take k).any (fun c => c == 94) = false) (fun _ i => 61 - (intOf i).toNat)
    case atStart => exact ⟨0, Nat.zero_le _, rfl, rfl, rfl⟩
    case round =>
      obtain ⟨k, hk, rfl, rfl, hx⟩ := hrel
      have HX := Lib.hid hx
      clear hx
      by_cases hlt : k < s.size
      · by_cases h94 : s[k] = 94
        · have HB := Lib.hid (HXT.out k hlt h94)
          have q := num_94 h94
          clear h94
          generalize (⟨(((lst s).take k).map dualC).toArray⟩ : ByteArray) = T at *
          go_wp2_with fail
          refine (HI.out _).mono ?_
          rintro e w3 ⟨rfl, rfl⟩
          go_wp2_with fail
          go_ret2
          exact ⟨by rw [HB.out]; rfl, rfl⟩
        · have HX' : Hid (((lst s).take (k + 1)).any (fun c => c == 94) = false) := Lib.hid (by
            rw [HXS.out k hlt, HX.out]
            simpa using h94)
          by_cases hd : s[k] = 38 ∨ s[k] = 124 ∨ s[k] = 48 ∨ s[k] = 49
          · rcases hd with hc | hc | hc | hc
            · have hj : ∀ w, (Op.stringOp .add ⟨(((lst s).take k).map dualC).toArray⟩ ⟨#[124]⟩).run Try.prog w = .ok (.string ⟨(((lst s).take (k + 1)).map dualC).toArray⟩) w := fun w => by
                have := HJ.out k hlt w
                rw [hc] at this
                exact this
              have q := num_38 hc
              generalize (⟨(((lst s).take k).map dualC).toArray⟩ : ByteArray) = T at *
              generalize hT : (⟨(((lst s).take (k + 1)).map dualC).toArray⟩ : ByteArray) = T' at *
              have HT' := Lib.hid hT
              clear hc h94 hT
              go_wp2_with fail
              refine (HI.out _).mono ?_
              rintro e w3 ⟨rfl, rfl⟩
              go_wp2_with fail
              go_round
              case rel => exact ⟨k + 1, by omega, by go_num, by rw [HT'.out], HX'.out⟩
              case measure => simp [intOf]; omega
            · have hj : ∀ w, (Op.stringOp .add ⟨(((lst s).take k).map dualC).toArray⟩ ⟨#[38]⟩).run Try.prog w = .ok (.string ⟨(((lst s).take (k + 1)).map dualC).toArray⟩) w := fun w => by
                have := HJ.out k hlt w
                rw [hc] at this
                exact this
              have q := num_124 hc
              generalize (⟨(((lst s).take k).map dualC).toArray⟩ : ByteArray) = T at *
              generalize hT : (⟨(((lst s).take (k + 1)).map dualC).toArray⟩ : ByteArray) = T' at *
              have HT' := Lib.hid hT
              clear hc h94 hT
              go_wp2_with fail
              refine (HI.out _).mono ?_
              rintro e w3 ⟨rfl, rfl⟩
              go_wp2_with fail
              go_round
              case rel => exact ⟨k + 1, by omega, by go_num, by rw [HT'.out], HX'.out⟩
              case measure => simp [intOf]; omega
            · have hj : ∀ w, (Op.stringOp .add ⟨(((lst s).take k).map dualC).toArray⟩ ⟨#[49]⟩).run Try.prog w = .ok (.string ⟨(((lst s).take (k + 1)).map dualC).toArray⟩) w := fun w => by
                have := HJ.out k hlt w
                rw [hc] at this
                exact this
              have q := num_48 hc
              generalize (⟨(((lst s).take k).map dualC).toArray⟩ : ByteArray) = T at *
              generalize hT : (⟨(((lst s).take (k + 1)).map dualC).toArray⟩ : ByteArray) = T' at *
              have HT' := Lib.hid hT
              clear hc h94 hT
              go_wp2_with fail
              refine (HI.out _).mono ?_
              rintro e w3 ⟨rfl, rfl⟩
              go_wp2_with fail
              go_round
              case rel => exact ⟨k + 1, by omega, by go_num, by rw [HT'.out], HX'.out⟩
              case measure => simp [intOf]; omega
            · have hj : ∀ w, (Op.stringOp .add ⟨(((lst s).take k).map dualC).toArray⟩ ⟨#[48]⟩).run Try.prog w = .ok (.string ⟨(((lst s).take (k + 1)).map dualC).toArray⟩) w := fun w => by
                have := HJ.out k hlt w
                rw [hc] at this
                exact this
              have q := num_49 hc
              generalize (⟨(((lst s).take k).map dualC).toArray⟩ : ByteArray) = T at *
              generalize hT : (⟨(((lst s).take (k + 1)).map dualC).toArray⟩ : ByteArray) = T' at *
              have HT' := Lib.hid hT
              clear hc h94 hT
              go_wp2_with fail
              refine (HI.out _).mono ?_
              rintro e w3 ⟨rfl, rfl⟩
              go_wp2_with fail
              go_round
              case rel => exact ⟨k + 1, by omega, by go_num, by rw [HT'.out], HX'.out⟩
              case measure => simp [intOf]; omega
          · have hdc := dualC_other hd
            have hj := HJ.out k hlt
            rw [hdc] at hj
            have hsl := HSL.out k hlt
            have t1 := no_byte (c := s[k]) 38 (by decide) (fun e => hd (.inl e))
            have t2 := no_byte (c := s[k]) 124 (by decide) (fun e => hd (.inr (.inl e)))
            have t3 := no_byte (c := s[k]) 48 (by decide) (fun e => hd (.inr (.inr (.inl e))))
            have t4 := no_byte (c := s[k]) 49 (by decide) (fun e => hd (.inr (.inr (.inr e))))
            have t5 := no_byte (c := s[k]) 94 (by decide) h94
            have t1' : ((s[k].toNat : Int) == 38) = false := t1
            have t2' : ((s[k].toNat : Int) == 124) = false := t2
            have t3' : ((s[k].toNat : Int) == 48) = false := t3
            have t4' : ((s[k].toNat : Int) == 49) = false := t4
            have t5' : ((s[k].toNat : Int) == 94) = false := t5
            generalize (⟨(((lst s).take k).map dualC).toArray⟩ : ByteArray) = T at *
            generalize hT : (⟨(((lst s).take (k + 1)).map dualC).toArray⟩ : ByteArray) = T' at *
            have HT' := Lib.hid hT
            clear hd h94 hT t1 t2 t3 t4 t5 hdc
            go_wp2_with fail
            refine (HI.out _).mono ?_
            rintro e w3 ⟨rfl, rfl⟩
            go_wp2_with fail
            go_round
            case rel => exact ⟨k + 1, by omega, by go_num, by rw [HT'.out], HX'.out⟩
            case measure => simp [intOf]; omega
      · obtain rfl : k = s.size := by omega
        have HB := Lib.hid (HXN.out HX.out)
        generalize (⟨(((lst s).take s.size).map dualC).toArray⟩ : ByteArray) = T at *
        go_wp2_with fail
        refine (HI.out _).mono ?_
        rintro e w3 ⟨rfl, rfl⟩
        go_wp2_with fail
        go_ret2
        exact ⟨by rw [HB.out]; rfl, rfl⟩


end Go.Proofs.Ytpniefagpinbdaa
