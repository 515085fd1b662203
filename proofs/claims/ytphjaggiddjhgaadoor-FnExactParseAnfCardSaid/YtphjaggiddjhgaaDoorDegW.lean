/-
  Chapter 11: strings.Split at "+"; ParseAnf of the program; what both answer.
-/
import Derived.Test.YtphjaggiddjhgaaDoorDegV
import Derived.Test.YtphjaggiddjhgaaDoorDegG
import Derived.Test.YtphjaggiddjhgaaDoorTrmH
import Derived.Test.YtphjaggiddjhgaaDoorBoL
import Derived.Shelf.Strings.SplitShaped
namespace Go.Proofs.YtphjaggiddjhgaaDoor
open Go.RowKit Plain Go.Shelf
set_option linter.unusedVariables false

/-- internal/bytealg.MaxLen holds some number. -/
def MaxL (w : World) : Prop := ∃ m : Int, w.cell? ⟨2, 0, none⟩ = some (.int .i64 m)
theorem MaxL.below {w w' : World} (h : MaxL w) (hb : Below w.heap.size w w') : MaxL w' := by
  obtain ⟨m, hm⟩ := h
  exact ⟨m, keepB hb hm⟩
theorem MaxL.of_shape {w : World} (h : w.ShapedOpen Tryd.prog) : MaxL w := Tryd.laysM146.s1_3 w h

/-- strings.Split at "+". -/
theorem Split.plus (s : ByteArray) (hs : (s.size : Int) ≤ 200) (w : World) (hM : MaxL w) :
    Calls Tryd.prog 27 #[.string s, .string ⟨#[43]⟩] w fun e w' => e = .returned (.slice (some ⟨w.heap.size, 0, none⟩) (Lib.split s.data.toList [43]).length (Lib.split s.data.toList [43]).length) ∧
      (∀ j (h : j < (Lib.split s.data.toList [43]).length), w'.cell? ⟨w.heap.size, j, none⟩ = some (.string ⟨((Lib.split s.data.toList [43])[j]).toArray⟩)) ∧ Below w.heap.size w w' := by
  obtain ⟨m, hm⟩ := hM
  have hc := Any.strings_Split { Tryd.laysM146 with } Tryd.laysM146.i9 s ⟨#[43]⟩ m w (by omega) hm (by decide)
  have hlen : (Lib.splitB ⟨#[43]⟩ 0 (Lib.countB s ⟨#[43]⟩) s).length = Lib.countB s ⟨#[43]⟩ + 1 := Lib.splitB_all ⟨#[43]⟩ (by decide) 0 _ s rfl
  have hdata : (Lib.splitB ⟨#[43]⟩ 0 (Lib.countB s ⟨#[43]⟩) s).map (·.data.toList) = Lib.split s.data.toList [43] := Lib.splitB_data ⟨#[43]⟩ 0 _ s
  generalize Lib.splitB ⟨#[43]⟩ 0 (Lib.countB s ⟨#[43]⟩) s = P at hc hlen hdata
  have hl2 : (Lib.split s.data.toList [43]).length = Lib.countB s ⟨#[43]⟩ + 1 := by rw [← hdata, List.length_map, hlen]
  refine hc.mono ?_
  rintro e w' ⟨rfl, rfl⟩
  refine ⟨by rw [hl2], fun j hj => ?_, (Below.refl _ _).alloc (Nat.le_refl _) _⟩
  refine keepN rfl ?_
  have hjP : j < P.length := by omega
  have e1 : (Lib.split s.data.toList [43])[j] = P[j].data.toList := by
    have : (Lib.split s.data.toList [43])[j]? = (P.map (·.data.toList))[j]? := by rw [hdata]
    rw [List.getElem?_eq_getElem hj, List.getElem?_map, List.getElem?_eq_getElem hjP] at this
    simpa using this
  rw [e1]
  simp [List.getElem?_eq_getElem hjP]

theorem Paf.I_no1 (n : Int) (hn : ¬ (0 ≤ n ∧ n ≤ 5)) (s : ByteArray) (w : World) :
    Calls Tryd.prog 14 #[.int .i64 n, .string s] w fun e w' => e = .returned (.tuple #[.agg #[.int .i64 0, .int .i64 0], .bool false]) ∧ Below w.heap.size w w' := by
  have H := Lib.hid (Tab.bitsB n false (inB_no hn))
  clear hn
  go_enter Tryd.func14, Tryd.ntmps14
  go_wp2_with fail
  refine (H.out _).mono ?_
  rintro e w1 ⟨rfl, rfl⟩
  go_wp2_with fail
  exact bodyPost_ret (v := .tuple #[.agg #[.int .i64 0, .int .i64 0], .bool false]) (by simp [results, Tryd.results14, go_sem]) rfl ⟨rfl, (Below.refl _ _).alloc (Nat.le_refl _) _⟩

theorem Paf.I_no2 (n : Nat) (hn : n ≤ 5) (s : ByteArray) (hs : 200 < (s.size : Int)) (w : World) :
    Calls Tryd.prog 14 #[.int .i64 n, .string s] w fun e w' => e = .returned (.tuple #[.agg #[.int .i64 0, .int .i64 0], .bool false]) ∧ Below w.heap.size w w' := by
  have H := Lib.hid (Tab.bitsB (n : Int) true (inB_yes (by omega)))
  go_enter Tryd.func14, Tryd.ntmps14
  go_wp2_with fail
  refine (H.out _).mono ?_
  rintro e w1 ⟨rfl, rfl⟩
  go_wp2_with fail
  exact bodyPost_ret (v := .tuple #[.agg #[.int .i64 0, .int .i64 0], .bool false]) (by simp [results, Tryd.results14, go_sem]) rfl ⟨rfl, (Below.refl _ _).alloc (Nat.le_refl _) _⟩

theorem Fm.readI (n A : Nat) (hn : n ≤ 5) (w : World) :
    Calls Tryd.prog 30 #[.agg #[.int .i64 n, .int .i64 (anW n A : Int)]] w fun e w' => e = .returned (.string ⟨(fmA n (anW n A)).toArray⟩) ∧ Below w.heap.size w w' := by
  have h1 := anW_le n A
  have h2 := fullN_le n hn
  have h := Fm.impl n (anW n A : Int) (by omega) w
  rwa [fmT_yes (isT_yes hn h1)] at h

set_option maxRecDepth 100000 in
set_option maxHeartbeats 4000000 in
theorem Paf.I_yes (n : Nat) (hn : n ≤ 5) (s : ByteArray) (hs : (s.size : Int) ≤ 200) (r : Int × Int × Bool) (hr : PafIs n s.data.toList (if s.data.toList = [48] then some 0 else foP (rdI n) (Lib.split s.data.toList [43]) 0) r) (w : World) (hM : MaxL w) :
    Calls Tryd.prog 14 #[.int .i64 n, .string s] w fun e w' => e = .returned (.tuple #[.agg #[.int .i64 r.1, .int .i64 r.2.1], .bool r.2.2]) ∧ Below w.heap.size w w' := by
  have H := Lib.hid (Tab.bitsB (n : Int) true (inB_yes (by omega)))
  have HN := Lib.hid hn
  have hn5 : (n : Int) ≤ 5 := by omega
  have HM := Lib.hid hM
  generalize hO : (if s.data.toList = [48] then some 0 else foP (rdI n) (Lib.split s.data.toList [43]) 0) = O at hr
  have HR := Lib.hid hr
  have HO := Lib.hid hO
  have HWB : Hid (∀ A : Nat, A < 2 ^ 2 ^ n → isT n A = true ∧ (A : Int) ≤ 4294967295) := Lib.hid (fun _ h => isT_lt hn h)
  have HAI : Hid (∀ A : Nat, A < 2 ^ 2 ^ n → ∀ w, Calls Tryd.prog 29 #[.agg #[.int .i64 n, .int .i64 A]] w fun e w' => e = .returned (.tuple #[.agg #[.int .i64 n, .int .i64 (anW n A : Int)], .bool true]) ∧ Below w.heap.size w w') := Lib.hid (fun A hA w => Anf.impl_yes n A hn (isT_lt hn hA).2 (isT_lt hn hA).1 w)
  have HFR : Hid (∀ (A : Nat) w, Calls Tryd.prog 30 #[.agg #[.int .i64 n, .int .i64 (anW n A : Int)]] w fun e w' => e = .returned (.string ⟨(fmA n (anW n A)).toArray⟩) ∧ Below w.heap.size w w') := Lib.hid (fun A w => Fm.readI n A hn w)
  have HTB : Hid (∀ A : Nat, (A : Int) ≤ 4294967295 → ∀ w, Calls Tryd.prog 17 #[.int .u64 A, .int .i64 n] w fun e w' => e = .returned (.agg #[.int .i64 n, .int .i64 A]) ∧ Below w.heap.size w w') := Lib.hid (fun A hA w => Tab.table n A (by omega) w)
  have HSP := Lib.hid (Split.plus s hs)
  have hsl : ((Lib.split s.data.toList [43]).length : Int) ≤ 201 := by
    have h1 := Lib.splitB_length_le ⟨#[43]⟩ 0 (Lib.countB s ⟨#[43]⟩) s
    have h2 : (Lib.splitB ⟨#[43]⟩ 0 (Lib.countB s ⟨#[43]⟩) s).map (·.data.toList) = Lib.split s.data.toList [43] := Lib.splitB_data ⟨#[43]⟩ 0 _ s
    have h3 := Lib.countB_le ⟨#[43]⟩ (by decide) s.size s (Nat.le_refl _)
    rw [← h2, List.length_map]
    omega
  clear hr hO hn hM
  go_enter Tryd.func14, Tryd.ntmps14
  go_wp2_with fail
  refine (H.out _).mono ?_
  rintro e w1 ⟨rfl, rfl⟩
  obtain ⟨W1, hW1⟩ : ∃ W1, w.alloc (.cells #[.int .i64 0, .int .i64 0] 23) = W1 := ⟨_, rfl⟩
  have hs1 : W1.heap.size = w.heap.size + 1 := by rw [← hW1]; simp
  have X1 : W1.heap[w.heap.size]? = some (.cells #[.int .i64 0, .int .i64 0] 23 (0, 0)) := by rw [← hW1]; exact heap_alloc_new w _
  have HBW : Hid (Below w.heap.size w W1) := Lib.hid (by rw [← hW1]; exact (Below.refl _ _).alloc (Nat.le_refl _) _)
  have HX1 := Lib.hid X1
  have HS1 := Lib.hid hs1
  have HM1 := Lib.hid (HM.out.below HBW.out)
  rw [hW1]
  clear hW1 X1 hs1
  by_cases h48 : s.data.toList = [48]
  · have z1 : (s.toList == [48]) = true := by rw [ByteArray.toList_eq, h48]; rfl
    have z2 : (s.toList != [48]) = false := by rw [ByteArray.toList_eq, h48]; rfl
    have HOA : Hid (O = some 0) := Lib.hid (by rw [← HO.out, if_pos h48])
    obtain ⟨A, hA0⟩ : ∃ A : Nat, A = 0 := ⟨0, rfl⟩
    rw [← hA0] at HOA
    have hAz : ((A : Nat) : Int) = 0 := by omega
    have hA : A < 2 ^ 2 ^ n := by rw [hA0]; exact Nat.two_pow_pos _
    have hAB := (HWB.out A hA).2
    have HA := Lib.hid hA
    have HBEL := Lib.hid (Below.refl W1.heap.size W1)
    have HX := HX1
    have hsz : W1.heap.size ≤ W1.heap.size := Nat.le_refl _
    have hsz1 : w.heap.size ≤ W1.heap.size := by rw [HS1.out]; exact Nat.le_succ _
    have hq0 : w.heap.size < W1.heap.size := lt_of_block HX1.out
    have HTB0 : Hid (∀ w, Calls Tryd.prog 17 #[.int .u64 0, .int .i64 n] w fun e w' => e = .returned (.agg #[.int .i64 n, .int .i64 A]) ∧ Below w.heap.size w w') := Lib.hid (fun w => by
      have h := HTB.out A hAB w
      rw [hAz] at h ⊢
      exact h)
    clear h48 hA hA0 hAz
    have HAI2 := Lib.hid (HAI.out A HA.out)
    have HFR2 := Lib.hid (HFR.out A)
    have HG : Hid (fmA n (anW n A) = s.data.toList → r = ((n : Int), (anW n A : Int), true)) := Lib.hid (fun h => HR.out.good A HOA.out h)
    have HB : Hid (fmA n (anW n A) ≠ s.data.toList → r = (0, 0, false)) := Lib.hid (fun h => HR.out.bad A HOA.out h)
    have HTX := Lib.hid (text_ne s (fmA n (anW n A)))
    generalize anW n A = f at *
    obtain ⟨t, ht⟩ : ∃ t : ByteArray, (⟨(fmA n f).toArray⟩ : ByteArray) = t := ⟨_, rfl⟩
    rw [ht] at HFR2 HTX
    clear ht
    by_cases hfm : fmA n f = s.data.toList
    · obtain ⟨x1, x2⟩ := HTX.out.1 hfm
      have HG2 := Lib.hid (HG.out hfm)
      clear hfm HTX HG HB
      go_wp2_with fail
      ((with_reducible refine (HTB0.out _).mono ?_))
      rintro e w3 ⟨rfl, hb3⟩
      have HB3 := Lib.hid (bB hb3 hsz HBEL.out)
      have X3 := blockC hb3 HX.out
      have HX3 := Lib.hid X3
      have hz3 := hb3.size
      clear hb3 X3
      go_wp2_with fail
      ((with_reducible refine (HAI2.out _).mono ?_))
      rintro e w4 ⟨rfl, hb4⟩
      have HB4 := Lib.hid (bB hb4 (by omega) HB3.out)
      have X4 := blockC hb4 HX3.out
      have HX4 := Lib.hid X4
      have hz4 := hb4.size
      have hq4 : w.heap.size < w4.heap.size := lt_of_block X4
      clear hb4 X4
      go_wp2_with fail
      ((with_reducible refine (HFR2.out _).mono ?_))
      rintro e w5 ⟨rfl, hb5⟩
      have X5 := blockC hb5 ((heap_alloc_old w4 _ hq4).trans HX4.out)
      obtain ⟨q0, q1, g0, g1⟩ := cells2 X5
      have j0 : w5.cell? ⟨w4.heap.size, 0, none⟩ = some (.int .i64 n) := keepB hb5 (keepN rfl rfl)
      have j1 : w5.cell? ⟨w4.heap.size, 1, none⟩ = some (.int .i64 f) := keepB hb5 (keepN rfl rfl)
      have hq5 : w.heap.size < w5.heap.size := lt_of_block X5
      have HB5 := Lib.hid (HBW.out.trans ((bB hb5 (by simp; omega) (bA (by omega) HB4.out)).mono (by omega)))
      clear hb5 X5
      go_wp2_with fail
      exact bodyPost_ret (v := .tuple #[.agg #[.int .i64 n, .int .i64 f], .bool true]) (by simp [results, Tryd.results14, go_sem, q0, q1]) rfl ⟨by rw [HG2.out], by repeat (first | exact HB5.out | refine bS (by simp) ?_)⟩
    · obtain ⟨x1, x2⟩ := HTX.out.2 hfm
      have HB2 := Lib.hid (HB.out hfm)
      clear hfm HTX HG HB
      go_wp2_with fail
      ((with_reducible refine (HTB0.out _).mono ?_))
      rintro e w3 ⟨rfl, hb3⟩
      have HB3 := Lib.hid (bB hb3 hsz HBEL.out)
      have X3 := blockC hb3 HX.out
      have HX3 := Lib.hid X3
      have hz3 := hb3.size
      clear hb3 X3
      go_wp2_with fail
      ((with_reducible refine (HAI2.out _).mono ?_))
      rintro e w4 ⟨rfl, hb4⟩
      have HB4 := Lib.hid (bB hb4 (by omega) HB3.out)
      have X4 := blockC hb4 HX3.out
      have HX4 := Lib.hid X4
      have hz4 := hb4.size
      have hq4 : w.heap.size < w4.heap.size := lt_of_block X4
      clear hb4 X4
      go_wp2_with fail
      ((with_reducible refine (HFR2.out _).mono ?_))
      rintro e w5 ⟨rfl, hb5⟩
      have X5 := blockC hb5 ((heap_alloc_old w4 _ hq4).trans HX4.out)
      obtain ⟨q0, q1, g0, g1⟩ := cells2 X5
      have hq5 : w.heap.size < w5.heap.size := lt_of_block X5
      have HB5 := Lib.hid (HBW.out.trans ((bB hb5 (by simp; omega) (bA (by omega) HB4.out)).mono (by omega)))
      clear hb5 X5
      go_wp2_with fail
      exact bodyPost_ret (v := .tuple #[.agg #[.int .i64 0, .int .i64 0], .bool false]) (by simp [results, Tryd.results14, go_sem, q0, q1]) rfl ⟨by rw [HB2.out], by repeat (first | exact HB5.out | refine bS (by simp) ?_)⟩
  · obtain ⟨n1, n2⟩ := str_not s h48
    have HOF : Hid (O = foP (rdI n) (Lib.split s.data.toList [43]) 0) := Lib.hid (by rw [← HO.out, if_neg h48])
    generalize Lib.split s.data.toList [43] = L at *
    clear h48
    go_wp2_with fail
    refine (HSP.out _ HM1.out).mono ?_
    rintro e w2 ⟨rfl, hcl, hb2⟩
    have HCL := Lib.hid hcl
    have HB2 := Lib.hid hb2
    have hz2 := hb2.size
    clear hcl hb2
    go_wp2_with fail
    go_loopw [6, 8, 9, 10, 27] (fun v _ _ _ i wr => ∃ (k A : Nat), i = .int .i64 (k : Int) ∧ v = .int .u64 (A : Int) ∧ A < 2 ^ 2 ^ n ∧ k ≤ L.length ∧ Hid (foP (rdI n) (L.take k) 0 = some A) ∧ Below w2.heap.size w2 wr) (fun _ _ _ _ i _ => 202 - (intOf i).toNat)
    case atStart => exact ⟨0, 0, rfl, rfl, Nat.two_pow_pos _, by omega, Lib.hid rfl, Below.refl _ _⟩
    case round =>
      obtain ⟨k, A, rfl, rfl, hA, hk, HFO, hbel2⟩ := hrel
      have hAB := (HWB.out A hA).2
      have HA := Lib.hid hA
      have hbel : Below W1.heap.size W1 wr := HB2.out.trans (hbel2.mono hz2)
      have X := blockC hbel HX1.out
      have HX := Lib.hid X
      have HBEL2 := Lib.hid hbel2
      have HBEL := Lib.hid hbel
      have hsz := hbel.size
      have hsz1 : w.heap.size ≤ W1.heap.size := by rw [HS1.out]; exact Nat.le_succ _
      have hsz2 := hbel2.size
      have hq0 : w.heap.size < wr.heap.size := lt_of_block X
      clear X hbel hbel2 hA
      by_cases hkl : k < L.length
      · have hkz : (k : Int) < (L.length : Int) := by omega
        have hcell : wr.cell? ⟨W1.heap.size, k, none⟩ = some (.string ⟨(L[k]).toArray⟩) := keepB HBEL2.out (HCL.out k hkl)
        have HP := Ptm.I n ⟨(L[k]).toArray⟩
        have HTK := Lib.hid (foP_take hkl HFO.out)
        have HST := Lib.hid (foP_stop hkl HFO.out)
        have HRD : Hid (rdI n L[k] = (parT n L[k]).map fun x => x.1) := Lib.hid rfl
        rw [show (⟨(L[k]).toArray⟩ : ByteArray).data.toList = L[k] from rfl] at HP
        generalize L[k] = p at *
        cases hpt : parT n p with
        | none =>
          have HBAD : Hid (r = (0, 0, false)) := Lib.hid (HR.out.none (by rw [HOF.out]; exact HST.out (by rw [HRD.out, hpt]; rfl)))
          rw [hpt] at HP
          have e0 : parO none = .tuple #[.agg #[.int .i64 0, .int .i64 0], .bool false] := rfl
          rw [e0] at HP
          have HP2 := Lib.hid HP
          clear e0 HP hpt
          go_wp2_with fail
          refine (HP2.out _).mono ?_
          rintro e w3 ⟨rfl, hb3⟩
          have X3 := blockC hb3 HX.out
          obtain ⟨q0, q1, g0, g1⟩ := cells2 X3
          have hq3 : w.heap.size < w3.heap.size := lt_of_block X3
          have HB3 := Lib.hid (HBW.out.trans ((bB hb3 hsz HBEL.out).mono (by omega)))
          clear hb3 X3
          go_wp2_with fail
          exact bodyPost_ret (v := .tuple #[.agg #[.int .i64 0, .int .i64 0], .bool false]) (by simp [results, Tryd.results14, go_sem, q0, q1, hq3]) rfl ⟨by rw [HBAD.out], by repeat (first | exact HB3.out | refine bS (by simp) ?_ | refine bA (by simp; omega) ?_)⟩
        | some t =>
          obtain ⟨t1, t2⟩ := t
          rw [hpt] at HP
          have e0 : parO (some (t1, t2)) = .tuple #[.agg #[.int .i64 (t1 : Int), .int .i64 (t2 : Int)], .bool true] := rfl
          rw [e0] at HP
          have HP2 := Lib.hid HP
          have hrd : rdI n p = some t1 := by rw [HRD.out, hpt]; rfl
          have hml := (rdI_lt hrd).2
          have hm32 : t1 < 32 := Nat.lt_of_lt_of_le hml (two_pow_le n HN.out)
          have HA2 := Lib.hid (or_lt HA.out hml)
          have HWI := Lib.hid (Tab.withBit A t1 hAB (by omega))
          have HFO2 : Hid (foP (rdI n) (L.take (k + 1)) 0 = some (A ||| 2 ^ t1)) := Lib.hid (by rw [HTK.out, hrd]; rfl)
          clear e0 HP hpt hrd hml
          go_wp2_with fail
          refine (HP2.out _).mono ?_
          rintro e w3 ⟨rfl, hb3⟩
          have HB3 := Lib.hid (bB hb3 hsz2 HBEL2.out)
          have hz3 := hb3.size
          clear hb3
          go_wp2_with fail
          refine (HWI.out _).mono ?_
          rintro e w4 ⟨rfl, rfl⟩
          go_wp2_with fail
          go_roundw
          case rel => exact ⟨k + 1, A ||| 2 ^ t1, by go_num, rfl, HA2.out, by omega, HFO2, bA (by omega) HB3.out⟩
          case measure => simp [intOf] <;> omega
      · obtain rfl : k = L.length := by omega
        have HOA : Hid (O = some A) := Lib.hid (by have := HFO.out; rw [List.take_length] at this; rw [HOF.out]; exact this)
        have HTB0 := Lib.hid (HTB.out A hAB)
        clear hkl hk
        have HAI2 := Lib.hid (HAI.out A HA.out)
        have HFR2 := Lib.hid (HFR.out A)
        have HG : Hid (fmA n (anW n A) = s.data.toList → r = ((n : Int), (anW n A : Int), true)) := Lib.hid (fun h => HR.out.good A HOA.out h)
        have HB : Hid (fmA n (anW n A) ≠ s.data.toList → r = (0, 0, false)) := Lib.hid (fun h => HR.out.bad A HOA.out h)
        have HTX := Lib.hid (text_ne s (fmA n (anW n A)))
        generalize anW n A = f at *
        obtain ⟨t, ht⟩ : ∃ t : ByteArray, (⟨(fmA n f).toArray⟩ : ByteArray) = t := ⟨_, rfl⟩
        rw [ht] at HFR2 HTX
        clear ht
        by_cases hfm : fmA n f = s.data.toList
        · obtain ⟨x1, x2⟩ := HTX.out.1 hfm
          have HG2 := Lib.hid (HG.out hfm)
          clear hfm HTX HG HB
          go_wp2_with fail
          ((with_reducible refine (HTB0.out _).mono ?_))
          rintro e w3 ⟨rfl, hb3⟩
          have HB3 := Lib.hid (bB hb3 hsz HBEL.out)
          have X3 := blockC hb3 HX.out
          have HX3 := Lib.hid X3
          have hz3 := hb3.size
          clear hb3 X3
          go_wp2_with fail
          ((with_reducible refine (HAI2.out _).mono ?_))
          rintro e w4 ⟨rfl, hb4⟩
          have HB4 := Lib.hid (bB hb4 (by omega) HB3.out)
          have X4 := blockC hb4 HX3.out
          have HX4 := Lib.hid X4
          have hz4 := hb4.size
          have hq4 : w.heap.size < w4.heap.size := lt_of_block X4
          clear hb4 X4
          go_wp2_with fail
          ((with_reducible refine (HFR2.out _).mono ?_))
          rintro e w5 ⟨rfl, hb5⟩
          have X5 := blockC hb5 ((heap_alloc_old w4 _ hq4).trans HX4.out)
          obtain ⟨q0, q1, g0, g1⟩ := cells2 X5
          have j0 : w5.cell? ⟨w4.heap.size, 0, none⟩ = some (.int .i64 n) := keepB hb5 (keepN rfl rfl)
          have j1 : w5.cell? ⟨w4.heap.size, 1, none⟩ = some (.int .i64 f) := keepB hb5 (keepN rfl rfl)
          have hq5 : w.heap.size < w5.heap.size := lt_of_block X5
          have HB5 := Lib.hid (HBW.out.trans ((bB hb5 (by simp; omega) (bA (by omega) HB4.out)).mono (by omega)))
          clear hb5 X5
          go_wp2_with fail
          exact bodyPost_ret (v := .tuple #[.agg #[.int .i64 n, .int .i64 f], .bool true]) (by simp [results, Tryd.results14, go_sem, q0, q1]) rfl ⟨by rw [HG2.out], by repeat (first | exact HB5.out | refine bS (by simp) ?_)⟩
        · obtain ⟨x1, x2⟩ := HTX.out.2 hfm
          have HB2 := Lib.hid (HB.out hfm)
          clear hfm HTX HG HB
          go_wp2_with fail
          ((with_reducible refine (HTB0.out _).mono ?_))
          rintro e w3 ⟨rfl, hb3⟩
          have HB3 := Lib.hid (bB hb3 hsz HBEL.out)
          have X3 := blockC hb3 HX.out
          have HX3 := Lib.hid X3
          have hz3 := hb3.size
          clear hb3 X3
          go_wp2_with fail
          ((with_reducible refine (HAI2.out _).mono ?_))
          rintro e w4 ⟨rfl, hb4⟩
          have HB4 := Lib.hid (bB hb4 (by omega) HB3.out)
          have X4 := blockC hb4 HX3.out
          have HX4 := Lib.hid X4
          have hz4 := hb4.size
          have hq4 : w.heap.size < w4.heap.size := lt_of_block X4
          clear hb4 X4
          go_wp2_with fail
          ((with_reducible refine (HFR2.out _).mono ?_))
          rintro e w5 ⟨rfl, hb5⟩
          have X5 := blockC hb5 ((heap_alloc_old w4 _ hq4).trans HX4.out)
          obtain ⟨q0, q1, g0, g1⟩ := cells2 X5
          have hq5 : w.heap.size < w5.heap.size := lt_of_block X5
          have HB5 := Lib.hid (HBW.out.trans ((bB hb5 (by simp; omega) (bA (by omega) HB4.out)).mono (by omega)))
          clear hb5 X5
          go_wp2_with fail
          exact bodyPost_ret (v := .tuple #[.agg #[.int .i64 0, .int .i64 0], .bool false]) (by simp [results, Tryd.results14, go_sem, q0, q1]) rfl ⟨by rw [HB2.out], by repeat (first | exact HB5.out | refine bS (by simp) ?_)⟩

/-- ParseAnf: what both answer, at every int and every string that the law asks of. -/
theorem Paf.M (n : Int) (s : ByteArray) (w : World) :
    Calls Tryd.prog 13 #[.int .i64 n, .string s] w fun e w' => e = .returned (.tuple #[.agg #[.int .i64 (pafT n s.data.toList).1, .int .i64 (pafT n s.data.toList).2.1], .bool (pafT n s.data.toList).2.2]) ∧ Below w.heap.size w w' := by
  have hl : s.data.toList.length = s.size := by simp
  by_cases hn : 0 ≤ n ∧ n ≤ 5
  · obtain ⟨n, rfl⟩ := Int.eq_ofNat_of_zero_le hn.1
    by_cases hs : (s.size : Int) ≤ 200
    · exact Paf.M_yes n (by omega) s hs _ (PafIs.of (by omega) (by omega) (parM_is (by omega) _).symm) w
    · rw [pafT_no (by omega)]
      exact Paf.M_no2 n (by omega) s (by omega) w
  · rw [pafT_no fun h => hn h.1]
    exact Paf.M_no1 n hn s w
theorem Paf.I (n : Int) (s : ByteArray) (w : World) (hM : MaxL w) :
    Calls Tryd.prog 14 #[.int .i64 n, .string s] w fun e w' => e = .returned (.tuple #[.agg #[.int .i64 (pafT n s.data.toList).1, .int .i64 (pafT n s.data.toList).2.1], .bool (pafT n s.data.toList).2.2]) ∧ Below w.heap.size w w' := by
  have hl : s.data.toList.length = s.size := by simp
  by_cases hn : 0 ≤ n ∧ n ≤ 5
  · obtain ⟨n, rfl⟩ := Int.eq_ofNat_of_zero_le hn.1
    by_cases hs : (s.size : Int) ≤ 200
    · exact Paf.I_yes n (by omega) s hs _ (PafIs.of (by omega) (by omega) rfl) w hM
    · rw [pafT_no (by omega)]
      exact Paf.I_no2 n (by omega) s (by omega) w
  · rw [pafT_no fun h => hn h.1]
    exact Paf.I_no1 n hn s w

end Go.Proofs.YtphjaggiddjhgaaDoor
