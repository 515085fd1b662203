/-
  Chapter 8: AskedOf and IsEvasive of the model.
-/
import Derived.Test.YtdhdkonokbkdoaaAdvJ
import Derived.Test.YtdhdkonokbkdoaaAdvM
namespace Go.Proofs.Ytdhdkonokbkdoaa
open Go.RowKit Plain
set_option linter.unusedVariables false

theorem letC_num : ∀ i : Fin 5, ((letC i).toNat : Int) - 97 = (i.val : Int) ∧ (letC i).toNat = 97 + i.val := by decide
theorem first_letter (i : Fin 5) (r : List UInt8) : (⟨(letC i :: r).toArray⟩ : ByteArray) ≠ ⟨#[48]⟩ ∧ (⟨(letC i :: r).toArray⟩ : ByteArray) ≠ ⟨#[49]⟩ := by
  have h : ∀ i : Fin 5, letC i ≠ 48 ∧ letC i ≠ 49 := by decide
  constructor
  · intro e
    have e1 : (letC i :: r).toArray = #[48] := congrArg ByteArray.data e
    have e2 : letC i :: r = [48] := by simpa using congrArg Array.toList e1
    exact (h i).1 (by simpa using (List.cons.inj e2).1)
  · intro e
    have e1 : (letC i :: r).toArray = #[49] := congrArg ByteArray.data e
    have e2 : letC i :: r = [49] := by simpa using congrArg Array.toList e1
    exact (h i).2 (by simpa using (List.cons.inj e2).1)

set_option maxRecDepth 100000 in
set_option maxHeartbeats 1000000 in
/-- AskedOf of the model. -/
theorem Ask.model (n a m v : Int) (w : World) :
    Calls Try.prog 22 #[.agg #[.int .i64 n, .int .i64 a], .int .i64 m, .int .i64 v] w fun e w' => e = .returned (.int .i64 (askT n a m v)) ∧ Below w.heap.size w w' := by
  have HK := Lib.hid (Fine.any n a m v)
  cases hc : knB n a m v with
  | false =>
    rw [askT_no1 hc]
    rw [hc] at HK
    clear hc
    go_enter Try.func22, Try.ntmps22
    go_wp2_with fail
    refine (HK.out _).mono ?_
    rintro e w1 ⟨rfl, hb1⟩
    go_wp2
    go_ret
    exact ⟨rfl, bB hb1 (by simp) (bA (Nat.le_refl _) (Below.refl _ _))⟩
  | true =>
    rw [hc] at HK
    obtain ⟨n, a, m, v, rfl, rfl, rfl, rfl, hn, ha, hm, hvm⟩ := knB_yes hc
    have HL := Lib.hid (fun w => Bt.any n a hn (table_word hn ha) _ m v w hm hvm rfl)
    by_cases hlt : cubV n a m v < 2
    · rw [askT_no2 hlt]
      rw [mbs_con hlt] at HL
      clear hc ha hm hvm hlt
      cases ht : a.testBit v
      all_goals
        rw [ht] at HL
        clear ht
      case' false => replace HL : Hid (∀ w : World, Calls Try.prog 49 #[.agg #[.int .i64 n, .int .i64 a], .int .i64 m, .int .i64 v] w fun e w' => e = .returned (.string ⟨#[48]⟩) ∧ Below w.heap.size w w') := HL
      case' true => replace HL : Hid (∀ w : World, Calls Try.prog 49 #[.agg #[.int .i64 n, .int .i64 a], .int .i64 m, .int .i64 v] w fun e w' => e = .returned (.string ⟨#[49]⟩) ∧ Below w.heap.size w w') := HL
      all_goals
        go_enter Try.func22, Try.ntmps22
        go_wp2_with fail
        refine (HK.out _).mono ?_
        rintro e w1 ⟨rfl, hb1⟩
        obtain ⟨c0, c1, f0, f1⟩ := cells2 (blockB hb1 (heap_alloc_new w _))
        have hz : w.heap.size < w1.heap.size := by have := hb1.size; simp at this; omega
        go_wp2_with fail
        refine (HL.out _).mono ?_
        rintro e w2 ⟨rfl, hb2⟩
        go_wp2
        go_ret
        exact ⟨rfl, bB hb2 (by omega) (bB hb1 (by simp) (bA (Nat.le_refl _) (Below.refl _ _)))⟩
    · rw [askT_yes hc hlt]
      obtain ⟨k, hk⟩ : ∃ k, cntN n m = k + 1 := by
        cases hz : cntN n m with
        | zero => exact absurd (cub_whole hn hm hvm hz) hlt
        | succ k => exact ⟨k, rfl⟩
      have hA := (ask_spec hn hm hvm hk hlt).1.1
      rw [hk, mbs_step hlt] at HL
      rw [hk, Nat.add_sub_cancel]
      generalize askN n a k m v = t at *
      have ht5 : t < 5 := by omega
      obtain ⟨S, hS⟩ : ∃ S : ByteArray, S = ⟨(txtD (.ask (finV t) (mbs n a k (m ||| 2 ^ t) v) (mbs n a k (m ||| 2 ^ t) (v ||| 2 ^ t)))).toArray⟩ := ⟨_, rfl⟩
      rw [← hS] at HL
      obtain ⟨r, hr⟩ : ∃ r : List UInt8, txtD (.ask (finV t) (mbs n a k (m ||| 2 ^ t) v) (mbs n a k (m ||| 2 ^ t) (v ||| 2 ^ t))) = letC (finV t) :: r := ⟨_, rfl⟩
      rw [hr] at hS
      have hz : 0 < S.size := by rw [hS]; simp [ByteArray.size]
      have hg : S[0].toNat = (letC (finV t)).toNat := by subst hS; rfl
      have hd : S.data.toList = letC (finV t) :: r := by rw [hS]
      have h0 : (S.toList == [48]) = false := by
        rw [ByteArray.toList_eq, hd, beq_eq_false_iff_ne]
        exact fun e => (first_letter (finV t) r).1 (by rw [e])
      have h1 : (S.toList == [49]) = false := by
        rw [ByteArray.toList_eq, hd, beq_eq_false_iff_ne]
        exact fun e => (first_letter (finV t) r).2 (by rw [e])
      have hl := (letC_num (finV t)).2
      rw [finV_val ht5] at hl
      rw [hl] at hg
      clear hl hd
      clear hc ha hm hvm hlt hk hA hr hS
      go_enter Try.func22, Try.ntmps22
      go_wp2_with fail
      refine (HK.out _).mono ?_
      rintro e w1 ⟨rfl, hb1⟩
      obtain ⟨c0, c1, f0, f1⟩ := cells2 (blockB hb1 (heap_alloc_new w _))
      have hzz : w.heap.size < w1.heap.size := by have := hb1.size; simp at this; omega
      go_wp2_with fail
      refine (HL.out _).mono ?_
      rintro e w2 ⟨rfl, hb2⟩
      go_wp2
      go_ret
      exact ⟨ret_int (by omega), bB hb2 (by omega) (bB hb1 (by simp) (bA (Nat.le_refl _) (Below.refl _ _)))⟩

/-- IsEvasive of the model. -/
theorem evaB_four {n a : Nat} (hn : n ≤ 4) (ha : a ≤ fullN n) : evaB n a = ((cst JD n a : Int) == (n : Int)) := by
  unfold Plain.evaB
  rw [isT_yes (by omega) ha, ldT_yes hn ha, Bool.true_and]

set_option maxRecDepth 100000 in
set_option maxHeartbeats 1000000 in
theorem Eva.model (n a : Int) (w : World) :
    Calls Try.prog 25 #[.agg #[.int .i64 n, .int .i64 a]] w fun e w' => e = .returned (.bool (evaB n a)) ∧ Below w.heap.size w w' := by
  cases ht : isT n a with
  | false =>
    have HE : Hid (evaB n a = false) := Lib.hid (by unfold Plain.evaB; rw [ht]; rfl)
    have HM := Lib.hid (Tab.modelV n a false ht)
    rw [HE.out]
    clear ht HE
    go_enter Try.func25, Try.ntmps25
    go_wp2_with fail
    first | (go_region_with ((go_at_call 51; refine (HM.out _).mono ?_; rintro e w1 ⟨rfl, hb⟩))) | (fail)
    all_goals
      go_wp2
      go_ret
      exact ⟨rfl, bB hb (by simp) (bD (bA (Nat.le_refl _) (Below.refl _ _)))⟩
  | true =>
    have HM := Lib.hid (Tab.modelV n a true ht)
    obtain ⟨n, a, rfl, rfl, hn, ha⟩ := isT_nat ht
    by_cases h4 : n ≤ 4
    · have HE := Lib.hid (evaB_four h4 ha)
      have HL : Hid (∀ w, Calls Try.prog 44 #[.agg #[.int .i64 n, .int .i64 a], .int .i64 0, .int .i64 0] w fun e w' => e = .returned (.int .i64 (cst JD n a)) ∧ Below w.heap.size w w') := Lib.hid fun w => by
        have := Lst.any n a h4 (table_word h4 ha) n 0 0 w (Nat.pow_pos (by decide)) (by simp) (spr_zero n (by omega)).1
        rw [mdl_whole JD_ok h4 ha JD_I (by decide)] at this
        exact this
      rw [HE.out]
      have hn4 : (n : Int) ≤ 4 := by omega
      generalize cst JD n a = z at *
      clear ht ha HE h4 hn
      go_enter Try.func25, Try.ntmps25
      go_wp2_with fail
      go_region_held3 (fun w' => w'.cell? ⟨w.heap.size, 0, none⟩ = some (.int .i64 (n : Int)) ∧ w'.cell? ⟨w.heap.size, 1, none⟩ = some (.int .i64 (a : Int))) ((first | (go_split_ands; (try dsimp only); (refine ⟨?_, ?_⟩ <;> (repeat (first | with_reducible assumption | ((with_reducible refine keepU ?_); (with_reducible assumption)) | (with_reducible refine keepD ?_) | ((with_reducible refine keepN ?_ ?_); (focus (simp; done)); (focus rfl)) | (with_reducible refine keepA ?_) | (with_reducible refine keepB hb3 ?_) | (with_reducible refine keepB hb4 ?_)))); done) | go_keep))
        (first
          | (with_reducible refine (HM.out _).mono ?_; rintro e w3 ⟨rfl, hb3⟩; obtain ⟨hc3, hf3⟩ := bcell hb3; have hs3 := hb3.size; try simp only [World.size_alloc, World.size_drew] at hs3)
          | (with_reducible refine (HL.out _).mono ?_; rintro e w4 ⟨rfl, hb4⟩; obtain ⟨hc4, hf4⟩ := bcell hb4; have hs4 := hb4.size; try simp only [World.size_alloc, World.size_drew] at hs4))
      all_goals
        go_wp2
        go_ret
        exact ⟨rfl, by repeat (first | (with_reducible exact Below.refl _ _) | (with_reducible refine bD ?_) | ((with_reducible refine bB hb4 ?_ ?_); (focus (first | omega | (simp; done) | (simp; omega)))) | ((with_reducible refine bB hb3 ?_ ?_); (focus (first | omega | (simp; done) | (simp; omega)))) | ((with_reducible refine bA ?_ ?_); (focus (first | omega | (simp; done) | (simp; omega)))))⟩
    · have HE : Hid (evaB n a = false) := Lib.hid (by unfold Plain.evaB; rw [ldT_no (fun h => h4 (by have := h.2; omega)), beq_eq_false_iff_ne.2 (by omega), Bool.and_false])
      have hgt : ((n : Int) ≤ 4) = False := eq_false (by omega)
      have hn4 : (4 : Int) < (n : Int) := by omega
      rw [HE.out]
      clear ht ha HE h4 hn hgt
      go_enter Try.func25, Try.ntmps25
      go_wp2_with fail
      first | (go_region_with ((go_at_call 51; refine (HM.out _).mono ?_; rintro e w1 ⟨rfl, hb⟩; obtain ⟨hc, hf⟩ := bcell hb))) | (fail)
      all_goals
        go_wp2
        go_ret
        exact ⟨rfl, bB hb (by simp) (bD (bA (Nat.le_refl _) (Below.refl _ _)))⟩

end Go.Proofs.Ytdhdkonokbkdoaa
