/-
  Chapter 7: the best tree of the model (l7Best, BestTree).
-/
import Derived.Test.YtdhdkonokbkdoaaGreatDoorLdN
import Derived.Test.YtdhdkonokbkdoaaGreatDoorPlainI
import Derived.Test.YtdhdkonokbkdoaaGreatDoorBase
import Derived.Laws.DeepStrings4
namespace Go.Proofs.YtdhdkonokbkdoaaGreatDoor
open Go.RowKit Plain
set_option linter.unusedVariables false

theorem sliceD (k : Nat) (h : k < 5) (w : World) :
    (Instr.slice 9 (.string ⟨#[97, 98, 99, 100, 101]⟩) (some (.int .i64 (k : Int))) (some (.int .i64 ((k : Int) + 1))) none).run Tryz.prog w = .ok (.string ⟨#[letC (finV k)]⟩) w := by
  have hs : ((⟨#[97, 98, 99, 100, 101]⟩ : ByteArray).size : Int) = 5 := rfl
  rw [run_slice_string_if (h := Tryz.underlying9), if_pos (by omega), if_pos (by omega)]
  rcases cases5 k (by omega) with rfl | rfl | rfl | rfl | rfl | rfl
  all_goals first | rfl | omega

set_option maxRecDepth 100000 in
theorem Bt.con (n a m v : Nat) (k : Nat) (hlt : cubV n a m v < 2) (HC : ∀ w, Calls Tryz.prog 61 #[.agg #[.int .i64 n, .int .i64 a], .int .i64 m, .int .i64 v] w fun e w' => e = .returned (.int .i64 (cubV n a m v)) ∧ Below w.heap.size w w') (w : World) :
    Calls Tryz.prog 32 #[.agg #[.int .i64 n, .int .i64 a], .int .i64 m, .int .i64 v] w fun e w' => e = .returned (.string ⟨(txtD (mbs n a k m v)).toArray⟩) ∧ Below w.heap.size w w' := by
  rw [mbs_con hlt]
  have hx : cubV n a m v = (bitN a v : Int) := by
    have := cub_lt2 (n := n) (a := a) (m := m) (v := v)
    rw [decide_eq_true hlt] at this
    cases h : cubX a m v (2 ^ n) with
    | false => exact cubV_same h
    | true => rw [h] at this; cases this
  rw [hx, bitN_test] at HC
  clear hx hlt
  cases hb : a.testBit v
  all_goals rw [hb] at HC
  case' false => replace HC : ∀ w, Calls Tryz.prog 61 #[.agg #[.int .i64 n, .int .i64 a], .int .i64 m, .int .i64 v] w fun e w' => e = .returned (.int .i64 0) ∧ Below w.heap.size w w' := HC
  case' true => replace HC : ∀ w, Calls Tryz.prog 61 #[.agg #[.int .i64 n, .int .i64 a], .int .i64 m, .int .i64 v] w fun e w' => e = .returned (.int .i64 1) ∧ Below w.heap.size w w' := HC
  all_goals
    have HH := Lib.hid HC
    clear HC hb
    go_enter Tryz.func32, Tryz.ntmps32
    go_wp2_with fail
    refine (HH.out _).mono ?_
    rintro e w1 ⟨rfl, hb1⟩
    go_wp2_with fail
    go_ret
    exact ⟨rfl, bB hb1 (by simp) (bA (Nat.le_refl _) (Below.refl _ _))⟩

attribute [local go_sem] undef
set_option maxRecDepth 100000 in
set_option maxHeartbeats 8000000 in
/-- l7Best. -/
theorem Bt.any (n a : Nat) (hn : n ≤ 4) (ha : (a : Int) ≤ 4294967295) (k : Nat) : ∀ (m v : Nat) (w : World), m < 2 ^ n → v &&& m = v → cntN n m = k →
    Calls Tryz.prog 32 #[.agg #[.int .i64 n, .int .i64 a], .int .i64 m, .int .i64 v] w fun e w' => e = .returned (.string ⟨(txtD (mbs n a k m v)).toArray⟩) ∧ Below w.heap.size w w' := by
  induction k with
  | zero =>
    intro m v w hm hv hc
    exact Bt.con n a m v 0 (cub_whole (a := a) hn hm hv hc) (fun w => Tab.cubM_loop n a m v (by omega) ha (by rw [up2]; omega) hv w) w
  | succ k ih =>
    intro m v w hm hv hc
    by_cases hlt : cubV n a m v < 2
    · exact Bt.con n a m v (k + 1) hlt (fun w => Tab.cubM_loop n a m v (by omega) ha (by rw [up2]; omega) hv w) w
    · have HC := Lib.hid (Tab.cubM_loop n a m v (by omega) ha (by rw [up2]; omega) hv)
      have t2 : decide (cubV n a m v < 2) = false := decide_eq_false hlt
      have hk4 : k + 1 ≤ 4 := by have := cnt_le n m; omega
      have h32 : m < 32 := by have := Nat.pow_le_pow_right (n := 2) (by decide) hn; omega
      have hv32 : v < 32 := Nat.lt_of_le_of_lt (by rw [← hv]; exact Nat.and_le_right) h32
      have hn4 := hn
      have HPL := Lib.hid (fun i => place_more (i := i) hn hm hv hc)
      have HLD := Lib.hid (fun m' v' w => Lst.any n a hn ha k m' v' w)
      have HLM := Lib.hid (fun w => Lst.any n a hn ha (k + 1) m v w hm hv hc)
      have HIH := Lib.hid ih
      have HLE : Hid (∀ {m v : Nat}, m < 2 ^ n → v &&& m = v → cntN n m = k → mdl JD 10 n a k m v ≤ 4) := Lib.hid fun h1 h2 h3 => Nat.le_trans (mdl_le JD_ok hn JD_I (by decide) h1 h2 h3) (by omega)
      obtain ⟨⟨s1, s2, s3⟩, s4⟩ := ask_spec hn hm hv hc hlt
      have HR := Lib.hid (mbs_step (k := k) hlt)
      rw [HR.out]
      have hp := HPL.out _ s1 s2
      have hl0 := bst_len k (subW n a (m ||| 2 ^ askN n a k m v) v) (frN n (m ||| 2 ^ askN n a k m v))
      have hl1 := bst_len k (subW n a (m ||| 2 ^ askN n a k m v) (v ||| 2 ^ askN n a k m v)) (frN n (m ||| 2 ^ askN n a k m v))
      rw [← mbs_bst hn k _ _ hp.1 hp.2.2.1 hp.2.1] at hl0
      rw [← mbs_bst hn k _ _ hp.1 hp.2.2.2 hp.2.1] at hl1
      have hpw : 2 ^ (k + 1) ≤ 2 ^ 4 := Nat.pow_le_pow_right (n := 2) (by decide) hk4
      have HL0 : Hid ((txtD (mbs n a k (m ||| 2 ^ askN n a k m v) v)).length ≤ 16 ∧ (txtD (mbs n a k (m ||| 2 ^ askN n a k m v) (v ||| 2 ^ askN n a k m v))).length ≤ 16) := Lib.hid (by omega)
      clear hlt hm hv hc ih HR hp hl0 hl1 hpw
      generalize askN n a k m v = j at *
      have HS3 := Lib.hid s3
      have HS4 := Lib.hid s4
      have HS2 := Lib.hid s2
      generalize mdl JD 10 n a (k + 1) m v = Q at *
      generalize cubV n a m v = c at *
      clear s2 s3 s4
      go_enter Tryz.func32, Tryz.ntmps32
      go_wp2_with fail
      refine (HC.out _).mono ?_
      rintro e w1 ⟨rfl, hb1⟩
      have hx0 : w1.heap[w.heap.size]? = some (.cells #[.int .i64 (n : Int), .int .i64 (a : Int)] 25 (0, 0)) := blockB hb1 (heap_alloc_new w _)
      obtain ⟨c0, c1, f0, f1⟩ := cells2 hx0
      have hs1 : w.heap.size < w1.heap.size := lt_of_block hx0
      have HX0 := Lib.hid hx0
      have HB0 : Hid (Below w.heap.size w w1) := Lib.hid (bB hb1 (by simp) (bA (Nat.le_refl _) (Below.refl _ _)))
      clear hb1 hx0
      go_wp2_with fail
      refine (HLM.out _).mono ?_
      rintro e w2 ⟨rfl, hb2⟩
      have HX2 := Lib.hid (blockB hb2 HX0.out)
      have HB2 := Lib.hid (bB hb2 (by omega) HB0.out)
      clear hb2 c0 c1 f0 f1
      go_wp2_with fail
      go_loopw [9] (fun x wr => ∃ i : Nat, x = .int .i64 (i : Int) ∧ i ≤ j ∧ wr.heap[w.heap.size]? = some (.cells #[.int .i64 (n : Int), .int .i64 (a : Int)] 25 (0, 0)) ∧ Below w.heap.size w wr) (fun x _ => 10 - (intOf x).toNat)
      case atStart => exact ⟨0, rfl, Nat.zero_le _, HX2.out, HB2.out⟩
      case round =>
        obtain ⟨i, rfl, hij, hx, hbel⟩ := hrel
        have HX := Lib.hid hx
        have HB := Lib.hid hbel
        have hszr : w.heap.size < wr.heap.size := lt_of_block hx
        obtain ⟨c0, c1, f0, f1⟩ := cells2 hx
        clear hx hbel HX0 HB0 HX2 HB2
        have hi5 : i < 5 := by omega
        have hin : (i : Int) < (n : Int) := by omega
        by_cases hlast : i = j
        · subst hlast
          have hb := HS2.out
          obtain ⟨q, ⟨hq1, hq2⟩, hq0⟩ := andw_q h32 hi5 hb
          obtain ⟨p1, p2, p3, p4⟩ := HPL.out i (by omega) hb
          have HA := Lib.hid (fun w => HLD.out _ _ w p1 p3 p2)
          have HD := Lib.hid (fun w => HLD.out _ _ w p1 p4 p2)
          have HTA := Lib.hid (fun w => HIH.out _ _ w p1 p3 p2)
          have HTD := Lib.hid (fun w => HIH.out _ _ w p1 p4 p2)
          have b1 : (mdl JD 10 n a k (m ||| 2 ^ i) v : Int) ≤ 4 := by have := HLE.out p1 p3 p2; omega
          have b2 : (mdl JD 10 n a k (m ||| 2 ^ i) (v ||| 2 ^ i) : Int) ≤ 4 := by have := HLE.out p1 p4 p2; omega
          have ho1 := orw_i64 m h32 i hi5
          have ho2 := orw_i64' m h32 i hi5
          have ho3 := orw_i64 v hv32 i hi5
          have ho4 := orw_i64' v hv32 i hi5
          have hsl := sliceD i hi5
          have hw1 : IntKind.i64.wrap ((i : Int) + 1) = (i : Int) + 1 := IntWalk.i64_in _ (by omega)
          have HJ1 : ∀ w, (Op.stringOp .add ⟨#[letC (finV i)]⟩ ⟨(txtD (mbs n a k (m ||| 2 ^ i) v)).toArray⟩).run Tryz.prog w = .ok (.string ⟨(letC (finV i) :: txtD (mbs n a k (m ||| 2 ^ i) v)).toArray⟩) w := fun w => join_text [letC (finV i)] _ (by have := HL0.out.1; simp; omega) w
          have HJ2 : ∀ w, (Op.stringOp .add ⟨(letC (finV i) :: txtD (mbs n a k (m ||| 2 ^ i) v)).toArray⟩ ⟨(txtD (mbs n a k (m ||| 2 ^ i) (v ||| 2 ^ i))).toArray⟩).run Tryz.prog w = .ok (.string ⟨(txtD (.ask (finV i) (mbs n a k (m ||| 2 ^ i) v) (mbs n a k (m ||| 2 ^ i) (v ||| 2 ^ i)))).toArray⟩) w := fun w => join_text _ _ (by have := HL0.out; simp; omega) w
          have HQ : (1 + max (mdl JD 10 n a k (m ||| 2 ^ i) v) (mdl JD 10 n a k (m ||| 2 ^ i) (v ||| 2 ^ i))) = Q := HS3.out
          generalize mdl JD 10 n a k (m ||| 2 ^ i) v = z1 at *
          generalize mdl JD 10 n a k (m ||| 2 ^ i) (v ||| 2 ^ i) = z2 at *
          obtain ⟨s0, hs0⟩ : ∃ s0 : ByteArray, ⟨(txtD (.ask (finV i) (mbs n a k (m ||| 2 ^ i) v) (mbs n a k (m ||| 2 ^ i) (v ||| 2 ^ i)))).toArray⟩ = s0 := ⟨_, rfl⟩
          obtain ⟨s1, hs1'⟩ : ∃ s1 : ByteArray, ⟨(txtD (mbs n a k (m ||| 2 ^ i) v)).toArray⟩ = s1 := ⟨_, rfl⟩
          obtain ⟨s2, hs2'⟩ : ∃ s2 : ByteArray, ⟨(txtD (mbs n a k (m ||| 2 ^ i) (v ||| 2 ^ i))).toArray⟩ = s2 := ⟨_, rfl⟩
          obtain ⟨s3, hs3'⟩ : ∃ s3 : ByteArray, ⟨(letC (finV i) :: txtD (mbs n a k (m ||| 2 ^ i) v)).toArray⟩ = s3 := ⟨_, rfl⟩
          obtain ⟨s4, hs4'⟩ : ∃ s4 : ByteArray, ⟨#[letC (finV i)]⟩ = s4 := ⟨_, rfl⟩
          rw [hs0] at HJ2
          rw [hs3', hs2'] at HJ2
          rw [hs4', hs1', hs3'] at HJ1
          rw [hs4'] at hsl
          rw [hs1'] at HTA
          rw [hs2'] at HTD
          have HS0 := Lib.hid hs0
          clear hs0 hs1' hs2' hs3' hs4'
          obtain ⟨X, hX⟩ : ∃ X : Int, (if z1 < z2 then (z2 : Int) else (z1 : Int)) = X := ⟨_, rfl⟩
          have HIF : Hid (IntKind.i64.wrap (1 + X) = (Q : Int)) := Lib.hid (by rw [← HQ, ← hX, IntWalk.i64_in _ (by split <;> omega)]; split <;> omega)
          have HIX := Lib.hid hX
          clear hX
          clear hb p1 p2 p3 p4 HQ
          obtain ⟨M, hM⟩ : ∃ M, m ||| 2 ^ i = M := ⟨_, rfl⟩
          obtain ⟨V, hV⟩ : ∃ V, v ||| 2 ^ i = V := ⟨_, rfl⟩
          rw [hM] at HA HD HTA HTD ho1 ho2
          rw [hV] at HD HTD ho3 ho4
          clear hM hV
          go_wp2_with fail
          go_region_held3 (fun w' => w'.cell? ⟨w.heap.size, 0, none⟩ = some (.int .i64 n) ∧ w'.cell? ⟨w.heap.size, 1, none⟩ = some (.int .i64 a)) ((first | (go_split_ands; (try dsimp only); (refine ⟨?_, ?_⟩ <;> (repeat (first | with_reducible assumption | ((with_reducible refine keepU ?_); (with_reducible assumption)) | (with_reducible refine keepD ?_) | (with_reducible refine keepB hb ?_) | (with_reducible refine keepB hb' ?_)))); done) | go_keep))
            (first
              | (with_reducible refine (HA.out _).mono ?_; rintro e w14 ⟨rfl, hb⟩; obtain ⟨hc, hf⟩ := bcell hb; have hs := hb.size; try simp only [World.size_drew] at hs)
              | (with_reducible refine (HD.out _).mono ?_; rintro e w15 ⟨rfl, hb'⟩; obtain ⟨hc', hf'⟩ := bcell hb'; have hs' := hb'.size; try simp only [World.size_drew] at hs'))
          all_goals
            have E0 : Hid (Below w.heap.size w w15) := Lib.hid (by repeat (first | (with_reducible exact HB.out) | (with_reducible refine bD ?_) | ((with_reducible refine bB hb ?_ ?_); (focus (first | omega | (simp; done) | (simp; omega)))) | ((with_reducible refine bB hb' ?_ ?_); (focus (first | omega | (simp; done) | (simp; omega))))))
            have e0 : w15.heap[w.heap.size]? = some (.cells #[.int .i64 (n : Int), .int .i64 (a : Int)] 25 (0, 0)) := by repeat (first | (exact HX.out) | (refine blockB hb ?_) | (refine blockB hb' ?_))
            obtain ⟨c0, c1, f0, f1⟩ := cells2 e0
            have hs15 : w.heap.size < w15.heap.size := lt_of_block e0
            rw [HIX.out, HIF.out]
            clear hb hb' hc hc' hf hf' hs hs' e0
            go_wp2_with fail
            go_region_held3 (fun w' => w'.cell? ⟨w.heap.size, 0, none⟩ = some (.int .i64 n) ∧ w'.cell? ⟨w.heap.size, 1, none⟩ = some (.int .i64 a)) ((first | (go_split_ands; (try dsimp only); (refine ⟨?_, ?_⟩ <;> (repeat (first | with_reducible assumption | ((with_reducible refine keepU ?_); (with_reducible assumption)) | (with_reducible refine keepD ?_) | (with_reducible refine keepB hb ?_) | (with_reducible refine keepB hb' ?_)))); done) | go_keep))
              (first
                | (with_reducible refine (HTA.out _).mono ?_; rintro e w16 ⟨rfl, hb⟩; obtain ⟨hc, hf⟩ := bcell hb; have hs := hb.size; try simp only [World.size_drew] at hs)
                | (with_reducible refine (HTD.out _).mono ?_; rintro e w17 ⟨rfl, hb'⟩; obtain ⟨hc', hf'⟩ := bcell hb'; have hs' := hb'.size; try simp only [World.size_drew] at hs'))
            all_goals
              go_wp2
              rw [HS0.out]
              go_ret
              exact ⟨rfl, by repeat (first | (with_reducible exact E0.out) | (with_reducible refine bD ?_) | ((with_reducible refine bB hb ?_ ?_); (focus (first | omega | (simp; done) | (simp; omega)))) | ((with_reducible refine bB hb' ?_ ?_); (focus (first | omega | (simp; done) | (simp; omega)))))⟩
        · have hlt : i < j := by omega
          cases hb : m.testBit i with
          | true =>
            obtain ⟨q, ⟨hq1, hq2⟩, hq0⟩ := andw_q h32 hi5 hb
            clear hb hlast
            go_wp2_with fail
            go_quiet (fail)
            all_goals
              go_wp2
              go_roundw
              case rel => exact ⟨i + 1, by go_num, by omega, HX.out, below_drewN HB.out _⟩
              case measure => simp [intOf]; omega
          | false =>
            obtain ⟨q, ⟨hq1, hq2⟩, hq0⟩ := andw_q h32 hi5 hb
            obtain ⟨p1, p2, p3, p4⟩ := HPL.out i (by omega) hb
            have HA := Lib.hid (fun w => HLD.out _ _ w p1 p3 p2)
            have HD := Lib.hid (fun w => HLD.out _ _ w p1 p4 p2)
            have b1 : (mdl JD 10 n a k (m ||| 2 ^ i) v : Int) ≤ 4 := by have := HLE.out p1 p3 p2; omega
            have b2 : (mdl JD 10 n a k (m ||| 2 ^ i) (v ||| 2 ^ i) : Int) ≤ 4 := by have := HLE.out p1 p4 p2; omega
            have ho1 := orw_i64 m h32 i hi5
            have ho2 := orw_i64' m h32 i hi5
            have ho3 := orw_i64 v hv32 i hi5
            have ho4 := orw_i64' v hv32 i hi5
            have hne := HS4.out i hlt hb
            generalize mdl JD 10 n a k (m ||| 2 ^ i) v = z1 at *
            generalize mdl JD 10 n a k (m ||| 2 ^ i) (v ||| 2 ^ i) = z2 at *
            obtain ⟨X, hX⟩ : ∃ X : Int, (if z1 < z2 then (z2 : Int) else (z1 : Int)) = X := ⟨_, rfl⟩
            have hxm : X = max (z1 : Int) (z2 : Int) := by rw [← hX]; split <;> omega
            have hfl : (IntKind.i64.wrap (1 + X) == (Q : Int)) = false := by
              rw [hxm, IntWalk.i64_in _ (by omega), beq_eq_false_iff_ne]; omega
            obtain ⟨Z, hZ⟩ : ∃ Z : Int, IntKind.i64.wrap (1 + X) = Z := ⟨_, rfl⟩
            rw [hZ] at hfl
            have HIX := Lib.hid hX
            have HIF := Lib.hid hZ
            clear hX hxm hZ hb p1 p2 p3 p4 hne hlast
            generalize m ||| 2 ^ i = M at *
            generalize v ||| 2 ^ i = V at *
            go_wp2_with fail
            go_region_held3 (fun w' => w'.cell? ⟨w.heap.size, 0, none⟩ = some (.int .i64 n) ∧ w'.cell? ⟨w.heap.size, 1, none⟩ = some (.int .i64 a)) ((first | (go_split_ands; (try dsimp only); (refine ⟨?_, ?_⟩ <;> (repeat (first | with_reducible assumption | ((with_reducible refine keepU ?_); (with_reducible assumption)) | (with_reducible refine keepD ?_) | (with_reducible refine keepB hb ?_) | (with_reducible refine keepB hb' ?_)))); done) | go_keep))
              (first
                | (with_reducible refine (HA.out _).mono ?_; rintro e w14 ⟨rfl, hb⟩; obtain ⟨hc, hf⟩ := bcell hb; have hs := hb.size; try simp only [World.size_drew] at hs)
                | (with_reducible refine (HD.out _).mono ?_; rintro e w15 ⟨rfl, hb'⟩; obtain ⟨hc', hf'⟩ := bcell hb'; have hs' := hb'.size; try simp only [World.size_drew] at hs'))
            all_goals
              rw [HIX.out, HIF.out]
              go_wp2
              go_roundw
              case rel =>
                refine ⟨i + 1, by go_num, by omega, ?_, ?_⟩
                · repeat (first | (exact HX.out) | (refine blockB hb ?_) | (refine blockB hb' ?_))
                · repeat (first | (with_reducible exact HB.out) | (with_reducible refine bD ?_) | ((with_reducible refine bB hb ?_ ?_); (focus (first | omega | (simp; done) | (simp; omega)))) | ((with_reducible refine bB hb' ?_ ?_); (focus (first | omega | (simp; done) | (simp; omega)))))
              case measure => simp [intOf]; omega

end Go.Proofs.YtdhdkonokbkdoaaGreatDoor
