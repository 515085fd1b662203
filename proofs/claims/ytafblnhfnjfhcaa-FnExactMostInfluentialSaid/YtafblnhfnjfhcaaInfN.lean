/-
  Chapter 13, the model: MostInfluential.
-/
import Derived.Test.YtafblnhfnjfhcaaInfM
import Derived.Deep.DeepCutAuto
import Derived.Deep.DrawnRows
namespace Go.Proofs.Ytafblnhfnjfhcaa
open Go.RowKit Plain
set_option linter.unusedVariables false
attribute [local go_sem ↓] Go.wp_at_zero Go.wp_at_succ

theorem Mst.model_no (n a : Int) (ht : isT n a = false) (w : World) :
    Calls Try.prog 14 #[.agg #[.int .i64 n, .int .i64 a]] w fun e w' => e = .returned (.int .i64 (-1)) ∧ Below w.heap.size w w' := by
  have H := Lib.hid ht
  clear ht
  go_enter Try.func14, Try.ntmps14
  go_wp2_with fail
  go_loopw [3, 4] (fun b i wr => i = .int .i64 0 ∧ b = .int .i64 (-1) ∧ wr.heap[w.heap.size]? = some (.cells #[.int .i64 n, .int .i64 a] 25 (0, 0)) ∧ Below w.heap.size w wr) (fun _ _ _ => 0)
  case atStart => exact ⟨rfl, rfl, heap_alloc_new w _, bA (Nat.le_refl _) (Below.refl _ _)⟩
  case round =>
    obtain ⟨rfl, rfl, hblk, hbel⟩ := hrel
    obtain ⟨c0, c1, f0, f1⟩ := cells2 hblk
    have hlz : w.heap.size < wr.heap.size := lt_of_block hblk
    have HBEL := Lib.hid hbel
    clear hbel
    go_wp2_with fail
    refine (Tab.model _ _ _).mono ?_
    rintro e w2 ⟨rfl, hb2⟩
    rw [H.out]
    have HB2 : Hid (Below w.heap.size w w2) := Lib.hid (bB hb2 (by omega) HBEL.out)
    go_wp2
    go_ret
    exact ⟨rfl, HB2.out⟩

set_option maxRecDepth 100000 in
set_option maxHeartbeats 2000000 in
theorem Mst.model_yes (n a : Nat) (hn : n ≤ 5) (ht : isT n a = true) (ha : (a : Int) ≤ 4294967295) (w : World) :
    Calls Try.prog 14 #[.agg #[.int .i64 n, .int .i64 a]] w fun e w' => e = .returned (.int .i64 (mstN n a n).1) ∧ Below w.heap.size w w' := by
  have H := Lib.hid ht
  have HN := Lib.hid hn
  have hn5 : (n : Int) ≤ 5 := by omega
  have HSA := Lib.hid (fun (k : Nat) (hk : (k : Int) < (n : Int)) => Inf.model_yes n a k hn ht ha (by omega))
  clear hn ht
  go_enter Try.func14, Try.ntmps14
  go_wp2_with fail
  go_loopw [3, 4] (fun b i wr => ∃ k : Nat, i = .int .i64 (k : Int) ∧ b = .int .i64 (mstN n a k).1 ∧ (k : Int) ≤ n ∧ wr.heap[w.heap.size]? = some (.cells #[.int .i64 n, .int .i64 a] 25 (0, 0)) ∧ Below w.heap.size w wr) (fun _ i _ => 32 - (intOf i).toNat)
  case atStart => exact ⟨0, rfl, rfl, by omega, heap_alloc_new w _, bA (Nat.le_refl _) (Below.refl _ _)⟩
  case round =>
    obtain ⟨k, rfl, rfl, hk, hblk, hbel⟩ := hrel
    obtain ⟨c0, c1, f0, f1⟩ := cells2 hblk
    have HBLK := Lib.hid hblk
    have HBEL := Lib.hid hbel
    have hlz : w.heap.size < wr.heap.size := lt_of_block hblk
    clear hblk hbel
    have hm := mst_is n a k
    by_cases hlt : (k : Int) < n
    · have HA := Lib.hid (HSA.out k hlt)
      rcases hm with ⟨rfl, hm⟩ | ⟨j, hj, hm⟩
      · have HT : Hid (mstN n a 1 = ((0 : Int), (infN n a 0 : Int))) := Lib.hid (mst_yes (n := n) (a := a) (k := 0) (by show (-1 : Int) < _; omega))
        have hm1 : (mstN n a 0).1 = -1 := rfl
        rw [hm1]
        go_wp2_with fail
        refine (Tab.model _ _ _).mono ?_
        rintro e w2 ⟨rfl, hb2⟩
        rw [H.out]
        have X2 := blockC hb2 HBLK.out
        obtain ⟨d0, d1, g0, g1⟩ := cells2 X2
        have HB2 : Hid (Below w.heap.size w w2) := Lib.hid (bB hb2 (by omega) HBEL.out)
        go_wp2_with fail
        first | (go_region) | (go_quiet (fail))
        go_wp2_with fail
        go_roundw
        case rel => exact ⟨1, by go_num, by rw [HT.out], by omega, X2, below_drewN HB2.out _⟩
        case measure => simp [intOf]
      · have HJ := Lib.hid (HSA.out j (by omega))
        by_cases hg : (mstN n a k).2 < (infN n a k : Int)
        · have HT := Lib.hid (mst_yes hg)
          rw [hm] at hg ⊢
          generalize hq : mstN n a (k + 1) = q at *
          dsimp only at hg HT ⊢
          generalize infN n a k = p at *
          generalize infN n a j = r at *
          have hj0 : ¬ ((j : Int) < 0) := by omega
          go_wp2_with fail
          refine (Tab.model _ _ _).mono ?_
          rintro e w2 ⟨rfl, hb2⟩
          rw [H.out]
          have X2 := blockC hb2 HBLK.out
          obtain ⟨d0, d1, g0, g1⟩ := cells2 X2
          have HX2 := Lib.hid X2
          have hz2 : w.heap.size < w2.heap.size := lt_of_block X2
          have HB2 : Hid (Below w.heap.size w w2) := Lib.hid (bB hb2 (by omega) HBEL.out)
          clear X2 hb2 c0 c1 f0 f1
          go_wp2_with fail
          go_region_held3 (fun w' => w'.cell? ⟨w.heap.size, 0, none⟩ = some (.int .i64 n) ∧ w'.cell? ⟨w.heap.size, 1, none⟩ = some (.int .i64 a)) ((first | (go_split_ands; (try dsimp only); (refine ⟨?_, ?_⟩ <;> (repeat (first | with_reducible assumption | ((with_reducible refine keepU ?_); (with_reducible assumption)) | (with_reducible refine keepD ?_) | (with_reducible refine keepB hb ?_) | (with_reducible refine keepB hb' ?_)))); done) | go_keep))
            (first
              | (go_at_call 7; ((with_reducible refine (HA.out _).mono ?_); rintro e w14 ⟨rfl, hb⟩))
              | (go_at_call 7; ((with_reducible refine (HJ.out _).mono ?_); rintro e w15 ⟨rfl, hb'⟩)))
          all_goals
            have hs14 := hb.size
            have hs15 := hb'.size
            simp only [World.size_drew] at hs14
            have HB3 : Hid (Below w.heap.size w w15) := Lib.hid (bB hb' (by omega) (bB hb (by simp only [World.size_drew]; omega) (bD HB2.out)))
            have HX3 := Lib.hid (blockC hb' (blockC hb HX2.out))
            clear hb hb'
            go_wp2_with fail
            go_roundw
            case rel => exact ⟨k + 1, by go_num, by rw [hq, HT.out], by omega, HX3.out, HB3.out⟩
            case measure => simp [intOf]; omega
        · have HT := Lib.hid (mst_no hg)
          rw [hm] at hg HT ⊢
          generalize hq : mstN n a (k + 1) = q at *
          dsimp only at hg HT ⊢
          generalize infN n a k = p at *
          generalize infN n a j = r at *
          have hj0 : ¬ ((j : Int) < 0) := by omega
          go_wp2_with fail
          refine (Tab.model _ _ _).mono ?_
          rintro e w2 ⟨rfl, hb2⟩
          rw [H.out]
          have X2 := blockC hb2 HBLK.out
          obtain ⟨d0, d1, g0, g1⟩ := cells2 X2
          have HX2 := Lib.hid X2
          have hz2 : w.heap.size < w2.heap.size := lt_of_block X2
          have HB2 : Hid (Below w.heap.size w w2) := Lib.hid (bB hb2 (by omega) HBEL.out)
          clear X2 hb2 c0 c1 f0 f1
          go_wp2_with fail
          go_region_held3 (fun w' => w'.cell? ⟨w.heap.size, 0, none⟩ = some (.int .i64 n) ∧ w'.cell? ⟨w.heap.size, 1, none⟩ = some (.int .i64 a)) ((first | (go_split_ands; (try dsimp only); (refine ⟨?_, ?_⟩ <;> (repeat (first | with_reducible assumption | ((with_reducible refine keepU ?_); (with_reducible assumption)) | (with_reducible refine keepD ?_) | (with_reducible refine keepB hb ?_) | (with_reducible refine keepB hb' ?_)))); done) | go_keep))
            (first
              | (go_at_call 7; ((with_reducible refine (HA.out _).mono ?_); rintro e w14 ⟨rfl, hb⟩))
              | (go_at_call 7; ((with_reducible refine (HJ.out _).mono ?_); rintro e w15 ⟨rfl, hb'⟩)))
          all_goals
            have hs14 := hb.size
            have hs15 := hb'.size
            simp only [World.size_drew] at hs14
            have HB3 : Hid (Below w.heap.size w w15) := Lib.hid (bB hb' (by omega) (bB hb (by simp only [World.size_drew]; omega) (bD HB2.out)))
            have HX3 := Lib.hid (blockC hb' (blockC hb HX2.out))
            clear hb hb'
            go_wp2_with fail
            go_roundw
            case rel => exact ⟨k + 1, by go_num, by rw [hq, HT.out], by omega, HX3.out, HB3.out⟩
            case measure => simp [intOf]; omega
    · have he : k = n := by omega
      have HE : Hid (mstN n a k = mstN n a n) := Lib.hid (by rw [he])
      clear he
      generalize mstN n a k = g0 at *
      go_wp2_with fail
      refine (Tab.model _ _ _).mono ?_
      rintro e w2 ⟨rfl, hb2⟩
      rw [H.out]
      obtain ⟨d0, d1, g0', g1'⟩ := cells2 (blockC hb2 HBLK.out)
      have HB2 : Hid (Below w.heap.size w w2) := Lib.hid (bB hb2 (by omega) HBEL.out)
      go_wp2
      go_ret
      exact ⟨ret_int (by rw [← HE.out]), HB2.out⟩

/-- MostInfluential of the model. -/
theorem Mst.model (n a : Int) (w : World) :
    Calls Try.prog 14 #[.agg #[.int .i64 n, .int .i64 a]] w fun e w' => e = .returned (.int .i64 (mstT n a)) ∧ Below w.heap.size w w' := by
  cases ht : isT n a with
  | false =>
    rw [mstT_no ht]
    exact Mst.model_no n a ht w
  | true =>
    obtain ⟨n, a, rfl, rfl, hn, ha⟩ := isT_nat ht
    rw [mstT_yes ht]
    exact Mst.model_yes n a hn ht (by have := fullN_le n hn; omega) w

end Go.Proofs.Ytafblnhfnjfhcaa
