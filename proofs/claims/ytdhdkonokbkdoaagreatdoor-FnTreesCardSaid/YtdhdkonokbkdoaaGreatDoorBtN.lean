/-
  Chapter 7: BestTree of the model; bestQuestion of the program.
-/
import Derived.Test.YtdhdkonokbkdoaaGreatDoorBtM
import Derived.Test.YtdhdkonokbkdoaaGreatDoorLdJ
namespace Go.Proofs.YtdhdkonokbkdoaaGreatDoor
open Go.RowKit Plain
set_option linter.unusedVariables false

/-- What BestTree answers. -/
def Plain.btV (n a : Int) : Value := if btB n a = true then .tuple #[.string ⟨(txtD (bst n.toNat a.toNat (List.range n.toNat))).toArray⟩, .bool true] else .tuple #[.string ⟨#[]⟩, .bool false]
theorem btV_yes {n a : Nat} (h : btB n a = true) : btV n a = .tuple #[.string ⟨(txtD (bst n a (List.range n))).toArray⟩, .bool true] := if_pos h
theorem btV_no {n a : Int} (h : btB n a = false) : btV n a = .tuple #[.string ⟨#[]⟩, .bool false] := if_neg (by rw [h]; decide)

set_option maxRecDepth 100000 in
/-- BestTree of the model. -/
theorem Bst.model (n a : Int) (w : World) :
    Calls Tryz.prog 7 #[.agg #[.int .i64 n, .int .i64 a]] w fun e w' => e = .returned (btV n a) ∧ Below w.heap.size w w' := by
  cases ht : isT n a with
  | false =>
    have HM := Lib.hid (Tab.modelV n a false ht)
    rw [btV_no (show btB n a = false by unfold btB; rw [ht]; rfl)]
    clear ht
    go_enter Tryz.func7, Tryz.ntmps7
    go_wp2_with fail
    refine (HM.out _).mono ?_
    rintro e w1 ⟨rfl, hb1⟩
    go_wp2_with fail
    go_ret2
    exact ⟨rfl, bB hb1 (by simp) (bA (Nat.le_refl _) (Below.refl _ _))⟩
  | true =>
    have HM := Lib.hid (Tab.modelV n a true ht)
    obtain ⟨m, x, rfl, rfl, hm, hx⟩ := isT_nat ht
    by_cases h4 : m ≤ 4
    · have hL : Hid (∀ w, Calls Tryz.prog 32 #[.agg #[.int .i64 m, .int .i64 x], .int .i64 0, .int .i64 0] w fun e w' => e = .returned (.string ⟨(txtD (bst m x (List.range m))).toArray⟩) ∧ Below w.heap.size w w') := Lib.hid fun w => by
        have := Bt.any m x h4 (by have := fullN_le m (by omega); omega) m 0 0 w (Nat.pow_pos (by decide)) (by simp) (spr_zero m (by omega)).1
        rw [mbs_whole h4 hx] at this
        exact this
      rw [btV_yes (show btB m x = true by unfold btB; rw [ht, decide_eq_true (show (m : Int) ≤ 4 by omega)]; rfl)]
      generalize (⟨(txtD (bst m x (List.range m))).toArray⟩ : ByteArray) = r at *
      clear ht hx
      go_enter Tryz.func7, Tryz.ntmps7
      go_wp2_with fail
      refine (HM.out _).mono ?_
      rintro e w1 ⟨rfl, hb1⟩
      have HX0 : w1.heap[w.heap.size]? = some (.cells #[.int .i64 (m : Int), .int .i64 (x : Int)] 25 (0, 0)) := blockB hb1 (heap_alloc_new w _)
      obtain ⟨c0, c1, f0, f1⟩ := cells2 HX0
      have hz := lt_of_block HX0
      have HB1 := Lib.hid hb1
      clear hb1 HX0
      go_wp2_with fail
      refine (hL.out _).mono ?_
      rintro e w2 ⟨rfl, hb2⟩
      go_wp2_with fail
      go_ret2
      exact ⟨rfl, bB hb2 (by omega) (bB HB1.out (by simp) (bA (Nat.le_refl _) (Below.refl _ _)))⟩
    · have hgt : ¬ (m : Int) ≤ 4 := by omega
      rw [btV_no (show btB m x = false by unfold btB; rw [decide_eq_false hgt, Bool.and_false])]
      have hlt : (4 : Int) < (m : Int) := by omega
      clear ht hx h4 hgt
      go_enter Tryz.func7, Tryz.ntmps7
      go_wp2_with fail
      refine (HM.out _).mono ?_
      rintro e w1 ⟨rfl, hb1⟩
      have HX0 : w1.heap[w.heap.size]? = some (.cells #[.int .i64 (m : Int), .int .i64 (x : Int)] 25 (0, 0)) := blockB hb1 (heap_alloc_new w _)
      obtain ⟨c0, c1, f0, f1⟩ := cells2 HX0
      have HB1 := Lib.hid hb1
      clear hb1 HX0
      go_wp2_with fail
      go_ret2
      exact ⟨rfl, bB HB1.out (by simp) (bA (Nat.le_refl _) (Below.refl _ _))⟩

/-- LeastDepth where it answers. -/
theorem Ld.at (n a : Nat) (hn : n ≤ 4) (ha : a ≤ fullN n) (w : World) :
    Calls Tryz.prog 8 #[.agg #[.int .i64 (n : Int), .int .i64 (a : Int)]] w fun e w' => e = .returned (.int .i64 (cst JD n a : Int)) ∧ Below w.heap.size w w' := by
  have := Ld.impl n a (by have := fullN_le n (by omega); omega) w
  rw [ldT_yes hn ha] at this
  exact this

set_option maxRecDepth 100000 in
set_option maxHeartbeats 4000000 in
/-- bestQuestion. -/
theorem Bq.any (n a : Nat) (hn : n + 1 ≤ 4) (ha : a ≤ fullN (n + 1)) (w : World) :
    Calls Tryz.prog 56 #[.agg #[.int .i64 ((n + 1 : Nat) : Int), .int .i64 (a : Int)]] w fun e w' => e = .returned (.int .i64 (bqB (worse n a) (n + 1) : Int)) ∧ Below w.heap.size w w' := by
  have HSP := Lib.hid (fun i hi => Sp.any n a i (by omega) ha hi)
  have HLD := Lib.hid (fun (i b : Nat) (w : World) => Ld.at n (restW (n + 1) a i b) (by omega) (tabN_full _ _) w)
  have HG : Hid (∀ i, max (cst JD n (restW (n + 1) a i 0)) (cst JD n (restW (n + 1) a i 1)) = worse n a i) := Lib.hid fun i => rfl
  have HW := Lib.hid (fun i => worse_lt n a i (by omega))
  generalize worse n a = G at *
  have HQ : Hid (∀ i : Nat, (i : Int) < ((n + 1 : Nat) : Int) → i < n + 1) := Lib.hid fun i h => by omega
  have HQ2 : Hid (∀ i : Nat, ((n + 1 : Nat) : Int) ≤ (i : Int) → i ≤ n + 1 → i = n + 1) := Lib.hid fun i h h2 => by omega
  have hq5 : ((n + 1 : Nat) : Int) ≤ 5 := by omega
  clear ha
  generalize ((n + 1 : Nat) : Int) = q at *
  go_enter Tryz.func56, Tryz.ntmps56
  go_wp2_with fail
  go_loopw [3, 4, 10] (fun b r x wr => ∃ i : Nat, x = .int .i64 (i : Int) ∧ r = .int .i64 (mnK G maxI i : Int) ∧ b = .int .i64 (bqB G i : Int) ∧ i ≤ n + 1 ∧ wr.heap[w.heap.size]? = some (.cells #[.int .i64 q, .int .i64 (a : Int)] 25 (0, 0)) ∧ Below w.heap.size w wr) (fun _ _ x _ => 10 - (intOf x).toNat)
  case atStart => exact ⟨0, rfl, rfl, rfl, Nat.zero_le _, heap_alloc_new w _, bA (Nat.le_refl _) (Below.refl _ _)⟩
  case round =>
    obtain ⟨i, rfl, rfl, rfl, hin, hx, hbel⟩ := hrel
    have HX := Lib.hid hx
    have HBL := Lib.hid hbel
    have hszr : w.heap.size < wr.heap.size := lt_of_block hx
    obtain ⟨c0, c1, f0, f1⟩ := cells2 hx
    clear hx hbel
    by_cases hi : (i : Int) < q
    · have hi2 := HQ.out i hi
      have hi5 : (i : Int) ≤ 5 := by omega
      have HS := Lib.hid (HSP.out i hi2)
      have HE : Hid (mnK G maxI (i + 1) = min (mnK G maxI i) (G i)) := Lib.hid rfl
      have HA := Lib.hid (HLD.out i 0)
      have HD := Lib.hid (HLD.out i 1)
      have HGI := HG.out i
      have HI2 : Hid (i + 1 ≤ n + 1) := Lib.hid (by omega)
      obtain ⟨g, hg⟩ : ∃ g, G i = g := ⟨_, rfl⟩
      have hby := bqB_yes (G := G) (k := i)
      have hbn := bqB_no (G := G) (k := i)
      rw [hg] at HE HGI hby hbn
      have HBY := Lib.hid hby
      have HBN := Lib.hid hbn
      generalize cst JD n (restW (n + 1) a i 0) = z1 at *
      generalize cst JD n (restW (n + 1) a i 1) = z2 at *
      generalize restW (n + 1) a i 0 = r0 at *
      generalize restW (n + 1) a i 1 = r1 at *
      have HIF : Hid ((if z1 < z2 then (z2 : Int) else (z1 : Int)) = (g : Int)) := Lib.hid (by rw [← HGI]; split <;> omega)
      clear hi2 hg hby hbn HGI
      generalize mnK G maxI i = L at *
      go_wp2_with fail
      refine (HS.out _).mono ?_
      rintro e w2 ⟨rfl, hb2⟩
      have X2 := blockB hb2 HX.out
      obtain ⟨c0, c1, f0, f1⟩ := cells2 X2
      have HX2 := Lib.hid X2
      have HB2 : Hid (Below w.heap.size w w2) := Lib.hid (bB hb2 (by omega) HBL.out)
      have hs2 : w.heap.size < w2.heap.size := lt_of_block X2
      clear X2 hb2
      go_wp2_with fail
      go_region_held3 (fun w' => w'.cell? ⟨w2.heap.size, 0, none⟩ = some (.int .i64 (n : Int)) ∧ w'.cell? ⟨w2.heap.size, 1, none⟩ = some (.int .i64 (r0 : Int)) ∧ w'.cell? ⟨w2.heap.size, 2, none⟩ = some (.int .i64 (n : Int)) ∧ w'.cell? ⟨w2.heap.size, 3, none⟩ = some (.int .i64 (r1 : Int))) ((first | (go_split_ands; (try dsimp only); (refine ⟨?_, ?_, ?_, ?_⟩ <;> (repeat (first | with_reducible assumption | ((with_reducible refine keepU ?_); (with_reducible assumption)) | (with_reducible refine keepD ?_) | ((with_reducible refine keepN ?_ ?_); (focus (simp; done)); (focus rfl)) | (with_reducible refine keepA ?_) | (with_reducible refine keepB hb3 ?_) | (with_reducible refine keepB hb4 ?_)))); done) | go_keep))
        (first
          | (with_reducible refine (HA.out _).mono ?_; rintro e w3 ⟨rfl, hb3⟩; obtain ⟨hc3, hf3⟩ := bcell hb3; have hs3 := hb3.size; try simp only [World.size_alloc, World.size_drew] at hs3)
          | (with_reducible refine (HD.out _).mono ?_; rintro e w4 ⟨rfl, hb4⟩; obtain ⟨hc4, hf4⟩ := bcell hb4; have hs4 := hb4.size; try simp only [World.size_alloc, World.size_drew] at hs4))
      all_goals
        rw [HIF.out]
        by_cases hgl : (g : Int) < (L : Int)
        · have HBY2 := Lib.hid (HBY.out (by omega))
          go_wp2
          go_roundw
          case rel =>
            refine ⟨i + 1, by go_num, ?_, ?_, HI2.out, ?_, ?_⟩
            · rw [HE.out]; congr 1; omega
            · rw [HBY2.out]
            · repeat (first | (exact HX2.out) | (exact (heap_alloc_old w2 _ hs2).trans HX2.out) | (refine blockB hb4 ?_) | (refine blockB hb3 ?_))
            · repeat (first | (with_reducible exact HB2.out) | (with_reducible refine bD ?_) | ((with_reducible refine bB hb4 ?_ ?_); (focus (first | omega | (simp; done) | (simp; omega)))) | ((with_reducible refine bB hb3 ?_ ?_); (focus (first | omega | (simp; done) | (simp; omega)))) | ((with_reducible refine bA ?_ ?_); (focus (first | omega | (simp; done) | (simp; omega)))))
          case measure => simp [intOf]; omega
        · have HBN2 := Lib.hid (HBN.out (by omega))
          go_wp2
          go_roundw
          case rel =>
            refine ⟨i + 1, by go_num, ?_, ?_, HI2.out, ?_, ?_⟩
            · rw [HE.out]; congr 1; omega
            · rw [HBN2.out]
            · repeat (first | (exact HX2.out) | (exact (heap_alloc_old w2 _ hs2).trans HX2.out) | (refine blockB hb4 ?_) | (refine blockB hb3 ?_))
            · repeat (first | (with_reducible exact HB2.out) | (with_reducible refine bD ?_) | ((with_reducible refine bB hb4 ?_ ?_); (focus (first | omega | (simp; done) | (simp; omega)))) | ((with_reducible refine bB hb3 ?_ ?_); (focus (first | omega | (simp; done) | (simp; omega)))) | ((with_reducible refine bA ?_ ?_); (focus (first | omega | (simp; done) | (simp; omega)))))
          case measure => simp [intOf]; omega
    · have hE := HQ2.out i (by omega) hin
      have HE : Hid (bqB G i = bqB G (n + 1)) := Lib.hid (by rw [hE])
      clear hE
      go_wp2_with fail
      go_ret
      exact ⟨by rw [← HE.out]; rfl, HBL.out⟩

end Go.Proofs.YtdhdkonokbkdoaaGreatDoor
