/-
  Chapter 7: bestTree of the program.
-/
import Derived.Test.YthdcjldmafhcjaaDoorBtQ
import Derived.Test.YthdcjldmafhcjaaDoorTreI
namespace Go.Proofs.YthdcjldmafhcjaaDoor
open Go.RowKit Plain
set_option linter.unusedVariables false

theorem trip0 {w : World} {b : Nat} {x y z : Value} {T : TypeId} (h : w.heap[b]? = some (.cells #[x, y, z] T (0, 0))) : w.cell? ⟨b, 0, none⟩ = some x := by simp [World.cell?, h]
theorem trip1 {w : World} {b : Nat} {x y z : Value} {T : TypeId} (h : w.heap[b]? = some (.cells #[x, y, z] T (0, 0))) : w.cell? ⟨b, 1, none⟩ = some y := by simp [World.cell?, h]
theorem trip2 {w : World} {b : Nat} {x y z : Value} {T : TypeId} (h : w.heap[b]? = some (.cells #[x, y, z] T (0, 0))) : w.cell? ⟨b, 2, none⟩ = some z := by simp [World.cell?, h]
theorem tripF {w : World} {b : Nat} {x y z : Value} {T : TypeId} (h : w.heap[b]? = some (.cells #[x, y, z] T (0, 0))) (j : Nat) : w.frozen? ⟨b, j, none⟩ = false := frozen_of_row w b j _ _ h
theorem trip_put1 {w : World} {b : Nat} {x y z : Value} {T : TypeId} (h : w.heap[b]? = some (.cells #[x, y, z] T (0, 0))) (u : Value) : (w.setCell ⟨b, 1, none⟩ u).heap[b]? = some (.cells #[x, u, z] T (0, 0)) := by
  rw [heap_setCell_same w b 1 _ _ u h]; rfl
theorem trip_put2 {w : World} {b : Nat} {x y z : Value} {T : TypeId} (h : w.heap[b]? = some (.cells #[x, y, z] T (0, 0))) (u : Value) : (w.setCell ⟨b, 2, none⟩ u).heap[b]? = some (.cells #[x, y, u] T (0, 0)) := by
  rw [heap_setCell_same w b 2 _ _ u h]; rfl
theorem TrIn.drew1 {base : Nat} {w : World} {T : DT} {b : Nat} (h : TrIn base w T b) : TrIn base w.drew T b := h.below (Below.refl _ _).drew
theorem TrIn.on {base : Nat} {X w w' : World} (hb : Below X.heap.size X w') (hX : ∀ b, b < w.heap.size → X.heap[b]? = w.heap[b]?) {T : DT} {b : Nat} (h : TrIn base w T b) : TrIn base w' T b :=
  TrIn.below hb (h.keep fun b o v _ hc => by
    have hlt : b < w.heap.size := by
      by_cases hh : b < w.heap.size
      · exact hh
      · have hn : w.heap[b]? = none := Array.getElem?_eq_none (by omega)
        simp [World.cell?, hn] at hc
    rw [← hc]; unfold World.cell?; rw [hX b hlt])

theorem index0 (u0 u1 u2 u3 : Value) (w : World) : (Instr.index 45 (.agg #[u0, u1, u2, u3]) (.int .i64 0)).run Tryd.prog w = .ok (.agg #[u0, u1]) w := by kernel_rfl
theorem index1 (u0 u1 u2 u3 : Value) (w : World) : (Instr.index 45 (.agg #[u0, u1, u2, u3]) (.int .i64 1)).run Tryd.prog w = .ok (.agg #[u2, u3]) w := by kernel_rfl

theorem VarsAt.set {w : World} {v : Value} {l : List Nat} {p : Addr} {u : Value} {q : Option Addr} (h : VarsAt w v l) (hp : w.cell? p = some (.pointer q)) : VarsAt (w.setCell p u) v l := by
  obtain ⟨a, cap, h1, h2, h3, h4⟩ := h
  refine ⟨a, cap, h1, h2, h3, fun hl => ?_⟩
  obtain ⟨b, hb, hc⟩ := h4 hl
  refine ⟨b, hb, fun j hj => (World.cell?_setCell_other w p _ u ?_).trans (hc j hj)⟩
  intro e
  rw [e, hc j hj] at hp
  cases hp
theorem VarsAt.drew1 {w : World} {v : Value} {l : List Nat} (h : VarsAt w v l) : VarsAt w.drew v l := h.below (Below.refl _ _).drew

/-- ValueAt at the first input. -/
theorem Va.zero (n a : Nat) (hn : n ≤ 5) (ha : a ≤ fullN n) (w : World) :
    Calls Tryd.prog 17 #[.agg #[.int .i64 (n : Int), .int .i64 (a : Int)], .int .i64 0] w fun e w' => e = .returned (.int .i64 ((a.testBit 0).toNat : Int)) ∧ Below w.heap.size w w' := by
  have h2 : (((0 : Nat) : Int)) < 2 ^ n := by rw [up2]; have : 0 < 2 ^ n := Nat.pow_pos (by decide); omega
  have := Tab.valI n a ((0 : Nat) : Int) (by have := fullN_le n hn; omega) w
  rw [valAt_in n a 0 hn ha h2, bitN_test] at this
  exact this

set_option maxRecDepth 100000 in
set_option maxHeartbeats 4000000 in
theorem Btr.con (n a : Nat) (hn : n ≤ 4) (ha : a ≤ fullN n) (hc : conT (n : Int) (a : Int) = true) (v : Value) (vs : List Nat) (w : World) :
    Calls Tryd.prog 10 #[.agg #[.int .i64 (n : Int), .int .i64 (a : Int)], v] w fun e w' => ∃ b, e = .returned (.pointer (some ⟨b, 0, none⟩)) ∧ TrIn w.heap.size w' (bst n a vs) b ∧ Below w.heap.size w w' := by
  rw [bst_con hc]
  have hf := fullN_le n (by omega)
  have HC := Lib.hid (Tab.conI (n : Int) a (by omega))
  rw [hc] at HC
  have HV := Lib.hid (Va.zero n a (by omega) ha)
  clear hc hf ha
  generalize a.testBit 0 = t at *
  go_enter Tryd.func10, Tryd.ntmps10
  go_wp2_with fail
  refine (HC.out _).mono ?_
  rintro e w1 ⟨rfl, hb1⟩
  have HX0 : w1.heap[w.heap.size]? = some (.cells #[.int .i64 (n : Int), .int .i64 (a : Int)] 26 (0, 0)) := blockB hb1 (heap_alloc_new w _)
  obtain ⟨c0, c1, f0, f1⟩ := cells2 HX0
  have hz := lt_of_block HX0
  have HB1 := Lib.hid hb1
  clear hb1 HX0
  go_wp2_with fail
  refine (HV.out _).mono ?_
  rintro e w2 ⟨rfl, hb2⟩
  have hz2 := hb2.size
  have HB2 := Lib.hid hb2
  clear hb2
  go_wp2_with fail
  go_ret
  refine ⟨w2.heap.size, rfl, ⟨by omega, ?_, ?_, ?_⟩, bA (by omega) (bB HB2.out (by omega) (bB HB1.out (by simp) (bA (Nat.le_refl _) (Below.refl _ _))))⟩
  all_goals (refine keepN rfl rfl)

set_option maxRecDepth 100000 in
set_option maxHeartbeats 4000000 in
/-- bestTree. -/
theorem Btr.any (n : Nat) : ∀ (a : Nat) (v : Value) (vs : List Nat) (w : World), n ≤ 4 → a ≤ fullN n → VarsAt w v vs → vs.length = n → (∀ x ∈ vs, x < 5) →
    Calls Tryd.prog 10 #[.agg #[.int .i64 (n : Int), .int .i64 (a : Int)], v] w fun e w' => ∃ b, e = .returned (.pointer (some ⟨b, 0, none⟩)) ∧ TrIn w.heap.size w' (bst n a vs) b ∧ Below w.heap.size w w' := by
  induction n with
  | zero => intro a v vs w hn ha _ _ _; exact Btr.con 0 a hn ha (con_zero ha) v vs w
  | succ n ih =>
    intro a v vs w hn ha hv hlen hall
    cases hc : conT ((n + 1 : Nat) : Int) (a : Int) with
    | true => exact Btr.con (n + 1) a hn ha hc v vs w
    | false =>
      rw [bst_step hc]
      have hf := fullN_le (n + 1) (by omega)
      have HC := Lib.hid (Tab.conI ((n + 1 : Nat) : Int) a (by omega))
      rw [hc] at HC
      have HQ := Lib.hid (Bq.any n a hn ha)
      have hi : bqB (worse n a) (n + 1) < n + 1 := (bqB_spec (worse n a) (fun i => worse_lt n a i (by omega)) (n + 1) (by omega)).1
      generalize bqB (worse n a) (n + 1) = i at *
      have HS := Lib.hid (Sp.any n a i (by omega) ha hi)
      have hel : (vs.eraseIdx i).length = n := by rw [List.length_eraseIdx_of_lt (by omega)]; omega
      have hea : ∀ x ∈ vs.eraseIdx i, x < 5 := fun x hx => hall x (List.mem_of_mem_eraseIdx hx)
      have HA := Lib.hid (fun (v : Value) (w : World) (h : VarsAt w v (vs.eraseIdx i)) => ih (restW (n + 1) a i 0) v (vs.eraseIdx i) w (by omega) (tabN_full _ _) h hel hea)
      have HD := Lib.hid (fun (v : Value) (w : World) (h : VarsAt w v (vs.eraseIdx i)) => ih (restW (n + 1) a i 1) v (vs.eraseIdx i) w (by omega) (tabN_full _ _) h hel hea)
      have HVW := Lib.hid (fun (v : Value) (w : World) (h : VarsAt w v vs) => Vw.any v vs i (by omega) w h)
      have hx5 : vs.getD i 0 < 5 := by
        rw [List.getD_eq_getElem?_getD, List.getElem?_eq_getElem (by omega)]
        exact hall _ (List.getElem_mem _)
      have HFV : Hid (((finV (vs.getD i 0)).val : Int) = ((vs.getD i 0 : Nat) : Int)) := Lib.hid (by rw [finV_val hx5])
      generalize finV (vs.getD i 0) = F at *
      generalize bst n (restW (n + 1) a i 0) (vs.eraseIdx i) = T0 at *
      generalize bst n (restW (n + 1) a i 1) (vs.eraseIdx i) = T1 at *
      generalize restW (n + 1) a i 0 = r0 at *
      generalize restW (n + 1) a i 1 = r1 at *
      have HVA := Lib.hid hv
      obtain ⟨ad, cap, rfl, hc1, hc2, hc3⟩ := hv
      obtain ⟨b, rfl, hcell⟩ := hc3 (by omega)
      have hci := hcell i (by omega)
      rw [hlen] at HVA hc1
      have HCI := Lib.hid hci
      generalize vs.getD i 0 = x at *
      generalize vs.eraseIdx i = rest at *
      rw [hlen]
      have hi2 : (i : Int) < (n : Int) + 1 := by omega
      clear hc hf ha hcell hall hea hel hlen ih hc3 hci
      have hqe : ((n + 1 : Nat) : Int) = (n : Int) + 1 := by omega
      rw [hqe] at HC HQ HS ⊢
      go_enter Tryd.func10, Tryd.ntmps10
      go_wp2_with fail
      refine (HC.out _).mono ?_
      rintro e w1 ⟨rfl, hb1⟩
      have hx1 : w1.heap[w.heap.size]? = some (.cells #[.int .i64 ((n : Int) + 1), .int .i64 (a : Int)] 26 (0, 0)) := blockB hb1 (heap_alloc_new w _)
      obtain ⟨c0, c1, f0, f1⟩ := cells2 hx1
      have HX1 := Lib.hid hx1
      have hz1 := lt_of_block hx1
      have HB1 : Hid (Below w.heap.size w w1) := Lib.hid (bB hb1 (by simp) (bA (Nat.le_refl _) (Below.refl _ _)))
      clear hb1 hx1
      go_wp2_with fail
      refine (HQ.out _).mono ?_
      rintro e w2 ⟨rfl, hb2⟩
      have hx2 := blockB hb2 HX1.out
      obtain ⟨c0, c1, f0, f1⟩ := cells2 hx2
      have HX2 := Lib.hid hx2
      have hz2 := lt_of_block hx2
      have HB2 : Hid (Below w.heap.size w w2) := Lib.hid (bB hb2 (by omega) HB1.out)
      have hcx : w2.cell? ⟨b, i, none⟩ = some (.int .i64 (x : Int)) := cellOn HB2.out HCI.out
      clear hb2 hx2
      go_wp2_with fail
      refine (HVW.out _ _ (HVA.out.below (bA (by omega) HB2.out))).mono ?_
      rintro e w3 ⟨v', rfl, hv3, hb3⟩
      have hx3 := blockB hb3 ((heap_alloc_old w2 _ hz2).trans HX2.out)
      have ht3 := blockB hb3 (heap_alloc_new w2 (.cells #[.int .i64 (x : Int), .pointer none, .pointer none] 42 (0, 0)))
      obtain ⟨c0, c1, f0, f1⟩ := cells2 hx3
      have HX3 := Lib.hid hx3
      have HT3 := Lib.hid ht3
      have HV3 := Lib.hid hv3
      have hz3 := lt_of_block ht3
      have hz3' := lt_of_block hx3
      have HB3 : Hid (Below w.heap.size w w3) := Lib.hid (bB hb3 (by simp; omega) (bA (by omega) HB2.out))
      clear hb3 hx3 ht3 hv3
      go_wp2_with fail
      refine (HS.out _).mono ?_
      rintro e w4 ⟨rfl, hb4⟩
      have HT4 := Lib.hid (blockB hb4 HT3.out)
      have HV4 := Lib.hid (HV3.out.below hb4)
      have HB4 : Hid (Below w.heap.size w w4) := Lib.hid (bB hb4 (by omega) HB3.out)
      clear hb4 c0 c1 f0 f1
      go_wp2_with fail
      go_loopw [30] (fun y wr => ((y = .int .i64 0 ∧ wr.heap[w2.heap.size]? = some (.cells #[.int .i64 (x : Int), .pointer none, .pointer none] 42 (0, 0))) ∨ (y = .int .i64 1 ∧ ∃ bl, TrIn (w2.heap.size + 1) wr T0 bl ∧ wr.heap[w2.heap.size]? = some (.cells #[.int .i64 (x : Int), .pointer (some ⟨bl, 0, none⟩), .pointer none] 42 (0, 0))) ∨
          (y = .int .i64 2 ∧ ∃ bl br, (TrIn (w2.heap.size + 1) wr T0 bl ∧ TrIn (w2.heap.size + 1) wr T1 br) ∧ wr.heap[w2.heap.size]? = some (.cells #[.int .i64 (x : Int), .pointer (some ⟨bl, 0, none⟩), .pointer (some ⟨br, 0, none⟩)] 42 (0, 0)))) ∧ VarsAt wr v' rest ∧ Below w.heap.size w wr) (fun y _ => 4 - (intOf y).toNat)
      case atStart => exact ⟨.inl ⟨rfl, HT4.out⟩, HV4.out, HB4.out⟩
      case round =>
        obtain ⟨hcase, hvr, hbel⟩ := hrel
        have HB := Lib.hid hbel
        have HVR := Lib.hid hvr
        clear hbel hvr
        rcases hcase with ⟨rfl, hx⟩ | ⟨rfl, bl, htl, hx⟩ | ⟨rfl, bl, br, ⟨htl, htr⟩, hx⟩
        · have HX := Lib.hid hx
          have hlt2 : w2.heap.size < wr.heap.size := lt_of_block hx
          have hix := index0 (.int .i64 (n : Int)) (.int .i64 (r0 : Int)) (.int .i64 (n : Int)) (.int .i64 (r1 : Int))
          clear hx
          go_wp2_with fail
          go_region_with (refine (HA.out _ _ (HVR.out.below (by repeat (first | (with_reducible exact Below.refl _ _) | (with_reducible refine bD ?_) | (with_reducible refine bA (Nat.le_refl _) ?_))))).mono ?_; rintro e w5 ⟨bl, rfl, hti, hb5⟩; have X5 := blockB hb5 ((heap_alloc_old wr _ hlt2).trans HX.out); have x1 := trip1 X5; have f1 := tripF X5 1; have HX5 := Lib.hid X5; have HB1 := Lib.hid hb5; have HTL := Lib.hid hti; have HXC := Lib.hid x1; have HVR5 := Lib.hid ((HVR.out.below (by repeat (first | (with_reducible exact Below.refl _ _) | (with_reducible refine bD ?_) | (with_reducible refine bA (Nat.le_refl _) ?_)))).below hb5); clear X5 hb5 hti)
          all_goals
            go_wp2
            go_roundw
            case rel =>
              refine ⟨.inr (.inl ⟨rfl, bl, ?_, trip_put1 HX5.out _⟩), ?_, ?_⟩
              · repeat (first | (with_reducible exact HTL.out.mono (by simp; omega)) | (with_reducible refine TrIn.drew1 ?_) | ((with_reducible refine TrIn.set ?_ ?_); (focus (dsimp only; omega))))
              · repeat (first | (with_reducible exact HVR5.out) | (with_reducible refine VarsAt.drew1 ?_) | (with_reducible refine VarsAt.set ?_ HXC.out))
              · (repeat (first | (with_reducible exact HB.out) | ((with_reducible refine bS ?_ ?_); (focus (dsimp only; omega))) | (with_reducible refine bD ?_) | ((with_reducible refine bB HB1.out ?_ ?_); (focus (first | omega | (simp; done) | (simp; omega)))) | ((with_reducible refine bA ?_ ?_); (focus (first | omega | (simp; done) | (simp; omega))))))
            case measure => simp [intOf]
        · have HX := Lib.hid hx
          have hlt2 : w2.heap.size < wr.heap.size := lt_of_block hx
          have hix := index1 (.int .i64 (n : Int)) (.int .i64 (r0 : Int)) (.int .i64 (n : Int)) (.int .i64 (r1 : Int))
          have HTL0 := Lib.hid htl
          clear hx htl
          go_wp2_with fail
          go_region_with (refine (HD.out _ _ (HVR.out.below (by repeat (first | (with_reducible exact Below.refl _ _) | (with_reducible refine bD ?_) | (with_reducible refine bA (Nat.le_refl _) ?_))))).mono ?_; rintro e w5 ⟨br, rfl, hti, hb5⟩; have X5 := blockB hb5 ((heap_alloc_old wr _ hlt2).trans HX.out); have x1 := trip2 X5; have f1 := tripF X5 2; have HT1 := Lib.hid (TrIn.on (w := wr) hb5 (fun _ hh => heap_alloc_old wr _ hh) HTL0.out); have HX5 := Lib.hid X5; have HB1 := Lib.hid hb5; have HTL := Lib.hid hti; have HXC := Lib.hid x1; have HVR5 := Lib.hid ((HVR.out.below (by repeat (first | (with_reducible exact Below.refl _ _) | (with_reducible refine bD ?_) | (with_reducible refine bA (Nat.le_refl _) ?_)))).below hb5); clear X5 hb5 hti)
          all_goals
            go_wp2
            go_roundw
            case rel =>
              refine ⟨.inr (.inr ⟨rfl, bl, br, ⟨?_, ?_⟩, trip_put2 HX5.out _⟩), ?_, ?_⟩
              · repeat (first | (with_reducible exact HT1.out) | (with_reducible refine TrIn.drew1 ?_) | ((with_reducible refine TrIn.set ?_ ?_); (focus (dsimp only; omega))))
              · repeat (first | (with_reducible exact HTL.out.mono (by simp; omega)) | (with_reducible refine TrIn.drew1 ?_) | ((with_reducible refine TrIn.set ?_ ?_); (focus (dsimp only; omega))))
              · repeat (first | (with_reducible exact HVR5.out) | (with_reducible refine VarsAt.drew1 ?_) | (with_reducible refine VarsAt.set ?_ HXC.out))
              · (repeat (first | (with_reducible exact HB.out) | ((with_reducible refine bS ?_ ?_); (focus (dsimp only; omega))) | (with_reducible refine bD ?_) | ((with_reducible refine bB HB1.out ?_ ?_); (focus (first | omega | (simp; done) | (simp; omega)))) | ((with_reducible refine bA ?_ ?_); (focus (first | omega | (simp; done) | (simp; omega))))))
            case measure => simp [intOf]
        · have HX := Lib.hid hx
          have HTL := Lib.hid htl
          have HTR := Lib.hid htr
          clear hx htl htr
          go_wp2_with fail
          go_ret
          exact ⟨w2.heap.size, rfl, ⟨by omega, by rw [HFV.out]; exact trip0 HX.out, bl, br, trip1 HX.out, trip2 HX.out, HTL.out.mono (by omega), HTR.out.mono (by omega)⟩, HB.out⟩

end Go.Proofs.YthdcjldmafhcjaaDoor
