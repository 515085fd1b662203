/-
  Chapter 9: MeetingOf of the model and of the program: true for every table.
-/
import Derived.Test.YtbgjiblfnljigaaCerN
import Derived.Test.YtbgjiblfnljigaaCerQ
import Derived.Deep.RegionHeld3
import Derived.BigQuiet
namespace Go.Proofs.Ytbgjiblfnljigaa
open Go.RowKit Plain
set_option linter.unusedVariables false
attribute [local go_sem ↓] Go.wp_at_zero Go.wp_at_succ

theorem Meet.model_no (n a : Int) (ht : isT n a = false) (w : World) :
    Calls Try.prog 49 #[.agg #[.int .i64 n, .int .i64 a]] w fun e w' => e = .returned (.bool false) ∧ Below w.heap.size w w' := by
  have H := Lib.hid ht
  clear ht
  go_enter Try.func49, Try.ntmps49
  go_wp2
  refine wp_loop_rounds 1 ?_
  rw [rounds_succ]
  go_wp2_with fail
  refine (Tab.model _ _ _).mono ?_
  rintro e w1 ⟨rfl, hb1⟩
  obtain ⟨c0, c1, f0, f1⟩ := cells2 (blockC hb1 (heap_alloc_new w _))
  have hz : w.heap.size < w1.heap.size := by have := hb1.size; simp at this; omega
  rw [H.out]
  go_wp2_with fail
  refine (Tab.model _ _ _).mono ?_
  rintro e w2 ⟨rfl, hb2⟩
  rw [H.out]
  go_wp2
  go_ret
  exact ⟨rfl, bB hb2 (by omega) (bB hb1 (by simp) (bA (Nat.le_refl _) (Below.refl _ _)))⟩

set_option maxRecDepth 100000 in
set_option maxHeartbeats 2000000 in
theorem Meet.model_yes (n a : Nat) (hn : n ≤ 5) (ht : isT n a = true) (ha : (a : Int) ≤ 4294967295) (w : World) :
    Calls Try.prog 49 #[.agg #[.int .i64 n, .int .i64 a]] w fun e w' => e = .returned (.bool true) ∧ Below w.heap.size w w' := by
  have H := Lib.hid ht
  have HN := Lib.hid hn
  obtain ⟨hp1, hp2⟩ := two_pow_int n hn
  have hn5 : (n : Int) ≤ 5 := by omega
  have HLS := Lib.hid (fun (x : Nat) (hx : (x : Int) < 2 ^ n) => L9Set.any n a x hn ha hx)
  clear ht hn
  go_enter Try.func49, Try.ntmps49
  go_wp2
  go_loopw [3] (fun i wr => ∃ x : Nat, i = .int .i64 (x : Int) ∧ (x : Int) ≤ 2 ^ n ∧ wr.heap[w.heap.size]? = some (.cells #[.int .i64 n, .int .i64 a] 25 (0, 0)) ∧ Below w.heap.size w wr) (fun i _ => 32 - (intOf i).toNat)
  case atStart => exact ⟨0, rfl, by omega, heap_alloc_new w _, bA (Nat.le_refl _) (Below.refl _ _)⟩
  case round =>
    obtain ⟨x, rfl, hx, hblk, hbel⟩ := hrel
    obtain ⟨c0, c1, f0, f1⟩ := cells2 hblk
    have HBLK := Lib.hid hblk
    have HBEL := Lib.hid hbel
    have hlz : w.heap.size < wr.heap.size := lt_of_block hblk
    clear hblk hbel
    go_wp2_with fail
    refine (Tab.model _ _ _).mono ?_
    rintro e w1 ⟨rfl, hb1⟩
    have X1 := blockC hb1 HBLK.out
    have HX1 := Lib.hid X1
    have HB1 := Lib.hid (bB hb1 (by omega) HBEL.out)
    have hz1 : w.heap.size < w1.heap.size := lt_of_block X1
    clear c0 c1 f0 f1 hb1
    obtain ⟨c0, c1, f0, f1⟩ := cells2 X1
    clear X1
    rw [H.out]
    by_cases hlt : (x : Int) < 2 ^ n
    · have HXL := Lib.hid hlt
      go_wp2_with fail
      clear c0 c1 f0 f1
      obtain ⟨Y, rfl⟩ : ∃ Y, Y = wr := ⟨wr, rfl⟩
      go_loopw [4] (fun j wr => ∃ y : Nat, j = .int .i64 (y : Int) ∧ (y : Int) ≤ 2 ^ n ∧ wr.heap[w.heap.size]? = some (.cells #[.int .i64 n, .int .i64 a] 25 (0, 0)) ∧ Below w.heap.size w wr) (fun j _ => 32 - (intOf j).toNat)
      case atStart => exact ⟨0, rfl, by omega, HX1.out, HB1.out⟩
      case round =>
        obtain ⟨y, rfl, hy, hblk, hbel⟩ := hrel
        obtain ⟨c0, c1, f0, f1⟩ := cells2 hblk
        have HX := Lib.hid hblk
        have HB := Lib.hid hbel
        have hlz2 : w.heap.size < wr.heap.size := lt_of_block hblk
        clear hblk hbel
        by_cases hlt2 : (y : Int) < 2 ^ n
        · have hbx := bit_i64 a x (by omega)
          have hby := bit_i64 a y (by omega)
          by_cases he : bitN a x = bitN a y
          · rw [he] at hbx
            clear he
            go_wp2_with fail
            go_quiet (fail)
            all_goals
              go_wp2
              go_roundw
              case rel => exact ⟨y + 1, by go_num, by omega, HX.out, below_drewN HB.out _⟩
              case measure => simp [intOf]; omega
          · have hm := sets_meet (n := n) (pow_nat.1 hlt) (pow_nat.1 hlt2) he
            have h32 := two_pow_le n HN.out
            have s1 := setN_lt n a x
            have s2 := setN_lt n a y
            have hne : (((bitN a x : Nat) : Int) != ((bitN a y : Nat) : Int)) = true := by simpa using (by omega : ¬ ((bitN a x : Nat) : Int) = ((bitN a y : Nat) : Int))
            have hand1 := and64 (setN n a x) (setN n a y) (by omega) (by omega)
            have l1 : (setN n a x &&& setN n a y) ≤ setN n a x := Nat.and_le_left
            have hxor := xor64 x y (by omega) (by omega)
            have l2 : x ^^^ y < 2 ^ n := Nat.xor_lt_two_pow (pow_nat.1 hlt) (pow_nat.1 hlt2)
            have hand2 := and64 (setN n a x &&& setN n a y) (x ^^^ y) (by omega) (by omega)
            have HSX := Lib.hid (HLS.out x hlt)
            have HSY := Lib.hid (HLS.out y hlt2)
            have hz : ((((setN n a x &&& setN n a y) &&& (x ^^^ y) : Nat) : Int) == 0) = false := by rw [beq_eq_false_iff_ne]; omega
            generalize (setN n a x &&& setN n a y) &&& (x ^^^ y) = q3 at *
            generalize setN n a x &&& setN n a y = q2 at *
            generalize x ^^^ y = q1 at *
            generalize setN n a x = sx at *
            generalize setN n a y = sy at *
            generalize bitN a x = bx at *
            generalize bitN a y = by' at *
            clear hm he l1 l2 s1 s2 h32
            go_wp2_with fail
            go_region_held3 (fun w' => w'.cell? ⟨w.heap.size, 0, none⟩ = some (.int .i64 n) ∧ w'.cell? ⟨w.heap.size, 1, none⟩ = some (.int .i64 a)) ((first | (go_split_ands; (try dsimp only); (refine ⟨?_, ?_⟩ <;> (repeat (first | with_reducible assumption | ((with_reducible refine keepU ?_); (with_reducible assumption)) | (with_reducible refine keepD ?_) | (with_reducible refine keepB hb ?_) | (with_reducible refine keepB hb' ?_)))); done) | go_keep))
              (first
                | (with_reducible refine (HSX.out _).mono ?_; rintro e w14 ⟨rfl, hb⟩; obtain ⟨hc, hf⟩ := bcell hb; have hs := hb.size; try simp only [World.size_drew] at hs)
                | (with_reducible refine (HSY.out _).mono ?_; rintro e w15 ⟨rfl, hb'⟩; obtain ⟨hc', hf'⟩ := bcell hb'; have hs' := hb'.size; try simp only [World.size_drew] at hs'))
            all_goals
              go_wp2
              go_roundw
              case rel =>
                refine ⟨y + 1, by go_num, by omega, ?_, ?_⟩
                · repeat (first | (exact HX.out) | (refine blockC hb ?_) | (refine blockC hb' ?_))
                · repeat (first | (with_reducible exact HB.out) | (with_reducible refine bD ?_) | ((with_reducible refine bB hb ?_ ?_); (focus (first | omega | (simp; done) | (simp; omega)))) | ((with_reducible refine bB hb' ?_ ?_); (focus (first | omega | (simp; done) | (simp; omega)))))
              case measure => simp [intOf]; omega
        · go_wp2
          go_roundw
          case rel => exact ⟨x + 1, by go_num, by have := HXL.out; omega, HX.out, HB.out⟩
          case measure => simp [intOf]; have := HXL.out; omega
    · go_wp2_with fail
      refine (Tab.model _ _ _).mono ?_
      rintro e w2 ⟨rfl, hb2⟩
      rw [H.out]
      go_wp2
      go_ret
      exact ⟨rfl, bB hb2 (by omega) HB1.out⟩

/-- MeetingOf of the model. -/
theorem Meet.model (n a : Int) (w : World) :
    Calls Try.prog 49 #[.agg #[.int .i64 n, .int .i64 a]] w fun e w' => e = .returned (.bool (isT n a)) ∧ Below w.heap.size w w' := by
  cases ht : isT n a with
  | false => exact Meet.model_no n a ht w
  | true =>
    obtain ⟨n, a, rfl, rfl, hn, ha⟩ := isT_nat ht
    exact Meet.model_yes n a hn ht (by have := fullN_le n hn; omega) w

theorem Meet.impl_no (n a : Int) (h64 : -9223372036854775808 ≤ a ∧ a ≤ 9223372036854775807) (ht : isT n a = false) (w : World) :
    Calls Try.prog 38 #[.agg #[.int .i64 n, .int .i64 a]] w fun e w' => e = .returned (.bool false) ∧ Below w.heap.size w w' := by
  have H := Lib.hid ht
  have HB := Lib.hid h64
  clear ht h64
  go_enter Try.func38, Try.ntmps38
  go_wp2_with fail
  refine (Tab.impl _ _ HB.out _).mono ?_
  rintro e w1 ⟨rfl, hb1⟩
  rw [H.out]
  go_wp2
  go_ret
  exact ⟨rfl, bB hb1 (by simp) (bA (Nat.le_refl _) (Below.refl _ _))⟩

set_option maxRecDepth 100000 in
set_option maxHeartbeats 2000000 in
theorem Meet.impl_yes (n a : Nat) (hn : n ≤ 5) (ht : isT n a = true) (ha : (a : Int) ≤ 4294967295) (w : World) :
    Calls Try.prog 38 #[.agg #[.int .i64 n, .int .i64 a]] w fun e w' => e = .returned (.bool true) ∧ Below w.heap.size w w' := by
  have H := Lib.hid ht
  have HN := Lib.hid hn
  obtain ⟨i0, hi, hz0, hz1, hz2⟩ := info_parts Try.infoInt
  have h32 := two_pow_le n hn
  have hpos := Nat.two_pow_pos n
  have HC0 := Tab.count n hn
  have HC := Lib.hid HC0
  have HCS0 : ∀ x : Nat, x < 2 ^ n → ∀ w, Calls Try.prog 31 #[.agg #[.int .i64 n, .int .i64 a], .int .i64 x] w fun e w' => e = .returned (.tuple #[.int .i64 (setN n a x : Int), .bool true]) ∧ Below w.heap.size w w' := by
    intro x hx w
    have h := CerS.impl n a x (by omega) w
    rwa [setT_yes ht (pow_nat.2 hx)] at h
  have HSL : Hid (∀ k, k ≤ 2 ^ n → (setsL n a k).length = 2 ^ n) := Lib.hid fun k hk => setsL_len hk
  have HSS : Hid (∀ k, k < 2 ^ n → (setsL n a k).set k (setN n a k : Int) = setsL n a (k + 1)) := Lib.hid fun k hk => setsL_set hk
  have HSA : Hid (∀ x, x < 2 ^ n → (setsL n a (2 ^ n)).getD x 0 = (setN n a x : Int)) := Lib.hid fun x hx => setsL_at hx
  have HS0 : Hid (setsL n a 0 = List.replicate (2 ^ n) 0) := Lib.hid rfl
  have HLT : Hid (∀ x, setN n a x < 2 ^ n) := Lib.hid fun x => setN_lt n a x
  have HMT : Hid (∀ x y, x < 2 ^ n → y < 2 ^ n → bitN a x ≠ bitN a y → setN n a x &&& setN n a y &&& (x ^^^ y) ≠ 0) := Lib.hid fun x y hx hy hne => sets_meet hx hy hne
  have HXL : Hid (∀ x y, x < 2 ^ n → y < 2 ^ n → x ^^^ y < 2 ^ n) := Lib.hid fun x y hx hy => Nat.xor_lt_two_pow hx hy
  have HCS := Lib.hid HCS0
  generalize 2 ^ n = N at *
  clear ht hn HCS0 HC0
  go_enter Try.func38, Try.ntmps38
  go_wp2_with fail
  refine (Tab.impl _ _ (by omega) _).mono ?_
  rintro e w1 ⟨rfl, hb1⟩
  obtain ⟨c0, c1, f0, f1⟩ := cells2 (blockC hb1 (heap_alloc_new w _))
  have HB1 : Hid (Below (w.heap.size + 1) (w.alloc (.cells #[.int .i64 n, .int .i64 a] 25)) w1) := Lib.hid (by simpa using hb1)
  have hs1 : w.heap.size + 1 ≤ w1.heap.size := by simpa using hb1.size
  clear hb1
  rw [H.out]
  go_wp2_with fail
  refine (HC.out _).mono ?_
  rintro e w2 ⟨rfl, rfl⟩
  go_wp2_with (at_make; go_must (refine wpList_make_full _ rfl _ _ 32 rfl (w.heap.size + 1) 3 i0 (.int .i64 0) 1 Try.underlying32 hi hz0 hz1 _ _ _ _ N rfl rfl rfl rfl (by rw [hz2]; omega) (by unfold maxLen; omega) hs1 ?_; intro w3 hown hgrow))
  have HROW0 := Lib.hid (HS0.out ▸ IntRow.made hown)
  have HB3 := Lib.hid (HB1.out.grown hgrow hs1 (fun _ h => by cases h))
  have hs3 : w.heap.size + 1 ≤ w3.heap.size := Nat.le_trans hs1 hgrow.size
  clear hown hgrow hi hz0 hz1 hz2 c0 c1 f0 f1
  obtain ⟨g, hg⟩ : ∃ g, w1.heap.size = g := ⟨_, rfl⟩
  rw [hg] at HROW0 ⊢
  go_wp2_with fail
  go_loopw [4, 17] (fun _ i wr => ∃ k : Nat, i = .int .i64 (k : Int) ∧ k ≤ N ∧ IntRow wr (w.heap.size + 1) (.slice (some ⟨g, 0, none⟩) N N) (setsL n a k) ∧ Below (w.heap.size + 1) (w.alloc (.cells #[.int .i64 n, .int .i64 a] 25)) wr ∧ w.heap.size + 1 ≤ wr.heap.size) (fun _ i _ => 32 - (intOf i).toNat)
  case atStart => exact ⟨0, rfl, by omega, HROW0.out, HB3.out, hs3⟩
  case round =>
    obtain ⟨k, rfl, hk, hrow, hbel, hsz⟩ := hrel
    have c0 : wr.cell? ⟨w.heap.size, 0, none⟩ = some (.int .i64 n) := (hbel.cell (by dsimp only; omega)).trans (keepN rfl rfl)
    have c1 : wr.cell? ⟨w.heap.size, 1, none⟩ = some (.int .i64 a) := (hbel.cell (by dsimp only; omega)).trans (keepN rfl rfl)
    have HROW := Lib.hid hrow
    have HBEL := Lib.hid hbel
    clear hrow hbel
    by_cases hlt : k < N
    · have hlz : (k : Int) < (N : Int) := by omega
      have hlen := HSL.out k hk
      go_wp2_with fail
      refine (HCS.out k hlt _).mono ?_
      rintro e w4 ⟨rfl, hb4⟩
      have hrow4 := HROW.out.below hb4
      have HB4 := Lib.hid (HBEL.out.trans (hb4.mono hsz))
      have hsz4 := hb4.size
      have hgl := (hrow4.lt g rfl)
      have hst := hrow4.store hlen k (setN n a k : Int)
      rw [HSS.out k hlt] at hst
      have HST := Lib.hid hst.1
      have hcell := IntRow.cell (w := w4) (B := w.heap.size + 1) (g := g) (cap := N) (l := setsL n a k) (by rw [hlen]; exact hrow4) k (by rw [hlen]; exact hlt)
      have hfree := IntRow.free (w := w4) (B := w.heap.size + 1) (g := g) (cap := N) (l := setsL n a k) (by rw [hlen]; exact hrow4) k
      generalize (setsL n a k).getD k 0 = old at hcell
      have HGL : Hid (w.heap.size + 1 ≤ g) := Lib.hid hgl.1
      clear hst hrow4 hlen hb4 hgl
      go_wp2_with fail
      go_roundw
      case rel => exact ⟨k + 1, by go_num, by omega, HST.out, bS HGL.out HB4.out, by simpa using (by omega : w.heap.size + 1 ≤ w4.heap.size)⟩
      case measure => simp [intOf]; omega
    · obtain rfl : k = N := by omega
      have hlen := HSL.out k (Nat.le_refl _)
      have HRW : Hid (∀ x, x < k → wr.cell? ⟨g, x, none⟩ = some (.int .i64 (setN n a x : Int))) := Lib.hid (by
        intro x hx
        have h := IntRow.cell (w := wr) (B := w.heap.size + 1) (g := g) (cap := k) (l := setsL n a k) (by rw [hlen]; exact HROW.out) x (by rw [hlen]; exact hx)
        rw [HSA.out x hx] at h
        exact h)
      have HB5 : Hid (Below w.heap.size w wr) := Lib.hid (((Below.refl _ _).alloc (Nat.le_refl _) _).trans (HBEL.out.mono (by omega)))
      obtain ⟨Z, rfl⟩ : ∃ Y, Y = wr := ⟨wr, rfl⟩
      clear hlen
      go_wp2_with fail
      go_loopw [6, 35] (fun _ i wr => ∃ x : Nat, i = .int .i64 (x : Int) ∧ x ≤ k ∧ (∀ x, x < k → wr.cell? ⟨g, x, none⟩ = some (.int .i64 (setN n a x : Int))) ∧ Below w.heap.size w wr) (fun _ i _ => 32 - (intOf i).toNat)
      case atStart => exact ⟨0, rfl, by omega, HRW.out, HB5.out⟩
      case round =>
        obtain ⟨x, rfl, hx, hcs, hbl⟩ := hrel
        have HCL := Lib.hid hcs
        have HBL := Lib.hid hbl
        clear hcs hbl
        by_cases hlt1 : x < k
        · have hlz1 : (x : Int) < (k : Int) := by omega
          have HX1 := Lib.hid hlt1
          obtain ⟨Z2, rfl⟩ : ∃ Y, Y = wr := ⟨wr, rfl⟩
          go_wp2_with fail
          go_loopw [7, 39] (fun _ i wr => ∃ y : Nat, i = .int .i64 (y : Int) ∧ y ≤ x ∧ (∀ x, x < k → wr.cell? ⟨g, x, none⟩ = some (.int .i64 (setN n a x : Int))) ∧ Below w.heap.size w wr) (fun _ i _ => 32 - (intOf i).toNat)
          case atStart => exact ⟨0, rfl, by omega, HCL.out, HBL.out⟩
          case round =>
            obtain ⟨y, rfl, hy, hcs, hbl⟩ := hrel
            have HC2 := Lib.hid hcs
            have HB2 := Lib.hid hbl
            clear hcs hbl
            by_cases hlt2 : y < x
            · have hlz2 : (y : Int) < (x : Int) := by omega
              have hyk : (y : Int) < (k : Int) := by omega
              have HAX := Lib.hid (Tab.at a x (by omega) (by omega))
              have HAY := Lib.hid (Tab.at a y (by omega) (by omega))
              have kx := HC2.out x (by omega)
              have ky := HC2.out y (by omega)
              by_cases he : bitN a x = bitN a y
              · rw [he] at HAX
                generalize bitN a y = b at *
                clear he
                go_wp2_with fail
                go_quiet ((first | (with_reducible exact quiet_eq (HAX.out _)) | (with_reducible exact quiet_eq (HAY.out _))))
                all_goals
                  go_wp2
                  go_roundw
                  case rel => exact ⟨y + 1, by go_num, by omega, HC2.out, below_drewN HB2.out _⟩
                  case measure => simp [intOf]; omega
              · have hm := HMT.out x y (by omega) (by omega) he
                have s1 := HLT.out x
                have s2 := HLT.out y
                have hne : (((bitN a x : Nat) : Int) != ((bitN a y : Nat) : Int)) = true := by simpa using (by omega : ¬ ((bitN a x : Nat) : Int) = ((bitN a y : Nat) : Int))
                have hand1 := and64 (setN n a x) (setN n a y) (by omega) (by omega)
                have l1 : (setN n a x &&& setN n a y) ≤ setN n a x := Nat.and_le_left
                have hxor := xor64 x y (by omega) (by omega)
                have l2 := HXL.out x y (by omega) (by omega)
                have hand2 := and64 (setN n a x &&& setN n a y) (x ^^^ y) (by omega) (by omega)
                have hz : ((((setN n a x &&& setN n a y) &&& (x ^^^ y) : Nat) : Int) == 0) = false := by rw [beq_eq_false_iff_ne]; omega
                generalize (setN n a x &&& setN n a y) &&& (x ^^^ y) = q3 at *
                generalize setN n a x &&& setN n a y = q2 at *
                generalize x ^^^ y = q1 at *
                generalize setN n a x = sx at *
                generalize setN n a y = sy at *
                generalize bitN a x = bx at *
                generalize bitN a y = by' at *
                clear hm he l1 l2 s1 s2
                go_wp2_with fail
                go_quiet ((first | (with_reducible exact quiet_eq (HAX.out _)) | (with_reducible exact quiet_eq (HAY.out _))))
                all_goals
                  go_wp2
                  go_roundw
                  case rel => exact ⟨y + 1, by go_num, by omega, HC2.out, below_drewN HB2.out _⟩
                  case measure => simp [intOf]; omega
            · go_wp2
              go_roundw
              case rel => exact ⟨x + 1, by go_num, by have := HX1.out; omega, HC2.out, HB2.out⟩
              case measure => simp [intOf]; have := HX1.out; omega
        · go_wp2
          go_ret
          exact ⟨rfl, HBL.out⟩

/-- MeetingOf of the program. -/
theorem Meet.impl (n a : Int) (h64 : -9223372036854775808 ≤ a ∧ a ≤ 9223372036854775807) (w : World) :
    Calls Try.prog 38 #[.agg #[.int .i64 n, .int .i64 a]] w fun e w' => e = .returned (.bool (isT n a)) ∧ Below w.heap.size w w' := by
  cases ht : isT n a with
  | false => exact Meet.impl_no n a h64 ht w
  | true =>
    obtain ⟨n, a, rfl, rfl, hn, ha⟩ := isT_nat ht
    exact Meet.impl_yes n a hn ht (by have := fullN_le n hn; omega) w

end Go.Proofs.Ytbgjiblfnljigaa
