/-
  Chapter 10, the model: l10Blocks, MinimalBlocks, IsSensitiveBlock, SensitivityAt.
-/
import Derived.Test.YtbgjiblfnljigaaSenM
namespace Go.Proofs.Ytbgjiblfnljigaa
open Go.RowKit Plain
set_option linter.unusedVariables false

set_option maxRecDepth 100000 in
set_option maxHeartbeats 2000000 in
/-- l10Blocks. -/
theorem L10B.any (n a x : Nat) (hn : n ≤ 5) (ha : (a : Int) ≤ 4294967295) (hx : (x : Int) < 2 ^ n) (w : World) :
    Calls Try.prog 59 #[.agg #[.int .i64 n, .int .i64 a], .int .i64 x] w fun e w' => ∃ v, e = .returned v ∧ IntRow w' w.heap.size v (natI (blkL a x (2 ^ n))) ∧ Below w.heap.size w w' := by
  have HN := Lib.hid hn
  have HA := Lib.hid ha
  have HX := Lib.hid hx
  have hn5 : (n : Int) ≤ 5 := by omega
  obtain ⟨hp1, hp2⟩ := two_pow_int n hn
  have hx32 : (x : Int) ≤ 31 := by omega
  have h1n : Hid ((1 : Int) ≤ 2 ^ n) := Lib.hid hp1
  have hr := World.ownsRow_lit (e := 3) (size := 1) (base := w.heap.size + 1) (w.alloc (.cells #[.int .i64 n, .int .i64 a] 25)) #[] 0 (by simp) (by unfold maxLen; omega) rfl
  have HR : Hid (IntRow ((w.alloc (.cells #[.int .i64 n, .int .i64 a] 25)).alloc (.cells #[] 3)) (w.heap.size + 1) (.slice (some ⟨w.heap.size + 1, 0, none⟩) 0 0) (natI (blkL a x 1))) := Lib.hid (by rw [blkL_one]; simpa [IntRow, intsV, natI] using hr)
  clear hn hx hr
  go_enter Try.func59, Try.ntmps59
  go_wp2_with fail
  go_loopw [5, 6] (fun s i wr => ∃ (k : Nat), i = .int .i64 (k : Int) ∧ (k : Int) ≤ 2 ^ n ∧ IntRow wr (w.heap.size + 1) s (natI (blkL a x k)) ∧ Below (w.heap.size + 1) (w.alloc (.cells #[.int .i64 n, .int .i64 a] 25)) wr ∧ w.heap.size + 1 ≤ wr.heap.size) (fun _ i _ => 32 - (intOf i).toNat)
  case atStart => exact ⟨1, rfl, h1n.out, HR.out, (Below.refl _ _).alloc (by simp) _, by simp⟩
  case round =>
    obtain ⟨k, rfl, hk, hrow, hbel, hsz⟩ := hrel
    have c0 : wr.cell? ⟨w.heap.size, 0, none⟩ = some (.int .i64 n) := (hbel.cell (by dsimp only; omega)).trans (keepN rfl rfl)
    have c1 : wr.cell? ⟨w.heap.size, 1, none⟩ = some (.int .i64 a) := (hbel.cell (by dsimp only; omega)).trans (keepN rfl rfl)
    have HROW := Lib.hid hrow
    have HBEL := Lib.hid hbel
    have HNT := Lib.hid (NtIn.of_row hrow)
    have hszl : w.heap.size < wr.heap.size := by omega
    clear hrow hbel
    by_cases hlt : (k : Int) < 2 ^ n
    · have hvl := blkL_len a x k
      have HML := Lib.hid (blkL_mem (a := a) (x := x) k)
      have hbx := bit_i64 a x (by omega)
      have hxor := xor64 x k (by omega) (by omega)
      have hyl : x ^^^ k < 2 ^ 5 := Nat.xor_lt_two_pow (by omega) (by omega)
      have hy32 : ((x ^^^ k : Nat) : Int) ≤ 31 := by omega
      have hby := bit_i64 a (x ^^^ k) (by omega)
      cases hd : senB a x k with
      | false =>
        have HV := Lib.hid (blkL_no1 hd)
        have he : (((bitN a x : Nat) : Int) == ((bitN a (x ^^^ k) : Nat) : Int)) = true := by
          have h : (bitN a x != bitN a (x ^^^ k)) = false := hd
          rw [bne_eq_false_iff_eq] at h
          rw [h]; simp
        generalize bitN a (x ^^^ k) = b2 at *
        generalize bitN a x = b1 at *
        generalize x ^^^ k = y at *
        clear hd hyl
        go_wp2_with fail
        go_quiet (fail)
        go_wp2_with fail
        go_roundw
        case rel => exact ⟨k + 1, by go_num, by omega, by rw [HV.out]; exact HROW.out.below (below_drewN (Below.refl _ _) _), below_drewN HBEL.out _, by simpa using hsz⟩
        case measure => simp [intOf] <;> omega
      | true =>
        have HD := Lib.hid hd
        have he : (((bitN a x : Nat) : Int) == ((bitN a (x ^^^ k) : Nat) : Int)) = false := by
          have h : (bitN a x != bitN a (x ^^^ k)) = true := hd
          rw [bne_iff_ne] at h
          rw [beq_eq_false_iff_ne]; omega
        generalize bitN a (x ^^^ k) = b2 at *
        generalize bitN a x = b1 at *
        generalize x ^^^ k = y at *
        clear hd hyl
        go_wp2_with fail
        go_quiet (fail)
        go_wp2_with fail
        obtain ⟨Y, rfl⟩ : ∃ Y, Y = wr := ⟨wr, rfl⟩
        generalize hL : blkL a x k = L at *
        have HL := Lib.hid hL
        obtain ⟨ad, cap, hs, hcap, hcap2, hrd⟩ := HNT.out
        subst hs
        have HRD := Lib.hid hrd
        have hlz : (L.length : Int) ≤ 32 := by omega
        clear hL hrd hbx hby hxor he
        go_loopw [7, 8] (fun c i wr => ∃ (j m : Nat) (q : Bool), i = .int .i64 (j : Int) ∧ c = .bool q ∧ j ≤ L.length ∧ (q = true ↔ ∀ p ∈ L.take j, p &&& k ≠ p) ∧ wr = Y.drewN m) (fun _ i _ => L.length - (intOf i).toNat)
        case atStart => exact ⟨0, _, true, rfl, rfl, by omega, ⟨fun _ p hp => absurd hp (by simp), fun _ => rfl⟩, rfl⟩
        case round =>
          obtain ⟨j, m, q, rfl, rfl, hj, hno, rfl⟩ := hrel
          have HNO := Lib.hid hno
          clear hno
          by_cases hjl : j < L.length
          · obtain ⟨b, off, rfl, hbw, hcl⟩ := HRD.out (by omega)
            have ck := hcl j hjl
            have hjz : (j : Int) < (L.length : Int) := by omega
            have hmem := HML.out _ (getD_memN hjl)
            have hpk : L.getD j 0 < k := hmem.1
            have hand := and64 (L.getD j 0) k (by omega) (by omega)
            cases q with
            | false =>
              have HNN : Hid (false = true ↔ ∀ p ∈ L.take (j + 1), p &&& k ≠ p) := Lib.hid ⟨fun h => absurd h (by decide), fun h => HNO.out.2 fun p hp => h p (by
                rw [List.take_add_one]; exact List.mem_append.2 (.inl hp))⟩
              generalize L.getD j 0 &&& k = z at *
              generalize L.getD j 0 = p at *
              clear hcl hjl hmem hpk
              go_wp2_with fail
              go_quiet (fail)
              go_wp2_with fail
              go_roundw
              case rel => exact ⟨j + 1, _, _, by go_num, rfl, by omega, HNN.out, rfl⟩
              case measure => simp [intOf] <;> omega
            | true =>
              by_cases hc : L.getD j 0 &&& k = L.getD j 0
              · have HNN : Hid (false = true ↔ ∀ p ∈ L.take (j + 1), p &&& k ≠ p) := Lib.hid ⟨fun h => absurd h (by decide), fun h => absurd hc (h _ (by
                  rw [List.take_add_one, List.getD_eq_getElem?_getD, List.getElem?_eq_getElem hjl]; exact List.mem_append.2 (.inr (by simp))))⟩
                rw [hc] at hand
                have hne : (((L.getD j 0 : Nat) : Int) != ((L.getD j 0 : Nat) : Int)) = false := by simp
                generalize L.getD j 0 = p at *
                clear hcl hjl hmem hpk hc
                go_wp2_with fail
                go_quiet (fail)
                go_wp2_with fail
                go_roundw
                case rel => exact ⟨j + 1, _, _, by go_num, rfl, by omega, HNN.out, rfl⟩
                case measure => simp [intOf] <;> omega
              · have HNN : Hid (∀ p ∈ L.take (j + 1), p &&& k ≠ p) := Lib.hid (part_next hjl (HNO.out.1 rfl) hc)
                have hne : (((L.getD j 0 &&& k : Nat) : Int) != ((L.getD j 0 : Nat) : Int)) = true := by rw [bne_iff_ne]; omega
                generalize L.getD j 0 &&& k = z at *
                generalize L.getD j 0 = p at *
                clear hcl hjl hmem hpk hc
                go_wp2_with fail
                go_quiet (fail)
                go_wp2_with fail
                go_roundw
                case rel => exact ⟨j + 1, _, _, by go_num, rfl, by omega, ⟨fun _ => HNN.out, fun _ => rfl⟩, rfl⟩
                case measure => simp [intOf] <;> omega
          · obtain rfl : j = L.length := by omega
            have HR2 := Lib.hid (HROW.out.below (below_drewN (Below.refl _ _) m))
            have HB2 := Lib.hid (below_drewN HBEL.out m)
            have HSZ : Hid (w.heap.size + 1 ≤ (Y.drewN m).heap.size) := Lib.hid (by simpa using hsz)
            cases q with
            | false =>
              have HV : Hid (blkL a x (k + 1) = L) := Lib.hid (by
                have h := HNO.out
                rw [List.take_length] at h
                have h2 : ¬ ∀ p ∈ L, p &&& k ≠ p := fun q => absurd (h.2 q) (by decide)
                show (if _ then _ else _) = _
                rw [if_neg (by rw [HL.out]; exact fun q => h2 q.2), HL.out])
              go_wp2_with fail
              go_roundw
              case rel => exact ⟨k + 1, by go_num, by omega, by rw [HV.out]; exact HR2.out, HB2.out, HSZ.out⟩
              case measure => simp [intOf] <;> omega
            | true =>
              have HV : Hid (blkL a x (k + 1) = L ++ [k]) := Lib.hid (by
                have h := HNO.out.1 rfl
                rw [List.take_length] at h
                have h2 := blkL_yes HD.out (by rw [HL.out]; exact h)
                rwa [HL.out] at h2)
              have HLI : Hid (natI (L ++ [k]) = natI L ++ [(k : Int)]) := Lib.hid (natI_snoc L k)
              have HLL : Hid ((natI L).length ≤ 10000000) := Lib.hid (by rw [natI_len]; omega)
              go_wp2_with (at_builtin; go_must (refine wp_int rfl _ _ rfl (w.heap.size + 1) _ (Y.drewN m) _ _ (k : Int) _ HR2.out HB2.out HSZ.out HLL.out rfl rfl rfl ?_; intro v1 w4 k1 k2 k3))
              have hsz4 := k3.size
              go_roundw
              case rel => exact ⟨k + 1, by go_num, by omega, by rw [HV.out, HLI.out]; exact k1, k2, by have := HSZ.out; omega⟩
              case measure => simp [intOf] <;> omega
    · have he : k = 2 ^ n := by rw [up2] at hk hlt; omega
      have HE : Hid (blkL a x k = blkL a x (2 ^ n)) := Lib.hid (by rw [he])
      clear he
      go_wp2
      go_ret
      exact ⟨_, rfl, HE.out ▸ HROW.out.base (by omega), ((Below.refl _ _).alloc (Nat.le_refl _) _).trans (HBEL.out.mono (by omega))⟩

theorem mblT_ok (n a x : Int) : (mblT n a x).length ≤ 32 ∧ ∀ y ∈ mblT n a x, -9223372036854775808 ≤ y ∧ y ≤ 9223372036854775807 := by
  by_cases h : setOk n a x
  · obtain ⟨n, a, rfl, rfl, hn, ha⟩ := isT_nat h.1
    obtain ⟨x, rfl⟩ := Int.eq_ofNat_of_zero_le h.2.1
    have hx : (x : Int) < 2 ^ n := h.2.2
    rw [mblT_yes h.1 hx, natI_len]
    have h2 := blkL_32 hn a x
    refine ⟨h2.1, fun y hy => ?_⟩
    have := natI_mem h2.2 y hy
    omega
  · rw [mblT_no h]
    exact ⟨by decide, fun y hy => absurd hy (by simp)⟩

/-- MinimalBlocks of the model. -/
theorem MinB.model (n a x : Int) (w : World) :
    Calls Try.prog 18 #[.agg #[.int .i64 n, .int .i64 a], .int .i64 x] w (MblOut n a x w) := by
  unfold MblOut
  have HL := Lib.hid (L9In.any n a x)
  by_cases h : setOk n a x
  · obtain ⟨n, a, rfl, rfl, hn, ha⟩ := isT_nat h.1
    obtain ⟨x, rfl⟩ := Int.eq_ofNat_of_zero_le h.2.1
    have hx : (x : Int) < 2 ^ n := h.2.2
    rw [mblT_yes h.1 hx, decide_eq_true h]
    rw [decide_eq_true h] at HL
    have HS := Lib.hid (L10B.any n a x hn (by have := fullN_le n hn; omega) hx)
    generalize natI (blkL a x (2 ^ n)) = L at *
    clear h hn ha hx
    go_enter Try.func18, Try.ntmps18
    go_wp2_with fail
    refine (HL.out _).mono ?_
    rintro e w1 ⟨rfl, hb1⟩
    have X1 := blockC hb1 (heap_alloc_new w _)
    obtain ⟨c0, c1, f0, f1⟩ := cells2 X1
    have hz1 : w.heap.size < w1.heap.size := lt_of_block X1
    go_wp2_with fail
    refine (HS.out _).mono ?_
    rintro e w2 ⟨v, rfl, hrow, hb2⟩
    go_wp2
    exact bodyPost_ret (v := .tuple #[v, .bool true]) (by simp [results, Try.results18, go_sem]) rfl ⟨⟨_, rfl, hrow.base (by omega)⟩, bB hb2 (by omega) (bB hb1 (by simp) (bA (Nat.le_refl _) (Below.refl _ _)))⟩
  · rw [mblT_no h, decide_eq_false h]
    rw [decide_eq_false h] at HL
    clear h
    go_enter Try.func18, Try.ntmps18
    go_wp2_with fail
    refine (HL.out _).mono ?_
    rintro e w1 ⟨rfl, hb1⟩
    have hs1 : w.heap.size ≤ w1.heap.size := by have := hb1.size; simp at this; omega
    have hr := World.ownsRow_lit (e := 3) (size := 1) (base := w.heap.size) w1 #[] 0 hs1 (by unfold maxLen; omega) rfl
    have HR : Hid (IntRow (w1.alloc (.cells #[] 3)) w.heap.size (.slice (some ⟨w1.heap.size, 0, none⟩) 0 0) []) := Lib.hid (by simpa [IntRow, intsV] using hr)
    clear hr
    go_wp2
    exact bodyPost_ret (v := .tuple #[.slice (some ⟨w1.heap.size, 0, none⟩) 0 0, .bool false]) (by simp [results, Try.results18, go_sem]) rfl ⟨⟨_, rfl, HR.out⟩, bA hs1 (bB hb1 (by simp) (bA (Nat.le_refl _) (Below.refl _ _)))⟩

/-- SensitivityAt of the model. -/
theorem SenA.model (n a x : Int) (w : World) :
    Calls Try.prog 11 #[.agg #[.int .i64 n, .int .i64 a], .int .i64 x] w fun e w' => e = .returned (.int .i64 (senT n a x)) ∧ Below w.heap.size w w' := by
  have HL := Lib.hid (L9In.any n a x)
  by_cases h : setOk n a x
  · obtain ⟨n, a, rfl, rfl, hn, ha⟩ := isT_nat h.1
    obtain ⟨x, rfl⟩ := Int.eq_ofNat_of_zero_le h.2.1
    have hx : (x : Int) < 2 ^ n := h.2.2
    rw [senT_yes h.1 hx]
    rw [decide_eq_true h] at HL
    have HS := Lib.hid (L10At.any n a x hn (by have := fullN_le n hn; omega) hx)
    generalize senN a x n = q at *
    clear h hn ha hx
    go_enter Try.func11, Try.ntmps11
    go_wp2_with fail
    refine (HL.out _).mono ?_
    rintro e w1 ⟨rfl, hb1⟩
    have X1 := blockC hb1 (heap_alloc_new w _)
    obtain ⟨c0, c1, f0, f1⟩ := cells2 X1
    have hz1 : w.heap.size < w1.heap.size := lt_of_block X1
    go_wp2_with fail
    refine (HS.out _).mono ?_
    rintro e w2 ⟨rfl, hb2⟩
    go_wp2
    go_ret
    exact ⟨rfl, bB hb2 (by omega) (bB hb1 (by simp) (bA (Nat.le_refl _) (Below.refl _ _)))⟩
  · rw [senT_no h]
    rw [decide_eq_false h] at HL
    clear h
    go_enter Try.func11, Try.ntmps11
    go_wp2_with fail
    refine (HL.out _).mono ?_
    rintro e w1 ⟨rfl, hb1⟩
    go_wp2
    go_ret
    exact ⟨rfl, bB hb1 (by simp) (bA (Nat.le_refl _) (Below.refl _ _))⟩

/-- BlockSensitivityAt of the model. -/
theorem BsA.model (n a x : Int) (w : World) :
    Calls Try.prog 23 #[.agg #[.int .i64 n, .int .i64 a], .int .i64 x] w fun e w' => e = .returned (.int .i64 (bsaT n a x)) ∧ Below w.heap.size w w' := by
  have HL := Lib.hid (L9In.any n a x)
  by_cases h : setOk n a x
  · obtain ⟨n, a, rfl, rfl, hn, ha⟩ := isT_nat h.1
    obtain ⟨x, rfl⟩ := Int.eq_ofNat_of_zero_le h.2.1
    have hx : (x : Int) < 2 ^ n := h.2.2
    rw [bsaT_yes h.1 hx]
    rw [decide_eq_true h] at HL
    have HS := Lib.hid (L10B.any n a x hn (by have := fullN_le n hn; omega) hx)
    have HA : Hid (∀ (v : Value) (w : World), NtIn w v (blkL a x (2 ^ n)) → Calls Try.prog 61 #[v, .int .i64 0, .int .i64 0] w fun e w' => e = .returned (.int .i64 (bsN n a x : Int)) ∧ w = w') := Lib.hid fun v w h =>
      Pack.any (blkL a x (2 ^ n)) v w (blkL_32 hn a x).1 (blkL_32 hn a x).2 h 32 0 0 (by have := (blkL_32 hn a x).1; omega) (by omega) (by decide)
    have HR : Hid (∀ (w : World) (B : Nat) (v : Value), IntRow w B v (natI (blkL a x (2 ^ n))) → NtIn w v (blkL a x (2 ^ n))) := Lib.hid fun w B v h => NtIn.of_row h
    generalize bsN n a x = q at *
    generalize blkL a x (2 ^ n) = L at *
    clear h hn ha hx
    go_enter Try.func23, Try.ntmps23
    go_wp2_with fail
    refine (HL.out _).mono ?_
    rintro e w1 ⟨rfl, hb1⟩
    have X1 := blockC hb1 (heap_alloc_new w _)
    obtain ⟨c0, c1, f0, f1⟩ := cells2 X1
    have hz1 : w.heap.size < w1.heap.size := lt_of_block X1
    go_wp2_with fail
    refine (HS.out _).mono ?_
    rintro e w2 ⟨v, rfl, hrow, hb2⟩
    have HNT := Lib.hid (HR.out _ _ _ hrow)
    clear hrow
    go_wp2_with fail
    refine (HA.out _ _ HNT.out).mono ?_
    rintro e w3 ⟨rfl, rfl⟩
    go_wp2
    go_ret
    exact ⟨rfl, bB hb2 (by omega) (bB hb1 (by simp) (bA (Nat.le_refl _) (Below.refl _ _)))⟩
  · rw [bsaT_no h]
    rw [decide_eq_false h] at HL
    clear h
    go_enter Try.func23, Try.ntmps23
    go_wp2_with fail
    refine (HL.out _).mono ?_
    rintro e w1 ⟨rfl, hb1⟩
    go_wp2
    go_ret
    exact ⟨rfl, bB hb1 (by simp) (bA (Nat.le_refl _) (Below.refl _ _))⟩

end Go.Proofs.Ytbgjiblfnljigaa
