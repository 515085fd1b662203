/-
  The twin's contract: AutocorrelationOf, one sum after the other.
-/
import Derived.Test.YtechkghnmgimbaaTwA
import Derived.Test.YtechkghnmgimbaaAutP
namespace Go.Proofs.Ytechkghnmgimbaa.Q
open Go.RowKit Go.Proofs.Ytechkghnmgimbaa.Plain Go.Proofs.Ytechkghnmgimbaa.Q.Plain
set_option linter.unusedVariables false
set_option linter.unusedSimpArgs false
attribute [local go_sem ↓] Go.wp_at_zero Go.wp_at_succ

attribute [local go_sem] undef
set_option maxRecDepth 100000 in
set_option maxHeartbeats 2000000 in
/-- No table: an empty list. -/
theorem Aut.twin_no (args parts : Array Value) (u1 u2 u3 u4 u5 u6 u7 u8 u9 u10 u11 u12 u13 : Value) (hargs : args ++ Array.replicate (14 - args.size) undef = #[.agg parts, u1, u2, u3, u4, u5, u6, u7, u8, u9, u10, u11, u12, u13]) (n a : Int) (hp0 : parts[0]? = some (.int .i64 n)) (hp1 : parts[1]? = some (.int .i64 a)) (hnr : -9223372036854775808 ≤ n ∧ n ≤ 9223372036854775807) (HR : -9223372036854775808 ≤ a ∧ a ≤ 9223372036854775807) (hIs : isT n a = false) (w : World) :
    Calls Tq.prog 26 args w fun e w' => e = .returned (.slice none 0 0) ∧ PR w [.cells parts 26, .cells #[.int .i64 n, .int .i64 a] 26] w' := by
  have HT := Lib.hid (Tab.implX n a HR)
  have H := Lib.hid hIs
  have hwn : IntKind.i64.wrap n = n := by rw [IntKind.wrap_i64]; omega
  have hwa : IntKind.i64.wrap a = a := by rw [IntKind.wrap_i64]; omega
  have P1 := (PR.refl w).alloc (.cells parts 26)
  have c0 : (w.alloc (.cells parts 26)).cell? ⟨w.heap.size, 0, none⟩ = some (.int .i64 n) := P1.cell (i := 0) (j := 0) (cs := parts) (t := 26) (f := (0, 0)) rfl hp0
  have c1 : (w.alloc (.cells parts 26)).cell? ⟨w.heap.size, 1, none⟩ = some (.int .i64 a) := P1.cell (i := 0) (j := 1) (cs := parts) (t := 26) (f := (0, 0)) rfl hp1
  clear hIs hnr HR
  refine calls_of_wp Tq.func26 rfl ?_
  rw [Tq.ntmps26, hargs]
  simp only [Tq.body26, Tq.bodyA, Tq.sums, Tq.probe, Tq.few, Tq.outer, Tq.inner, Tq.termA, Tq.reg, Tq.o, Tq.st, Tq.cl, Tq.i0, Tq.i1, Tq.none0, Tq.hole, List.cons_append, List.nil_append]
  go_wp2_with fail
  refine (HT.out _).mono ?_
  rintro e w1 ⟨rfl, hw1⟩
  have hP : PR w [.cells parts 26, .cells #[.int .i64 n, .int .i64 a] 26] w1 := hw1 ▸ P1.alloc (.cells #[.int .i64 n, .int .i64 a] 26)
  rw [H.out]
  go_wp2
  go_ret
  exact ⟨rfl, hP⟩

set_option maxRecDepth 100000 in
set_option maxHeartbeats 4000000 in
theorem Aut.twin_yes (args parts : Array Value) (u1 u2 u3 u4 u5 u6 u7 u8 u9 u10 u11 u12 u13 : Value) (hargs : args ++ Array.replicate (14 - args.size) undef = #[.agg parts, u1, u2, u3, u4, u5, u6, u7, u8, u9, u10, u11, u12, u13]) (n a : Nat) (hp0 : parts[0]? = some (.int .i64 n)) (hp1 : parts[1]? = some (.int .i64 a)) (hn : n ≤ 5) (ha : (a : Int) ≤ 4294967295) (hIs : isT n a = true) (w : World) :
    Calls Tq.prog 26 args w fun e w' => e = .returned (.slice (some ⟨w.heap.size + 5, 0, none⟩) (2 ^ n) (2 ^ n)) ∧ PR w (Spc.made parts n a w.heap.size (2 ^ n) (autV a) (2 ^ n) (2 ^ n)) w' := by
  have HT := Lib.hid (Tab.implX n a (by omega))
  have HC := Lib.hid (Tab.count n hn)
  have H := Lib.hid hIs
  have h32 := two_pow_le n hn
  generalize hM : 2 ^ n = M at *
  have hwn : IntKind.i64.wrap (n : Int) = n := by rw [IntKind.wrap_i64]; omega
  have hwa : IntKind.i64.wrap (a : Int) = a := by rw [IntKind.wrap_i64]; omega
  have hwu : IntKind.u64.wrap (a : Int) = a := by rw [IntKind.wrap_u64]; omega
  obtain ⟨i0, hi, hz0, hz1, hz2⟩ := info_parts info_int
  have hmk := fun w => run_make (P := Tq.prog) w 24 3 i0 (.int .i64 0) Tq.underlying24 hi hz0 .i64 .i64 M M (by omega) (by omega) (by rw [hz2]; omega) (by omega)
  have HMK := Lib.hid hmk
  have P1 := (PR.refl w).alloc (.cells parts 26)
  have c0 : (w.alloc (.cells parts 26)).cell? ⟨w.heap.size, 0, none⟩ = some (.int .i64 n) := P1.cell (i := 0) (j := 0) (cs := parts) (t := 26) (f := (0, 0)) rfl hp0
  have c1 : (w.alloc (.cells parts 26)).cell? ⟨w.heap.size, 1, none⟩ = some (.int .i64 a) := P1.cell (i := 0) (j := 1) (cs := parts) (t := 26) (f := (0, 0)) rfl hp1
  clear hIs hmk
  refine calls_of_wp Tq.func26 rfl ?_
  rw [Tq.ntmps26, hargs]
  simp only [Tq.body26, Tq.bodyA, Tq.sums, Tq.probe, Tq.few, Tq.outer, Tq.inner, Tq.termA, Tq.reg, Tq.o, Tq.st, Tq.cl, Tq.i0, Tq.i1, Tq.none0, Tq.hole, List.cons_append, List.nil_append]
  go_wp2_with fail
  refine (HT.out _).mono ?_
  rintro e w1 ⟨rfl, hw1⟩
  have hP : PR w [.cells parts 26, .cells #[.int .i64 n, .int .i64 a] 26] w1 := hw1 ▸ P1.alloc (.cells #[.int .i64 n, .int .i64 a] 26)
  rw [H.out]
  clear c0 c1 P1 hw1
  have c0 : w1.cell? ⟨w.heap.size, 0, none⟩ = some (.int .i64 n) := hP.cell (i := 0) (j := 0) (cs := parts) (t := 26) (f := (0, 0)) rfl hp0
  have c1 : w1.cell? ⟨w.heap.size, 1, none⟩ = some (.int .i64 a) := hP.cell (i := 0) (j := 1) (cs := parts) (t := 26) (f := (0, 0)) rfl hp1
  have hs1 : w1.heap.size = w.heap.size + 2 := hP.size
  go_wp2_with fail
  refine (HC.out _).mono ?_
  rintro e w2 ⟨rfl, hw2⟩
  have hP2 : PR w [.cells parts 26, .cells #[.int .i64 n, .int .i64 a] 26, .cells #[.int .u64 a] 40, .cells #[.int .i64 n] 3, .cells #[] 42] w2 := hw2 ▸ ((hP.alloc _).alloc _).alloc _
  have hs2 : w2.heap.size = w.heap.size + 5 := hP2.size
  have hmk2 := HMK.out w2
  clear hw2 hP hs1 c0 c1
  go_wp2_with fail
  go_loopw [7] (fun k wr => ∃ j : Nat, k = .int .i64 (j : Int) ∧ (j : Int) ≤ (M : Int) ∧ PR w (Spc.made parts n a w.heap.size M (autV a) j j) wr) (fun k _ => 32 - (intOf k).toNat)
  case atStart =>
    refine ⟨0, rfl, by omega, ?_⟩
    have hp := (((hP2.alloc (.cells (madeCells #[.int .i64 0] M) 3)).alloc (.cells #[.slice (some ⟨w.heap.size + 5, 0, none⟩) M M] 24)).alloc (.cells #[] 48)).alloc (.cells #[] 65)
    rw [Wk.rowS_zero (autV a) M] at hp ⊢
    exact hp
  case round =>
    obtain ⟨j, rfl, hj, hP3⟩ := hrel
    have hs3 : wr.heap.size = w.heap.size + (9 + j) := by rw [hP3.size, Spc.made_len]
    by_cases hlt : (j : Int) < (M : Int)
    · have hjm : j < M := by omega
      have hjl : (j : Int) ≤ 31 := by omega
      have hlim := sumT_lim (autV_one a) j
      go_wp2_with fail
      go_loopw [8, 9] (fun sm x wq => ∃ k : Nat, x = .int .i64 (k : Int) ∧ sm = .int .i64 (sumT (autV a) j k) ∧ (k : Int) ≤ (M : Int) ∧ PR w (Spc.made parts n a w.heap.size M (autV a) j (j + 1)) wq) (fun _ x _ => 32 - (intOf x).toNat)
      case atStart =>
        refine ⟨0, rfl, rfl, by omega, ?_⟩
        rw [← Spc.made_next]
        exact hP3.alloc _
      case round =>
        obtain ⟨k, rfl, rfl, hk, hP4⟩ := hrel
        have cw : wr.cell? ⟨w.heap.size + 2, 0, none⟩ = some (.int .u64 a) := hP4.cell (i := 2) (j := 0) (cs := #[.int .u64 a]) (t := 40) (f := (0, 0)) (Spc.made_at _ _ _ _ _ _ _ _ _ _ (by omega) rfl) rfl
        by_cases hkl : (k : Int) < (M : Int)
        · have hkx : (k : Int) ≤ 31 := by omega
          have hxs := xor64 k j (by omega) (by omega)
          have hxl : k ^^^ j < 2 ^ 5 := Nat.xor_lt_two_pow (by omega) (by omega)
          have hb := bitN_lt a k
          have hp := bitN_lt a (k ^^^ j)
          have HA := Lib.hid (Tab.at a k (by omega) (by omega))
          have HP := Lib.hid (Tab.at a (k ^^^ j) (by omega) (by omega))
          have hxor := xor64 (bitN a k) (bitN a (k ^^^ j)) (by omega) (by omega)
          rw [xor_bits hb hp] at hxor
          have hq : (bitN a k + bitN a (k ^^^ j)) % 2 < 2 := Nat.mod_lt _ (by decide)
          have hfin : sumT (autV a) j (k + 1) = sumT (autV a) j k + (1 - 2 * (((bitN a k + bitN a (k ^^^ j)) % 2 : Nat) : Int)) := rfl
          have hl1 := hlim k
          have hl2 := hlim (k + 1)
          have HF := Lib.hid hfin
          generalize hg1 : sumT (autV a) j (k + 1) = g1 at *
          generalize sumT (autV a) j k = g0 at *
          generalize bitN a (k ^^^ j) = p2 at *
          generalize k ^^^ j = kj at *
          have HSG := Lib.hid (Spc.sign ((bitN a k + p2) % 2) hq)
          generalize (bitN a k + p2) % 2 = z at *
          generalize bitN a k = b1 at *
          clear hfin
          have hwr : IntKind.i64.wrap (g0 + (1 - 2 * (z : Int))) = g1 := by have := HF.out; rw [IntKind.wrap_i64]; omega
          go_wp2_with fail
          refine (HA.out _).mono ?_
          rintro e w5 ⟨rfl, rfl⟩
          go_wp2_with fail
          try rw [hxs]
          refine (HP.out _).mono ?_
          rintro e w5 ⟨rfl, rfl⟩
          go_wp2_with fail
          try rw [hxor]
          refine (HSG.out _).mono ?_
          rintro e w5 ⟨rfl, rfl⟩
          go_wp2_with fail
          go_roundw
          case rel => exact ⟨k + 1, by go_num, by rw [hg1]; try rw [hwr], by omega, hP4⟩
          case measure => simp [intOf]; omega
        · have hkM : k = M := by omega
          have HE := Lib.hid (show sumT (autV a) j k = sumT (autV a) j M by rw [hkM])
          have cr : wr.cell? ⟨w.heap.size + 5, j, none⟩ = some (.int .i64 0) := hP4.cell (i := 5) (j := j) (cs := Wk.rowS (autV a) M j) (t := 3) (f := (0, 0)) (Spc.made_at _ _ _ _ _ _ _ _ _ _ (by omega) rfl) (by rw [Wk.rowS_get _ hjm, if_neg (Nat.lt_irrefl j)])
          have fr : wr.frozen? ⟨w.heap.size + 5, j, none⟩ = false := hP4.thaw (i := 5) (j := j) (cs := Wk.rowS (autV a) M j) (t := 3) (Spc.made_at _ _ _ _ _ _ _ _ _ _ (by omega) rfl)
          have HP5 := Lib.hid (hP4.set (i := 5) (j := j) (cs := Wk.rowS (autV a) M j) (t := 3) (Spc.made_at _ _ _ _ _ _ _ _ _ _ (by omega) rfl) (Wk.val (autV a) M j))
          clear hP4 hkM hlim
          generalize sumT (autV a) j k = g0 at *
          go_wp2_with fail
          go_roundw
          case rel =>
            refine ⟨j + 1, by go_num, by omega, ?_⟩
            rw [HE.out, ← Spc.made_set _ _ _ _ _ _ _ _ hjm]
            exact HP5.out
          case measure => simp [intOf]; omega
    · have hjM : j = M := by omega
      have cs6 : wr.cell? ⟨w.heap.size + 6, 0, none⟩ = some (.slice (some ⟨w.heap.size + 5, 0, none⟩) M M) := hP3.cell (i := 6) (j := 0) (cs := #[.slice (some ⟨w.heap.size + 5, 0, none⟩) M M]) (t := 24) (f := (0, 0)) (Spc.made_at _ _ _ _ _ _ _ _ _ _ (by omega) rfl) rfl
      have HP3 : Hid (PR w (Spc.made parts n a w.heap.size M (autV a) M M) wr) := Lib.hid (by rw [hjM] at hP3; exact hP3)
      clear hjM hP3 hs3
      go_wp2
      go_ret
      exact ⟨rfl, HP3.out⟩
end Go.Proofs.Ytechkghnmgimbaa.Q
