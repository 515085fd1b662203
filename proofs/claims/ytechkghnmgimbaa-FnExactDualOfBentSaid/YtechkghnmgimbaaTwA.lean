/-
  The twin's contract: SpectrumOf, one sum after the other: what it returns and makes.
  The twin's contract: SpectrumOf of a table.
-/
import Derived.Test.YtechkghnmgimbaaQTabC
import Derived.Test.YtechkghnmgimbaaQSetS
import Derived.Test.YtechkghnmgimbaaQTabK
import Derived.Test.YtechkghnmgimbaaWkP
import Derived.Deep.DeepCutAuto
import Derived.Shelf.Abstract
import Derived.Test.YtechkghnmgimbaaSpcP

namespace Go.Proofs.Ytechkghnmgimbaa.Q
theorem Plain.qTwA : True := trivial
open Go.RowKit Go.Proofs.Ytechkghnmgimbaa.Plain Go.Proofs.Ytechkghnmgimbaa.Q.Plain
set_option linter.unusedVariables false
set_option linter.unusedSimpArgs false
attribute [local go_sem ↓] Go.wp_at_zero Go.wp_at_succ

theorem Tab.implX_in (n x : Nat) (hn : n ≤ 5) (hx : (x : Int) ≤ 9223372036854775807) (w : World) :
    Calls Tq.prog 37 #[.agg #[.int .i64 n, .int .i64 x]] w fun e w' => e = .returned (.bool (isT n x)) ∧ w.alloc (.cells #[.int .i64 n, .int .i64 x] 26) = w' := by
  have hd : decide (x ≤ fullN n) = isT n x := by
    unfold isT; congr 1; simp only [Int.toNat_natCast, eq_iff_iff]; omega
  have h1 : inB n 0 5 = true := inB_yes (by omega)
  rw [← hd]
  clear hd
  go_enter Tq.func37, Tq.ntmps37
  go_wp2_with (first
    | (go_at_call 53; refine (Tab.bits _ _).mono ?_; rintro e w' ⟨rfl, rfl⟩)
    | (go_at_call 54; refine (Tab.fits x n hn _ (by omega)).mono ?_; rintro e w' ⟨rfl, rfl⟩))
  go_ret
  exact ⟨rfl, rfl⟩

theorem Tab.implX_neg (n : Nat) (hn : n ≤ 5) (wd : Int) (h1 : wd < 0) (h2 : -9223372036854775808 ≤ wd) (w : World) :
    Calls Tq.prog 37 #[.agg #[.int .i64 n, .int .i64 wd]] w fun e w' => e = .returned (.bool (isT n wd)) ∧ w.alloc (.cells #[.int .i64 n, .int .i64 wd] 26) = w' := by
  have hd : isT n wd = false := isT_no (by omega)
  rw [hd]
  clear hd
  obtain ⟨y, hy⟩ := Int.eq_ofNat_of_zero_le (a := wd + 18446744073709551616) (by omega)
  have hf := fullN_le n hn
  have hdf : decide (y ≤ fullN n) = false := decide_eq_false (by omega)
  have hw : IntKind.u64.wrap wd = (y : Int) := by rw [IntKind.wrap_u64]; omega
  have HY := Lib.hid hdf
  have HW := Lib.hid hw
  have h1' : inB n 0 5 = true := inB_yes (by omega)
  have hyb : (y : Int) ≤ 18446744073709551615 := by omega
  clear hdf hw hy hf
  go_enter Tq.func37, Tq.ntmps37
  go_wp2_with (go_at_call 53; refine (Tab.bits _ _).mono ?_; rintro e w' ⟨rfl, rfl⟩)
  rw [HW.out]
  refine (Tab.fits y n hn _ hyb).mono ?_
  rintro e w' ⟨rfl, rfl⟩
  rw [HY.out]
  go_wp2
  go_ret
  exact ⟨rfl, rfl⟩

theorem Tab.implX_out (n : Int) (hn : ¬ (0 ≤ n ∧ n ≤ 5)) (wd : Int) (w : World) :
    Calls Tq.prog 37 #[.agg #[.int .i64 n, .int .i64 wd]] w fun e w' => e = .returned (.bool (isT n wd)) ∧ w.alloc (.cells #[.int .i64 n, .int .i64 wd] 26) = w' := by
  rw [isT_out hn]
  have h1 : inB n 0 5 = false := inB_no hn
  clear hn
  go_enter Tq.func37, Tq.ntmps37
  go_wp2_with (go_at_call 53; refine (Tab.bits _ _).mono ?_; rintro e w' ⟨rfl, rfl⟩)
  go_ret
  exact ⟨rfl, rfl⟩

/-- IsTable, and exactly what it makes. -/
theorem Tab.implX (n wd : Int) (hb : -9223372036854775808 ≤ wd ∧ wd ≤ 9223372036854775807) (w : World) :
    Calls Tq.prog 37 #[.agg #[.int .i64 n, .int .i64 wd]] w fun e w' => e = .returned (.bool (isT n wd)) ∧ w.alloc (.cells #[.int .i64 n, .int .i64 wd] 26) = w' := by
  by_cases h : 0 ≤ n ∧ n ≤ 5
  · obtain ⟨m, rfl⟩ := Int.eq_ofNat_of_zero_le h.1
    by_cases hw : wd < 0
    · exact Tab.implX_neg m (by omega) wd hw hb.1 w
    · obtain ⟨x, rfl⟩ := Int.eq_ofNat_of_zero_le (a := wd) (by omega)
      exact Tab.implX_in m x (by omega) hb.2 w
  · exact Tab.implX_out n h wd w

/-- parity, sign of the program. -/
theorem Spc.parity (m : Nat) (hm : (m : Int) ≤ 4294967295) (w : World) :
    Calls Tq.prog 42 #[.int .i64 m] w fun e w' => e = .returned (.int .i64 ((popN m % 2 : Nat) : Int)) ∧ w = w' := by
  have HS := Lib.hid (SetSize.any m hm)
  have hl := popN_lim m hm
  have H1 := Lib.hid (and1_i64 (popN m) (by omega))
  generalize popN m = p at *
  go_enter Tq.func42, Tq.ntmps42
  go_wp2_with fail
  refine (HS.out _).mono ?_
  rintro e w' ⟨rfl, rfl⟩
  go_wp2
  go_ret
  exact ⟨ret_int H1.out, rfl⟩
theorem Spc.sign (b : Nat) (hb : b < 2) (w : World) :
    Calls Tq.prog 40 #[.int .i64 b] w fun e w' => e = .returned (.int .i64 (1 - 2 * (b : Int))) ∧ w = w' := by
  go_enter Tq.func40, Tq.ntmps40
  go_wp2
  go_ret
  exact ⟨rfl, rfl⟩

attribute [local go_sem] undef
set_option maxRecDepth 100000 in
set_option maxHeartbeats 2000000 in
/-- No table: an empty list. -/
theorem Spc.twin_no (args parts : Array Value) (u1 u2 u3 u4 u5 u6 u7 u8 u9 u10 u11 u12 u13 : Value) (hargs : args ++ Array.replicate (14 - args.size) undef = #[.agg parts, u1, u2, u3, u4, u5, u6, u7, u8, u9, u10, u11, u12, u13]) (n a : Int) (hp0 : parts[0]? = some (.int .i64 n)) (hp1 : parts[1]? = some (.int .i64 a)) (hnr : -9223372036854775808 ≤ n ∧ n ≤ 9223372036854775807) (HR : -9223372036854775808 ≤ a ∧ a ≤ 9223372036854775807) (hIs : isT n a = false) (w : World) :
    Calls Tq.prog 14 args w fun e w' => e = .returned (.slice none 0 0) ∧ PR w [.cells parts 26, .cells #[.int .i64 n, .int .i64 a] 26] w' := by
  have HT := Lib.hid (Tab.implX n a HR)
  have H := Lib.hid hIs
  have hwn : IntKind.i64.wrap n = n := by rw [IntKind.wrap_i64]; omega
  have hwa : IntKind.i64.wrap a = a := by rw [IntKind.wrap_i64]; omega
  have P1 := (PR.refl w).alloc (.cells parts 26)
  have c0 : (w.alloc (.cells parts 26)).cell? ⟨w.heap.size, 0, none⟩ = some (.int .i64 n) := P1.cell (i := 0) (j := 0) (cs := parts) (t := 26) (f := (0, 0)) rfl hp0
  have c1 : (w.alloc (.cells parts 26)).cell? ⟨w.heap.size, 1, none⟩ = some (.int .i64 a) := P1.cell (i := 0) (j := 1) (cs := parts) (t := 26) (f := (0, 0)) rfl hp1
  clear hIs hnr HR
  refine calls_of_wp Tq.func14 rfl ?_
  rw [Tq.ntmps14, hargs]
  simp only [Tq.body14, Tq.bodyS, Tq.sums, Tq.probe, Tq.few, Tq.outer, Tq.inner, Tq.termS, Tq.reg, Tq.o, Tq.st, Tq.cl, Tq.i0, Tq.i1, Tq.none0, Tq.hole, List.cons_append, List.nil_append]
  go_wp2_with fail
  refine (HT.out _).mono ?_
  rintro e w1 ⟨rfl, hw1⟩
  have hP : PR w [.cells parts 26, .cells #[.int .i64 n, .int .i64 a] 26] w1 := hw1 ▸ P1.alloc (.cells #[.int .i64 n, .int .i64 a] 26)
  rw [H.out]
  go_wp2
  go_ret
  exact ⟨rfl, hP⟩
end Go.Proofs.Ytechkghnmgimbaa.Q

namespace Go.Proofs.Ytechkghnmgimbaa.Q
open Go.RowKit Go.Proofs.Ytechkghnmgimbaa.Plain Go.Proofs.Ytechkghnmgimbaa.Q.Plain
set_option linter.unusedVariables false
set_option linter.unusedSimpArgs false
attribute [local go_sem ↓] Go.wp_at_zero Go.wp_at_succ

/-- What the twin makes: N the first new block; j sums written, k numbers laid. -/
def Spc.made (parts : Array Value) (n a N M : Nat) (tv : Nat → Nat → Int) (j k : Nat) : List Obj :=
  [.cells parts 26, .cells #[.int .i64 n, .int .i64 a] 26, .cells #[.int .u64 a] 40, .cells #[.int .i64 n] 3, .cells #[] 42, .cells (Wk.rowS tv M j) 3, .cells #[.slice (some ⟨N + 5, 0, none⟩) M M] 24, .cells #[] 48, .cells #[] 65] ++ Wk.kbs 3 k
theorem Spc.made_len (parts : Array Value) (n a N M : Nat) (tv : Nat → Nat → Int) (j k : Nat) : (Spc.made parts n a N M tv j k).length = 9 + k := by simp [Spc.made, Wk.kbs_len]; omega

theorem Spc.made_at (parts : Array Value) (n a N M : Nat) (tv : Nat → Nat → Int) (j k i : Nat) (o : Obj) (hi : i < 9) (h : [.cells parts 26, .cells #[.int .i64 n, .int .i64 a] 26, .cells #[.int .u64 a] 40, .cells #[.int .i64 n] 3, .cells #[] 42, .cells (Wk.rowS tv M j) 3, .cells #[.slice (some ⟨N + 5, 0, none⟩) M M] 24, .cells #[] 48, .cells #[] 65][i]? = some o) : (Spc.made parts n a N M tv j k)[i]? = some o := by
  unfold Spc.made
  rw [List.getElem?_append_left (by simpa using hi)]
  exact h
theorem Spc.made_next (parts : Array Value) (n a N M : Nat) (tv : Nat → Nat → Int) (j k : Nat) : Spc.made parts n a N M tv j k ++ [.cells #[.int .i64 k] 3] = Spc.made parts n a N M tv j (k + 1) := by
  unfold Spc.made
  rw [Wk.kbs_succ, List.append_assoc]
theorem Spc.made_set (parts : Array Value) (n a N M : Nat) (tv : Nat → Nat → Int) (j k : Nat) (h : j < M) : (Spc.made parts n a N M tv j k).set 5 (.cells ((Wk.rowS tv M j).setIfInBounds j (Wk.val tv M j)) 3) = Spc.made parts n a N M tv (j + 1) k := by
  unfold Spc.made
  rw [Wk.rowS_set tv h]
  rfl

theorem info_int : (Tq.prog.info? 3).map (fun i => (i.zero, i.size, i.bytes)) = some (some (.int .i64 0), 1, 8) := by kernel_rfl

attribute [local go_sem] undef
set_option maxRecDepth 100000 in
set_option maxHeartbeats 4000000 in
theorem Spc.twin_yes (args parts : Array Value) (u1 u2 u3 u4 u5 u6 u7 u8 u9 u10 u11 u12 u13 : Value) (hargs : args ++ Array.replicate (14 - args.size) undef = #[.agg parts, u1, u2, u3, u4, u5, u6, u7, u8, u9, u10, u11, u12, u13]) (n a : Nat) (hp0 : parts[0]? = some (.int .i64 n)) (hp1 : parts[1]? = some (.int .i64 a)) (hn : n ≤ 5) (ha : (a : Int) ≤ 4294967295) (hIs : isT n a = true) (w : World) :
    Calls Tq.prog 14 args w fun e w' => e = .returned (.slice (some ⟨w.heap.size + 5, 0, none⟩) (2 ^ n) (2 ^ n)) ∧ PR w (Spc.made parts n a w.heap.size (2 ^ n) (spcV a) (2 ^ n) (2 ^ n)) w' := by
  have HT := Lib.hid (Tab.implX n a (by omega))
  have HC := Lib.hid (Tab.count n hn)
  have H := Lib.hid hIs
  have h32 := two_pow_le n hn
  generalize hM : 2 ^ n = M at *
  have hwn : IntKind.i64.wrap (n : Int) = n := by rw [IntKind.wrap_i64]; omega
  have hwa : IntKind.i64.wrap (a : Int) = a := by rw [IntKind.wrap_i64]; omega
  have hwu : IntKind.u64.wrap (a : Int) = a := by rw [IntKind.wrap_u64]; omega
  obtain ⟨i0, hi, hz0, hz1, hz2⟩ := info_parts info_int
  have hmk := fun w => run_make (P := Tq.prog) w 24 3 i0 (.int .i64 0) Tq.underlying24 hi hz0 .i64 .i64 M M (by omega) (by omega) (by rw [hz2]; omega) (by omega)
  have HMK := Lib.hid hmk
  have P1 := (PR.refl w).alloc (.cells parts 26)
  have c0 : (w.alloc (.cells parts 26)).cell? ⟨w.heap.size, 0, none⟩ = some (.int .i64 n) := P1.cell (i := 0) (j := 0) (cs := parts) (t := 26) (f := (0, 0)) rfl hp0
  have c1 : (w.alloc (.cells parts 26)).cell? ⟨w.heap.size, 1, none⟩ = some (.int .i64 a) := P1.cell (i := 0) (j := 1) (cs := parts) (t := 26) (f := (0, 0)) rfl hp1
  clear hIs hmk
  refine calls_of_wp Tq.func14 rfl ?_
  rw [Tq.ntmps14, hargs]
  simp only [Tq.body14, Tq.bodyS, Tq.sums, Tq.probe, Tq.few, Tq.outer, Tq.inner, Tq.termS, Tq.reg, Tq.o, Tq.st, Tq.cl, Tq.i0, Tq.i1, Tq.none0, Tq.hole, List.cons_append, List.nil_append]
  go_wp2_with fail
  refine (HT.out _).mono ?_
  rintro e w1 ⟨rfl, hw1⟩
  have hP : PR w [.cells parts 26, .cells #[.int .i64 n, .int .i64 a] 26] w1 := hw1 ▸ P1.alloc (.cells #[.int .i64 n, .int .i64 a] 26)
  rw [H.out]
  clear c0 c1 P1 hw1
  have c0 : w1.cell? ⟨w.heap.size, 0, none⟩ = some (.int .i64 n) := hP.cell (i := 0) (j := 0) (cs := parts) (t := 26) (f := (0, 0)) rfl hp0
  have c1 : w1.cell? ⟨w.heap.size, 1, none⟩ = some (.int .i64 a) := hP.cell (i := 0) (j := 1) (cs := parts) (t := 26) (f := (0, 0)) rfl hp1
  have hs1 : w1.heap.size = w.heap.size + 2 := hP.size
  go_wp2_with fail
  refine (HC.out _).mono ?_
  rintro e w2 ⟨rfl, hw2⟩
  have hP2 : PR w [.cells parts 26, .cells #[.int .i64 n, .int .i64 a] 26, .cells #[.int .u64 a] 40, .cells #[.int .i64 n] 3, .cells #[] 42] w2 := hw2 ▸ ((hP.alloc _).alloc _).alloc _
  have hs2 : w2.heap.size = w.heap.size + 5 := hP2.size
  have hmk2 := HMK.out w2
  clear hw2 hP hs1 c0 c1
  go_wp2_with fail
  go_loopw [7] (fun k wr => ∃ j : Nat, k = .int .i64 (j : Int) ∧ (j : Int) ≤ (M : Int) ∧ PR w (Spc.made parts n a w.heap.size M (spcV a) j j) wr) (fun k _ => 32 - (intOf k).toNat)
  case atStart =>
    refine ⟨0, rfl, by omega, ?_⟩
    have hp := (((hP2.alloc (.cells (madeCells #[.int .i64 0] M) 3)).alloc (.cells #[.slice (some ⟨w.heap.size + 5, 0, none⟩) M M] 24)).alloc (.cells #[] 48)).alloc (.cells #[] 65)
    rw [Wk.rowS_zero (spcV a) M] at hp ⊢
    exact hp
  case round =>
    obtain ⟨j, rfl, hj, hP3⟩ := hrel
    have hs3 : wr.heap.size = w.heap.size + (9 + j) := by rw [hP3.size, Spc.made_len]
    by_cases hlt : (j : Int) < (M : Int)
    · have hjm : j < M := by omega
      have hjl : (j : Int) ≤ 31 := by omega
      have hlim := sumT_lim (spcV_one a) j
      go_wp2_with fail
      go_loopw [8, 9] (fun sm x wq => ∃ k : Nat, x = .int .i64 (k : Int) ∧ sm = .int .i64 (sumT (spcV a) j k) ∧ (k : Int) ≤ (M : Int) ∧ PR w (Spc.made parts n a w.heap.size M (spcV a) j (j + 1)) wq) (fun _ x _ => 32 - (intOf x).toNat)
      case atStart =>
        refine ⟨0, rfl, rfl, by omega, ?_⟩
        rw [← Spc.made_next]
        exact hP3.alloc _
      case round =>
        obtain ⟨k, rfl, rfl, hk, hP4⟩ := hrel
        have cw : wr.cell? ⟨w.heap.size + 2, 0, none⟩ = some (.int .u64 a) := hP4.cell (i := 2) (j := 0) (cs := #[.int .u64 a]) (t := 40) (f := (0, 0)) (Spc.made_at _ _ _ _ _ _ _ _ _ _ (by omega) rfl) rfl
        by_cases hkl : (k : Int) < (M : Int)
        · have hkx : (k : Int) ≤ 31 := by omega
          have hand := and64 j k (by omega) (by omega)
          have hal : (j &&& k) ≤ j := Nat.and_le_left
          have hb := bitN_lt a k
          have HA := Lib.hid (Tab.at a k (by omega) (by omega))
          have HP := Lib.hid (Spc.parity (j &&& k) (by omega))
          have hpm : popN (j &&& k) % 2 < 2 := Nat.mod_lt _ (by decide)
          have hxor := xor64 (bitN a k) (popN (j &&& k) % 2) (by omega) (by omega)
          rw [xor_bits hb hpm] at hxor
          have hq : (bitN a k + popN (j &&& k) % 2) % 2 < 2 := Nat.mod_lt _ (by decide)
          have hfin : sumT (spcV a) j (k + 1) = sumT (spcV a) j k + (1 - 2 * (((bitN a k + popN (j &&& k) % 2) % 2 : Nat) : Int)) := by
            show sumT (spcV a) j k + spcV a j k = _
            unfold Plain.spcV
            omega
          have hl1 := hlim k
          have hl2 := hlim (k + 1)
          have HF := Lib.hid hfin
          generalize hg1 : sumT (spcV a) j (k + 1) = g1 at *
          generalize sumT (spcV a) j k = g0 at *
          generalize popN (j &&& k) % 2 = p2 at *
          have HSG := Lib.hid (Spc.sign ((bitN a k + p2) % 2) hq)
          generalize (bitN a k + p2) % 2 = z at *
          generalize bitN a k = b1 at *
          clear hfin
          have hwr : IntKind.i64.wrap (g0 + (1 - 2 * (z : Int))) = g1 := by have := HF.out; rw [IntKind.wrap_i64]; omega
          go_wp2_with fail
          refine (HA.out _).mono ?_
          rintro e w5 ⟨rfl, rfl⟩
          go_wp2_with fail
          try rw [hand]
          refine (HP.out _).mono ?_
          rintro e w5 ⟨rfl, rfl⟩
          go_wp2_with fail
          try rw [hxor]
          refine (HSG.out _).mono ?_
          rintro e w5 ⟨rfl, rfl⟩
          go_wp2_with fail
          go_roundw
          case rel => exact ⟨k + 1, by go_num, by rw [hg1]; try rw [hwr], by omega, hP4⟩
          case measure => simp [intOf]; omega
        · have hkM : k = M := by omega
          have HE := Lib.hid (show sumT (spcV a) j k = sumT (spcV a) j M by rw [hkM])
          have cr : wr.cell? ⟨w.heap.size + 5, j, none⟩ = some (.int .i64 0) := hP4.cell (i := 5) (j := j) (cs := Wk.rowS (spcV a) M j) (t := 3) (f := (0, 0)) (Spc.made_at _ _ _ _ _ _ _ _ _ _ (by omega) rfl) (by rw [Wk.rowS_get _ hjm, if_neg (Nat.lt_irrefl j)])
          have fr : wr.frozen? ⟨w.heap.size + 5, j, none⟩ = false := hP4.thaw (i := 5) (j := j) (cs := Wk.rowS (spcV a) M j) (t := 3) (Spc.made_at _ _ _ _ _ _ _ _ _ _ (by omega) rfl)
          have HP5 := Lib.hid (hP4.set (i := 5) (j := j) (cs := Wk.rowS (spcV a) M j) (t := 3) (Spc.made_at _ _ _ _ _ _ _ _ _ _ (by omega) rfl) (Wk.val (spcV a) M j))
          clear hP4 hkM hlim
          generalize sumT (spcV a) j k = g0 at *
          go_wp2_with fail
          go_roundw
          case rel =>
            refine ⟨j + 1, by go_num, by omega, ?_⟩
            rw [HE.out, ← Spc.made_set _ _ _ _ _ _ _ _ hjm]
            exact HP5.out
          case measure => simp [intOf]; omega
    · have hjM : j = M := by omega
      have cs6 : wr.cell? ⟨w.heap.size + 6, 0, none⟩ = some (.slice (some ⟨w.heap.size + 5, 0, none⟩) M M) := hP3.cell (i := 6) (j := 0) (cs := #[.slice (some ⟨w.heap.size + 5, 0, none⟩) M M]) (t := 24) (f := (0, 0)) (Spc.made_at _ _ _ _ _ _ _ _ _ _ (by omega) rfl) rfl
      have HP3 : Hid (PR w (Spc.made parts n a w.heap.size M (spcV a) M M) wr) := Lib.hid (by rw [hjM] at hP3; exact hP3)
      clear hjM hP3 hs3
      go_wp2
      go_ret
      exact ⟨rfl, HP3.out⟩
end Go.Proofs.Ytechkghnmgimbaa.Q
