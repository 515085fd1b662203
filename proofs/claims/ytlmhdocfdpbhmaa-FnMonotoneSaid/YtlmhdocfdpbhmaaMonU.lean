/-
  Chapter 15: TableOfPoints of both.
-/
import Derived.Test.YtlmhdocfdpbhmaaMonM
import Derived.Test.YtlmhdocfdpbhmaaIn
import Derived.Test.YtlmhdocfdpbhmaaRowB
namespace Go.Proofs.Ytlmhdocfdpbhmaa
open Go.RowKit Plain
set_option linter.unusedVariables false
set_option linter.unusedSimpArgs false
attribute [local go_sem ↓] Go.wp_at_zero Go.wp_at_succ

/-- The word of the first k points. -/
def Plain.ptsK (l : List Int) : Nat → Nat
  | 0 => 0
  | k + 1 => ptsK l k ||| 2 ^ (l.getD k 0).toNat
/-- Are all points inputs of n variables? -/
def Plain.ptsB (n : Nat) (l : List Int) : Bool := decide (∀ k, k < l.length → 0 ≤ l.getD k 0 ∧ l.getD k 0 ≤ (2 ^ n : Nat) - 1)
/-- What TableOfPoints answers. -/
def Plain.ptsT (n : Int) (l : List Int) : Int × Int × Bool := if (0 ≤ n ∧ n ≤ 5) ∧ ptsB n.toNat l = true then (n, (hulW n.toNat (ptsK l l.length) : Int), true) else (0, 0, false)
theorem ptsT_yes {n : Nat} {l : List Int} (hn : n ≤ 5) (h : ∀ k, k < l.length → 0 ≤ l.getD k 0 ∧ l.getD k 0 ≤ (2 ^ n : Nat) - 1) : ptsT n l = ((n : Int), (hulW n (ptsK l l.length) : Int), true) := if_pos ⟨⟨by omega, by omega⟩, decide_eq_true h⟩
theorem ptsT_no1 {n : Int} {l : List Int} (h : ¬ (0 ≤ n ∧ n ≤ 5)) : ptsT n l = (0, 0, false) := if_neg fun q => h q.1
theorem ptsT_no2 {n : Nat} {l : List Int} {k : Nat} (hk : k < l.length) (h : ¬ (0 ≤ l.getD k 0 ∧ l.getD k 0 ≤ (2 ^ n : Nat) - 1)) : ptsT n l = (0, 0, false) :=
  if_neg fun q => h (by have h2 := q.2; rw [Int.toNat_natCast] at h2; exact of_decide_eq_true (p := ∀ k, k < l.length → 0 ≤ l.getD k 0 ∧ l.getD k 0 ≤ (2 ^ n : Nat) - 1) h2 k hk)

theorem Pts.model_no (n : Int) (l : List Int) (h : ¬ (0 ≤ n ∧ n ≤ 5)) (v : Value) (w : World) :
    Calls Try.prog 52 #[.int .i64 n, v] w fun e w' => e = .returned (.tuple #[.agg #[.int .i64 0, .int .i64 0], .bool false]) ∧ Below w.heap.size w w' := by
  have HI := Lib.hid (Widths.in_no n 0 5 h)
  clear h
  go_enter Try.func52, Try.ntmps52
  go_wp2_with fail
  refine (HI.out _).mono ?_
  rintro e w1 ⟨rfl, rfl⟩
  go_wp2
  exact bodyPost_ret (v := .tuple #[.agg #[.int .i64 0, .int .i64 0], .bool false]) (by simp [results, Try.results52, go_sem]) rfl ⟨rfl, bA (Nat.le_refl _) (Below.refl _ _)⟩

theorem Pts.impl_no (n : Int) (l : List Int) (h : ¬ (0 ≤ n ∧ n ≤ 5)) (v : Value) (w : World) :
    Calls Try.prog 48 #[.int .i64 n, v] w fun e w' => e = .returned (.tuple #[.agg #[.int .i64 0, .int .i64 0], .bool false]) ∧ Below w.heap.size w w' := by
  have HI := Lib.hid (Tab.bits_no n h)
  clear h
  go_enter Try.func48, Try.ntmps48
  go_wp2_with fail
  refine (HI.out _).mono ?_
  rintro e w1 ⟨rfl, rfl⟩
  go_wp2
  exact bodyPost_ret (v := .tuple #[.agg #[.int .i64 0, .int .i64 0], .bool false]) (by simp [results, Try.results48, go_sem]) rfl ⟨rfl, bA (Nat.le_refl _) (Below.refl _ _)⟩

theorem hulPts {n g : Nat} (hn : n ≤ 5) (hg : g < 2 ^ 2 ^ n) : isT n g = true ∧ (g : Int) ≤ 4294967295 := by
  have hf := fullN_le n hn
  have hl : g ≤ fullN n := by unfold Plain.fullN; omega
  exact ⟨isT_yes hn hl, by omega⟩

set_option maxRecDepth 100000 in
set_option maxHeartbeats 2000000 in
theorem Pts.model_in (n : Nat) (hn : n ≤ 5) (v : Value) (l : List Int) (hlen : l.length ≤ 1000000000) (w : World) (hv : IntsIn w v l) :
    Calls Try.prog 52 #[.int .i64 n, v] w fun e w' => e = .returned (tbV (ptsT n l)) ∧ Below w.heap.size w w' := by
  obtain ⟨ad, cap, rfl, hl, _, hrd⟩ := hv
  have HI := Lib.hid (Widths.in_yes (n : Int) 0 5 ⟨by omega, by omega⟩)
  have hn5 : (n : Int) ≤ 5 := by omega
  have h32 := two_pow_le n hn
  have hpos : 0 < 2 ^ n := Nat.pow_pos (by decide)
  obtain ⟨hsh1, hsh2, _⟩ := shl_at n (by omega)
  have HN := Lib.hid hn
  have HRD := Lib.hid hrd
  have HY := Lib.hid (ptsT_yes (l := l) hn)
  have HNO := Lib.hid (fun k => ptsT_no2 (n := n) (l := l) (k := k))
  have HP := Lib.hid (fun g hg => (hulPts (g := g) hn hg).2)
  have HH := Lib.hid (fun g hg => Hul.model_yes n g hn (hulPts (g := g) hn hg).1 (hulPts (g := g) hn hg).2)
  have HBIG := Lib.hid (fun (g y : Nat) (hg : g < 2 ^ 2 ^ n) (hy : y < 2 ^ n) => (Nat.or_lt_two_pow hg (Nat.pow_lt_pow_right (by decide) hy) : g ||| 2 ^ y < 2 ^ 2 ^ n))
  have HZERO : Hid (0 < 2 ^ 2 ^ n) := Lib.hid (Nat.pow_pos (by decide))
  generalize ptsT n l = r at *
  obtain ⟨M, hM⟩ : ∃ M, 2 ^ n = M := ⟨_, rfl⟩
  rw [hM] at h32 hpos hsh1 hsh2 HY HNO HP HH HBIG HZERO
  have hsub : IntKind.i64.wrap ((M : Int) - 1) = (M : Int) - 1 := by rw [IntKind.wrap_i64]; omega
  clear hM hn hrd
  unfold tbV
  go_enter Try.func52, Try.ntmps52
  go_wp2_with fail
  refine (HI.out _).mono ?_
  rintro e w1 ⟨rfl, rfl⟩
  go_wp2_with fail
  go_loopw [6, 7] (fun acc i wr => ∃ k g : Nat, i = .int .i64 (k : Int) ∧ k ≤ l.length ∧ acc = .int .i64 (g : Int) ∧ g = ptsK l k ∧ g < 2 ^ M ∧ (∀ j, j < k → 0 ≤ l.getD j 0 ∧ l.getD j 0 ≤ (M : Nat) - 1) ∧ wr.heap[w.heap.size]? = some (.cells #[.int .i64 0, .int .i64 0] 27 (0, 0)) ∧ Below w.heap.size w wr) (fun _ i _ => l.length - (intOf i).toNat)
  case atStart => exact ⟨0, 0, rfl, by omega, rfl, rfl, HZERO.out, fun j hj => absurd hj (by omega), heap_alloc_new w _, bA (Nat.le_refl _) (Below.refl _ _)⟩
  case round =>
    obtain ⟨k, g, rfl, hk, rfl, hg, hgl, hok, hblk, hbel⟩ := hrel
    have HG := Lib.hid hg
    have HGL := Lib.hid hgl
    have HOK := Lib.hid hok
    have HBLK := Lib.hid hblk
    have HBEL := Lib.hid hbel
    have hg32 := HP.out g hgl
    have hlz : w.heap.size < wr.heap.size := lt_of_block hblk
    obtain ⟨z0, z1, f0, f1⟩ := cells2 hblk
    clear hg hok hblk
    by_cases hlt : k < l.length
    · obtain ⟨b, off, rfl, hbw, hcl⟩ := HRD.out (by omega)
      have hcp : wr.cell? ⟨b, off + k, none⟩ = some (.int .i64 (l.getD k 0)) := (hbel.cell (p := ⟨b, off + k, none⟩) hbw).trans (hcl k hlt)
      have hkz : (k : Int) < (l.length : Int) := by omega
      have HNK := Lib.hid (HNO.out k hlt)
      have HGK : Hid (ptsK l (k + 1) = g ||| 2 ^ (l.getD k 0).toNat) := Lib.hid (by rw [HG.out]; rfl)
      have HXK : Hid (∀ j, j < k + 1 → j ≠ k → 0 ≤ l.getD j 0 ∧ l.getD j 0 ≤ (M : Nat) - 1) := Lib.hid (fun j h1 h2 => HOK.out j (by omega))
      clear hcl hbel hgl
      generalize hx : l.getD k 0 = x at *
      have HX := Lib.hid hx
      clear hx
      by_cases hin : 0 ≤ x ∧ x ≤ (M : Int) - 1
      · have HIX := Lib.hid (Widths.in_yes x 0 ((M : Int) - 1) hin)
        obtain ⟨y, rfl⟩ := Int.eq_ofNat_of_zero_le hin.1
        have hy : y < M := by omega
        have hor := orbit_i64 g y hg32 (by omega)
        have HB2 := Lib.hid (HBIG.out g y HGL.out hy)
        rw [Int.toNat_natCast] at HGK
        clear hin HNK
        go_wp2_with fail
        go_quiet ((go_at_call 71; exact quiet_eq (HIX.out _)))
        go_wp2_with fail
        exact ⟨⟨k + 1, g ||| 2 ^ y, by go_num, by omega, rfl, HGK.out.symm, HB2.out, fun j hj => by
          by_cases e : j = k
          · rw [e, HX.out]; omega
          · exact HXK.out j hj e, HBLK.out, below_drewN HBEL.out _⟩, by simp [intOf] <;> omega⟩
      · have HIX := Lib.hid (Widths.in_no x 0 ((M : Int) - 1) hin)
        have HR := Lib.hid (HNK.out (by omega))
        clear hin
        go_wp2_with fail
        go_quiet ((go_at_call 71; exact quiet_eq (HIX.out _)))
        go_wp2
        rw [HR.out]
        have q0 := fun m => (keepT (Y := wr.drewN m) (g := w.heap.size) (u := .int .i64 0) (v := .int .i64 0) z0 z1).1
        have q1 := fun m => (keepT (Y := wr.drewN m) (g := w.heap.size) (u := .int .i64 0) (v := .int .i64 0) z0 z1).2
        exact bodyPost_ret (v := .tuple #[.agg #[.int .i64 0, .int .i64 0], .bool false]) (by simp [results, Try.results52, go_sem, q0, q1]) rfl ⟨rfl, bS (by simp) (bS (by simp) (below_drewN HBEL.out _))⟩
    · obtain rfl : k = l.length := by omega
      have HR := Lib.hid (HY.out HOK.out)
      have HHG := Lib.hid (HH.out g HGL.out)
      rw [← HG.out] at HR
      clear HH HY HNO hbel hgl
      go_wp2_with fail
      refine (HHG.out _).mono ?_
      rintro e w2 ⟨rfl, hb2⟩
      obtain ⟨y0, y1, e0, e1⟩ := cells2 (blockOn HBLK.out hb2)
      have hs2 := hb2.size
      have HB2 := Lib.hid (bB hb2 HBEL.out.size HBEL.out)
      have hlz2 : w.heap.size < w2.heap.size := by omega
      clear hb2 z0 z1 f0 f1
      go_wp2
      rw [HR.out]
      obtain ⟨j0, j1⟩ := keepT (Y := w2) (g := w.heap.size) (u := .int .i64 n) (v := .int .i64 (hulW n g : Int)) y0 y1
      have k0 := keepA (o := .cells #[.int .i64 n, .int .i64 (hulW n g : Int)] 27) j0
      have k1 := keepA (o := .cells #[.int .i64 n, .int .i64 (hulW n g : Int)] 27) j1
      exact bodyPost_ret (v := .tuple #[.agg #[.int .i64 n, .int .i64 (hulW n g : Int)], .bool true]) (by simp [results, Try.results52, go_sem, k0, k1]) rfl ⟨rfl, bA (by have := HB2.out.size; simp; omega) (bS (by simp) (bS (by simp) HB2.out))⟩

set_option maxRecDepth 100000 in
set_option maxHeartbeats 2000000 in
theorem Pts.impl_in (n : Nat) (hn : n ≤ 5) (v : Value) (l : List Int) (hlen : l.length ≤ 1000000000) (w : World) (hv : IntsIn w v l) :
    Calls Try.prog 48 #[.int .i64 n, v] w fun e w' => e = .returned (tbV (ptsT n l)) ∧ Below w.heap.size w w' := by
  obtain ⟨ad, cap, rfl, hl, _, hrd⟩ := hv
  have HI := Lib.hid (Tab.bits_yes (n : Int) ⟨by omega, by omega⟩)
  have hn5 : (n : Int) ≤ 5 := by omega
  have h32 := two_pow_le n hn
  have hpos : 0 < 2 ^ n := Nat.pow_pos (by decide)
  have HRD := Lib.hid hrd
  have HY := Lib.hid (ptsT_yes (l := l) hn)
  have HNO := Lib.hid (fun k => ptsT_no2 (n := n) (l := l) (k := k))
  have HP := Lib.hid (fun g hg => (hulPts (g := g) hn hg).2)
  have HH := Lib.hid (fun g hg => Hul.impl_yes n g hn (hulPts (g := g) hn hg).1 (hulPts (g := g) hn hg).2)
  have HBIG := Lib.hid (fun (g y : Nat) (hg : g < 2 ^ 2 ^ n) (hy : y < 2 ^ n) => (Nat.or_lt_two_pow hg (Nat.pow_lt_pow_right (by decide) hy) : g ||| 2 ^ y < 2 ^ 2 ^ n))
  have HZERO : Hid (0 < 2 ^ 2 ^ n) := Lib.hid (Nat.pow_pos (by decide))
  have HIS := Lib.hid (fun (x : Int) (w : World) => Tab.input n x hn w)
  have hp2 := up2 n
  generalize ptsT n l = r at *
  obtain ⟨M, hM⟩ : ∃ M, 2 ^ n = M := ⟨_, rfl⟩
  rw [hM] at h32 hpos HY HNO HP HH HBIG HZERO hp2
  have HYES := Lib.hid (fun (x : Int) (h : 0 ≤ x ∧ x ≤ (M : Int) - 1) => inpB_yes (n := n) (x := x) (by rw [hp2]; omega))
  have HNOT := Lib.hid (fun (x : Int) (h : ¬ (0 ≤ x ∧ x ≤ (M : Int) - 1)) => inpB_no (n := n) (x := x) (by rw [hp2]; omega))
  clear hM hn hrd hp2
  unfold tbV
  go_enter Try.func48, Try.ntmps48
  go_wp2_with fail
  refine (HI.out _).mono ?_
  rintro e w1 ⟨rfl, rfl⟩
  go_wp2_with fail
  go_loopw [6, 8, 15] (fun acc _ i wr => ∃ k g : Nat, i = .int .i64 (k : Int) ∧ k ≤ l.length ∧ acc = .int .u64 (g : Int) ∧ g = ptsK l k ∧ g < 2 ^ M ∧ (∀ j, j < k → 0 ≤ l.getD j 0 ∧ l.getD j 0 ≤ (M : Nat) - 1) ∧ wr.heap[w.heap.size]? = some (.cells #[.int .i64 0, .int .i64 0] 27 (0, 0)) ∧ Below w.heap.size w wr) (fun _ _ i _ => l.length - (intOf i).toNat)
  case atStart => exact ⟨0, 0, rfl, by omega, rfl, rfl, HZERO.out, fun j hj => absurd hj (by omega), heap_alloc_new w _, bA (Nat.le_refl _) (Below.refl _ _)⟩
  case round =>
    obtain ⟨k, g, rfl, hk, rfl, hg, hgl, hok, hblk, hbel⟩ := hrel
    have HG := Lib.hid hg
    have HGL := Lib.hid hgl
    have HOK := Lib.hid hok
    have HBLK := Lib.hid hblk
    have HBEL := Lib.hid hbel
    have hg32 := HP.out g hgl
    have hlz : w.heap.size < wr.heap.size := lt_of_block hblk
    obtain ⟨z0, z1, f0, f1⟩ := cells2 hblk
    clear hg hok hblk
    by_cases hlt : k < l.length
    · obtain ⟨b, off, rfl, hbw, hcl⟩ := HRD.out (by omega)
      have hcp : wr.cell? ⟨b, off + k, none⟩ = some (.int .i64 (l.getD k 0)) := (hbel.cell (p := ⟨b, off + k, none⟩) hbw).trans (hcl k hlt)
      have hkz : (k : Int) < (l.length : Int) := by omega
      have HNK := Lib.hid (HNO.out k hlt)
      have HGK : Hid (ptsK l (k + 1) = g ||| 2 ^ (l.getD k 0).toNat) := Lib.hid (by rw [HG.out]; rfl)
      have HXK : Hid (∀ j, j < k + 1 → j ≠ k → 0 ≤ l.getD j 0 ∧ l.getD j 0 ≤ (M : Nat) - 1) := Lib.hid (fun j h1 h2 => HOK.out j (by omega))
      clear hcl hbel hgl
      generalize hx : l.getD k 0 = x at *
      have HX := Lib.hid hx
      clear hx
      by_cases hin : 0 ≤ x ∧ x ≤ (M : Int) - 1
      · have HIX := Lib.hid (HIS.out x)
        rw [HYES.out x hin] at HIX
        obtain ⟨y, rfl⟩ := Int.eq_ofNat_of_zero_le hin.1
        have hy : y < M := by omega
        have HB2 := Lib.hid (HBIG.out g y HGL.out hy)
        rw [Int.toNat_natCast] at HGK
        clear hin HNK
        go_wp2_with fail
        refine (HIX.out _).mono ?_
        rintro e w2 ⟨rfl, rfl⟩
        go_wp2_with fail
        refine (Tab.withBit g y (by omega) (by omega) _).mono ?_
        rintro e w2 ⟨rfl, rfl⟩
        go_wp2_with fail
        go_roundw
        case rel => exact ⟨k + 1, g ||| 2 ^ y, by go_num, by omega, rfl, HGK.out.symm, HB2.out, fun j hj => by
          by_cases e : j = k
          · rw [e, HX.out]; omega
          · exact HXK.out j hj e, HBLK.out, HBEL.out⟩
        case measure => simp [intOf] <;> omega
      · have HIX := Lib.hid (HIS.out x)
        rw [HNOT.out x hin] at HIX
        have HR := Lib.hid (HNK.out (by omega))
        clear hin
        go_wp2_with fail
        refine (HIX.out _).mono ?_
        rintro e w2 ⟨rfl, rfl⟩
        go_wp2
        rw [HR.out]
        obtain ⟨k0, k1⟩ := keepT (Y := wr) (g := w.heap.size) (u := .int .i64 0) (v := .int .i64 0) z0 z1
        exact bodyPost_ret (v := .tuple #[.agg #[.int .i64 0, .int .i64 0], .bool false]) (by simp [results, Try.results48, go_sem, k0, k1]) rfl ⟨rfl, bS (by simp) (bS (by simp) HBEL.out)⟩
    · obtain rfl : k = l.length := by omega
      have HR := Lib.hid (HY.out HOK.out)
      have HHG := Lib.hid (HH.out g HGL.out)
      rw [← HG.out] at HR
      have hg63 : (g : Int) ≤ 9223372036854775807 := by omega
      clear HH HY HNO hbel hgl
      go_wp2_with fail
      refine (Tab.table n g hg63 _).mono ?_
      rintro e w2 ⟨rfl, hb2⟩
      have HBLK2 := Lib.hid (blockOn HBLK.out hb2)
      have HB2 := Lib.hid (bB hb2 HBEL.out.size HBEL.out)
      clear hb2 z0 z1 f0 f1
      go_wp2_with fail
      refine (HHG.out _).mono ?_
      rintro e w3 ⟨rfl, hb3⟩
      obtain ⟨y0, y1, e0, e1⟩ := cells2 (blockOn HBLK2.out hb3)
      have hs3 := hb3.size
      have HB3 := Lib.hid (bB hb3 HB2.out.size HB2.out)
      clear hb3
      go_wp2
      rw [HR.out]
      obtain ⟨k0, k1⟩ := keepT (Y := w3) (g := w.heap.size) (u := .int .i64 n) (v := .int .i64 (hulW n g : Int)) y0 y1
      exact bodyPost_ret (v := .tuple #[.agg #[.int .i64 n, .int .i64 (hulW n g : Int)], .bool true]) (by simp [results, Try.results48, go_sem, k0, k1]) rfl ⟨rfl, bS (by simp) (bS (by simp) HB3.out)⟩

/-- TableOfPoints. -/
theorem Pts.model (n : Int) (v : Value) (l : List Int) (hlen : l.length ≤ 1000000000) (w : World) (hv : IntsIn w v l) :
    Calls Try.prog 52 #[.int .i64 n, v] w fun e w' => e = .returned (tbV (ptsT n l)) ∧ Below w.heap.size w w' := by
  by_cases h : 0 ≤ n ∧ n ≤ 5
  · obtain ⟨n, rfl⟩ := Int.eq_ofNat_of_zero_le h.1
    exact Pts.model_in n (by omega) v l hlen w hv
  · rw [ptsT_no1 h]; exact Pts.model_no n l h v w
theorem Pts.impl (n : Int) (v : Value) (l : List Int) (hlen : l.length ≤ 1000000000) (w : World) (hv : IntsIn w v l) :
    Calls Try.prog 48 #[.int .i64 n, v] w fun e w' => e = .returned (tbV (ptsT n l)) ∧ Below w.heap.size w w' := by
  by_cases h : 0 ≤ n ∧ n ≤ 5
  · obtain ⟨n, rfl⟩ := Int.eq_ofNat_of_zero_le h.1
    exact Pts.impl_in n (by omega) v l hlen w hv
  · rw [ptsT_no1 h]; exact Pts.impl_no n l h v w
end Go.Proofs.Ytlmhdocfdpbhmaa
