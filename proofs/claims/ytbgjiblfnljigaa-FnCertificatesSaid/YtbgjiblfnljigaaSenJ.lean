/-
  Chapter 10, the program: mostApart, MinimalBlocks, BlockSensitivityAt, BlockSensitivityOf.
-/
import Derived.Test.YtbgjiblfnljigaaSenI
import Derived.WalkMore
import Derived.Deep.LoopGhost
namespace Go.Proofs.Ytbgjiblfnljigaa
open Go.RowKit Plain
set_option linter.unusedVariables false

/-- A list of numbers that can be read. -/
def NtIn (w : World) (v : Value) (l : List Nat) : Prop :=
  ∃ a cap, v = .slice a l.length cap ∧ l.length ≤ cap ∧ (cap : Int) ≤ 9223372036854775807 ∧
    (0 < l.length → ∃ b off, a = some ⟨b, off, none⟩ ∧ b < w.heap.size ∧ ∀ j, j < l.length → w.cell? ⟨b, off + j, none⟩ = some (.int .i64 ((l.getD j 0 : Nat) : Int)))

theorem NtIn.below {w w' : World} {v : Value} {l : List Nat} (h : NtIn w v l) (hb : Below w.heap.size w w') : NtIn w' v l := by
  obtain ⟨a, cap, rfl, h1, h2, h3⟩ := h
  refine ⟨a, cap, rfl, h1, h2, fun h0 => ?_⟩
  obtain ⟨b, off, rfl, hlt, hc⟩ := h3 h0
  exact ⟨b, off, rfl, Nat.lt_of_lt_of_le hlt hb.size, fun j hj => (hb.cell (p := ⟨b, off + j, none⟩) hlt).trans (hc j hj)⟩

theorem NtIn.of_row {w : World} {B : Nat} {v : Value} {l : List Nat} (h : IntRow w B v (natI l)) : NtIn w v l := by
  have h0 := h
  have hl := natI_len l
  rcases h.2 with ⟨rfl, hn⟩ | ⟨g, cap, cur, rfl, hb, hg, hc, hm, _⟩
  · have hz : l.length = 0 := by omega
    exact ⟨none, 0, by rw [hz], by omega, by decide, fun h => absurd h (by omega)⟩
  · rw [hl] at hc
    refine ⟨_, cap, by rw [hl], hc, by unfold maxLen at hm; omega, fun _ => ⟨g, 0, rfl, (Array.getElem?_eq_some_iff.1 hg).1, fun j hj => ?_⟩⟩
    rw [Nat.zero_add, ← natI_at hj]
    exact h0.cell j (by omega)

/-- What is left of a slice behind the first k. -/
theorem slice_nums (b off len cap k : Nat) (hk : k ≤ len) (hc : len ≤ cap) : ∃ A, (len - k = 0 ∨ A = some ⟨b, off + k, none⟩) ∧ ∀ w', (Instr.slice 32 (.slice (some ⟨b, off, none⟩) len cap) (some (.int .i64 (k : Int))) none none).run Try.prog w' = .ok (.slice A (len - k) (cap - k)) w' := by
  have hadd : (⟨b, off, none⟩ : Addr).add (k * 1) = ⟨b, off + k, none⟩ := by unfold Addr.add; split <;> simp_all
  refine ⟨if cap = k then some ⟨b, off, none⟩ else some ⟨b, off + k, none⟩, ?_, fun w' => ?_⟩
  · by_cases h : cap = k
    · exact .inl (by omega)
    · exact .inr (if_neg h)
  · rw [run_slice_l (P := Try.prog) w' 32 (some ⟨b, off, none⟩) len cap (by kernel_rfl) .i64 (k : Int) (by omega) (by omega)]
    have hs : (sizeOf (Try.prog.elem 32)).run Try.prog w' = .ok 1 w' := by kernel_rfl
    rw [hs]
    rw [Nat.mul_one] at hadd
    simp [Result.andThen, sliced, hadd]

theorem NtIn.rest {w : World} {b off cap : Nat} {l : List Nat} {A : Option Addr} (h : NtIn w (.slice (some ⟨b, off, none⟩) l.length cap) l) (k : Nat) (hk : k ≤ l.length) (hA : l.length - k = 0 ∨ A = some ⟨b, off + k, none⟩) : NtIn w (.slice A (l.length - k) (cap - k)) (l.drop k) := by
  obtain ⟨a, cap', e, h1, h2, h3⟩ := h
  simp only [Value.slice.injEq, true_and] at e
  obtain ⟨rfl, rfl⟩ := e
  refine ⟨A, cap - k, by rw [List.length_drop], by rw [List.length_drop]; omega, by omega, fun h0 => ?_⟩
  rw [List.length_drop] at h0
  rcases hA with hz | rfl
  · omega
  · obtain ⟨b', off', e, hlt, hc⟩ := h3 (by omega)
    simp only [Option.some.injEq, Addr.mk.injEq, and_true] at e
    obtain ⟨rfl, rfl⟩ := e
    refine ⟨b, off + k, rfl, hlt, fun j hj => ?_⟩
    rw [List.length_drop] at hj
    have e2 : (l.drop k).getD j 0 = l.getD (k + j) 0 := by simp [List.getD_eq_getElem?_getD]
    rw [e2, Nat.add_assoc]
    exact hc (k + j) (by omega)

set_option maxRecDepth 100000 in
set_option maxHeartbeats 1000000 in
theorem Apart.step (l : List Nat) (u : Nat) (v : Value) (w : World) (hl : l.length ≤ 32) (hx : ∀ b ∈ l, b < 32) (hu : u < 32) (hin : NtIn w v l)
    (ih : ∀ (k u' : Nat) (v' : Value), k < l.length → u' < 32 → NtIn w v' (l.drop (k + 1)) → Calls Try.prog 62 #[v', .int .i64 u'] w fun e w' => e = .returned (.int .i64 (pck (l.drop (k + 1)) u' : Int)) ∧ w = w') :
    Calls Try.prog 62 #[v, .int .i64 u] w fun e w' => e = .returned (.int .i64 (pck l u : Int)) ∧ w = w' := by
  have HIN := Lib.hid hin
  obtain ⟨ad, cap, rfl, hcap, hcap2, hrd⟩ := hin
  have HRD := Lib.hid hrd
  have HIH := Lib.hid ih
  have HXL := Lib.hid hx
  have HL := Lib.hid hl
  have hlz : (l.length : Int) ≤ 32 := by omega
  obtain ⟨r, hr⟩ : ∃ r, pck l u = r := ⟨_, rfl⟩
  have HR := Lib.hid hr
  rw [hr]
  have HR0 : Hid (max 0 (pck (l.drop 0) u) = r) := Lib.hid (by rw [pck_start, List.drop_zero]; exact hr)
  clear ih hx hl hrd hr
  go_enter Try.func62, Try.ntmps62
  go_wp2_with fail
  go_loop [5, 6, 7, 10] (fun m _ _ i => ∃ k q : Nat, i = .int .i64 (k : Int) ∧ m = .int .i64 (q : Int) ∧ k ≤ l.length ∧ q ≤ 33 ∧ max q (pck (l.drop k) u) = r) (fun _ _ _ i => l.length - (intOf i).toNat)
  case atStart => exact ⟨0, 0, rfl, rfl, by omega, by omega, HR0.out⟩
  case round =>
    obtain ⟨k, q, rfl, rfl, hk, hq, hmx⟩ := hrel
    have HM := Lib.hid hmx
    clear hmx
    by_cases hlt : k < l.length
    · obtain ⟨b, off, rfl, hbw, hcl⟩ := HRD.out (by omega)
      have ck := hcl k hlt
      have hkz : (k : Int) < (l.length : Int) := by omega
      have hxk := HXL.out _ (getD_memN hlt)
      have hand := and64 (l.getD k 0) u (by omega) (by omega)
      have hor := or64 u (l.getD k 0) (by omega) (by omega)
      by_cases hz : l.getD k 0 &&& u = 0
      · have HY := Lib.hid (pck_yes hlt hz HM.out)
        have hul : u ||| l.getD k 0 < 32 := Nat.or_lt_two_pow (n := 5) hu hxk
        obtain ⟨A1, hA1, hsl⟩ := slice_nums b off l.length cap (k + 1) (by omega) hcap
        have hk1 : (((k + 1 : Nat)) : Int) = (k : Int) + 1 := by omega
        rw [hk1] at hsl
        have hwrap : IntKind.i64.wrap ((k : Int) + 1) = (k : Int) + 1 := IntWalk.i64_in _ ⟨by omega, by omega⟩
        have HC := Lib.hid (HIH.out k (u ||| l.getD k 0) (.slice A1 (l.length - (k + 1)) (cap - (k + 1))) hlt hul (HIN.out.rest (k + 1) (by omega) hA1))
        have hpl := pck_le (l.drop (k + 1)) (u ||| l.getD k 0)
        rw [List.length_drop] at hpl
        rw [hz] at hand
        generalize pck (l.drop (k + 1)) (u ||| l.getD k 0) = p at *
        generalize u ||| l.getD k 0 = u2 at *
        generalize l.getD k 0 = x at *
        have hp33 : (p : Int) ≤ 32 := by omega
        clear hcl hlt hz hA1 hk1
        go_wp2_with fail
        refine (HC.out).mono ?_
        rintro e w2 ⟨rfl, rfl⟩
        go_wp2_with fail
        all_goals
          go_round
          case rel => exact ⟨k + 1, max q (1 + p), by go_num, by (congr 1; (first | omega | (split <;> omega))), by omega, by omega, HY.out⟩
          case measure => simp [intOf] <;> omega
      · have HY := Lib.hid (pck_no hlt hz HM.out)
        have hbz : (((l.getD k 0 &&& u : Nat) : Int) == 0) = false := by rw [beq_eq_false_iff_ne]; omega
        generalize l.getD k 0 &&& u = y at *
        generalize l.getD k 0 = x at *
        clear hcl hlt hz hor
        go_wp2_with fail
        go_round
        case rel => exact ⟨k + 1, q, by go_num, rfl, by omega, by omega, HY.out⟩
        case measure => simp [intOf] <;> omega
    · obtain rfl : k = l.length := by omega
      have HE := Lib.hid (pck_end HM.out)
      go_wp2
      go_ret
      exact ⟨ret_int (by rw [HE.out]), rfl⟩

/-- mostApart. -/
theorem Apart.any (N : Nat) : ∀ (l : List Nat) (u : Nat) (v : Value) (w : World), l.length ≤ N → l.length ≤ 32 → (∀ b ∈ l, b < 32) → u < 32 → NtIn w v l →
    Calls Try.prog 62 #[v, .int .i64 u] w fun e w' => e = .returned (.int .i64 (pck l u : Int)) ∧ w = w' := by
  induction N with
  | zero =>
    intro l u v w h0 h1 h2 h3 h4
    exact Apart.step l u v w h1 h2 h3 h4 fun k _ _ hk => absurd hk (by omega)
  | succ N ih =>
    intro l u v w h0 h1 h2 h3 h4
    exact Apart.step l u v w h1 h2 h3 h4 fun k u' v' hk hu' hv' => ih (l.drop (k + 1)) u' v' w (by rw [List.length_drop]; omega) (by rw [List.length_drop]; omega) (fun b hb => h2 b (List.mem_of_mem_drop hb)) hu' hv'

/-- What MinimalBlocks answers. -/
def Plain.mblT (n a x : Int) : List Int := if setOk n a x then natI (blkL a.toNat x.toNat (2 ^ n.toNat)) else []

theorem mblT_yes {n a x : Nat} (ht : isT n a = true) (hx : (x : Int) < 2 ^ n) : mblT n a x = natI (blkL a x (2 ^ n)) := if_pos ⟨ht, by omega, hx⟩

theorem mblT_no {n a x : Int} (h : ¬ setOk n a x) : mblT n a x = [] := if_neg h

theorem setOk_yes {n a x : Nat} (ht : isT n a = true) (hx : (x : Int) < 2 ^ n) : decide (setOk n a x) = true := decide_eq_true ⟨ht, by omega, hx⟩

set_option maxRecDepth 100000 in
theorem MinB.impl_no1 (n a x : Int) (hb : -9223372036854775808 ≤ a ∧ a ≤ 9223372036854775807) (ht : isT n a = false) (w : World) :
    Calls Try.prog 19 #[.agg #[.int .i64 n, .int .i64 a], .int .i64 x] w fun e w' => e = .returned (.tuple #[.slice none 0 0, .bool false]) ∧ Below w.heap.size w w' := by
  have H := Lib.hid ht
  have HB := Lib.hid hb
  clear ht hb
  go_enter Try.func19, Try.ntmps19
  go_wp2_with fail
  go_step3
  go_wp2_with fail
  refine (Tab.impl _ _ HB.out _).mono ?_
  rintro e w1 ⟨rfl, hb1⟩
  obtain ⟨hc, hf⟩ := bcell hb1
  have hz0_w1 : w.heap.size < w1.heap.size := by have := hb1.size; simp at this; omega
  rw [H.out]
  go_wp2
  (try rw [Exit.noGoto_ret])
  exact bodyPost_ret (v := .tuple #[.slice none 0 0, .bool false]) (by simp [results, Try.results19, go_sem]) rfl ⟨rfl, bB hb1 (by simp) (bA (Nat.le_refl _) (Below.refl _ _))⟩

set_option maxRecDepth 100000 in
theorem MinB.impl_no2 (n a : Nat) (x : Int) (hn : n ≤ 5) (hb : -9223372036854775808 ≤ (a : Int) ∧ (a : Int) ≤ 9223372036854775807) (ht : isT n a = true) (hx : ¬ (0 ≤ x ∧ x < 2 ^ n)) (w : World) :
    Calls Try.prog 19 #[.agg #[.int .i64 n, .int .i64 a], .int .i64 x] w fun e w' => e = .returned (.tuple #[.slice none 0 0, .bool false]) ∧ Below w.heap.size w w' := by
  have H := Lib.hid ht
  have HB := Lib.hid hb
  have HN := Lib.hid hn
  have HX := Lib.hid (inpB_no hx)
  clear ht hb hn hx
  go_enter Try.func19, Try.ntmps19
  go_wp2_with fail
  go_step3
  go_wp2_with fail
  refine (Tab.impl _ _ HB.out _).mono ?_
  rintro e w1 ⟨rfl, hb1⟩
  obtain ⟨hc, hf⟩ := bcell hb1
  have hz0_w1 : w.heap.size < w1.heap.size := by have := hb1.size; simp at this; omega
  rw [H.out]
  go_wp2_with fail
  refine (Tab.input _ _ HN.out _).mono ?_
  rintro e w2 ⟨rfl, rfl⟩
  rw [HX.out]
  go_wp2
  (try rw [Exit.noGoto_ret])
  exact bodyPost_ret (v := .tuple #[.slice none 0 0, .bool false]) (by simp [results, Try.results19, go_sem]) rfl ⟨rfl, bB hb1 (by simp) (bA (Nat.le_refl _) (Below.refl _ _))⟩

theorem andNot_nat (p k : Nat) (hp : p ≤ 31) (hk : k ≤ 31) : (Go.bits .andNot .i64 (p : Int) (k : Int) == 0) = decide (p &&& k = p) := by
  have h := andNot_zero (p : Int) k (by omega) (by omega) (by omega)
  rw [Int.toNat_natCast] at h
  by_cases hc : p &&& k = p
  · rw [decide_eq_true hc]; exact beq_iff_eq.2 (h.2 ⟨by omega, hc⟩)
  · rw [decide_eq_false hc, beq_eq_false_iff_ne]
    exact fun he => hc (h.1 he).2

set_option maxRecDepth 100000 in
set_option maxHeartbeats 2000000 in
theorem MinB.impl_yes (n a x : Nat) (hn : n ≤ 5) (ht : isT n a = true) (ha : (a : Int) ≤ 4294967295) (hx : (x : Int) < 2 ^ n) (w : World) :
    Calls Try.prog 19 #[.agg #[.int .i64 n, .int .i64 a], .int .i64 x] w fun e w' => (∃ v, e = .returned (.tuple #[v, .bool true]) ∧ IntRow w' w.heap.size v (natI (blkL a x (2 ^ n)))) ∧ Below w.heap.size w w' := by
  have H := Lib.hid ht
  have HN := Lib.hid hn
  have HX := Lib.hid (inpB_yes (n := n) (x := (x : Int)) ⟨by omega, hx⟩)
  have hn5 : (n : Int) ≤ 5 := by omega
  obtain ⟨hp1, hp2⟩ := two_pow_int n hn
  have HC := Lib.hid (Tab.count n hn)
  have HIS : Hid (∀ k : Nat, (k : Int) < 2 ^ n → ∀ w : World, Calls Try.prog 17 #[.agg #[.int .i64 n, .int .i64 a], .int .i64 x, .int .i64 k] w fun e w' => e = .returned (.bool (senB a x k)) ∧ Below w.heap.size w w') := Lib.hid (by
    intro k hk w
    have h := IsSen.impl n a x (k : Int) (by omega) w
    rwa [isSen_in ht hx hk] at h)
  clear ht hn hx
  go_enter Try.func19, Try.ntmps19
  go_wp2_with fail
  go_step3
  go_wp2_with fail
  refine (Tab.impl _ _ (by omega) _).mono ?_
  rintro e w1 ⟨rfl, hb1⟩
  have X1 := blockC hb1 (heap_alloc_new w _)
  obtain ⟨c0, c1, f0, f1⟩ := cells2 X1
  have hz1 : w.heap.size < w1.heap.size := lt_of_block X1
  have HB1 : Hid (Below (w.heap.size + 1) (w.alloc (.cells #[.int .i64 n, .int .i64 a] 25)) w1) := Lib.hid (by simpa using hb1)
  clear X1 hb1
  rw [H.out]
  go_wp2_with fail
  refine (Tab.input _ _ HN.out _).mono ?_
  rintro e w2 ⟨rfl, rfl⟩
  rw [HX.out]
  go_wp2_with fail
  go_step3
  go_wp2_with fail
  refine (HC.out _).mono ?_
  rintro e w2 ⟨rfl, rfl⟩
  go_wp2_with fail
  clear c0 c1 f0 f1
  go_loopg [6, 23] 32 (fun g s i wr => ∃ (k : Nat) (v : Value), i = .int .i64 (k : Int) ∧ s = v ∧ k + g = 32 ∧ (k : Int) ≤ 2 ^ n ∧ IntRow wr (w.heap.size + 1) v (natI (blkL a x k)) ∧ Below (w.heap.size + 1) (w.alloc (.cells #[.int .i64 n, .int .i64 a] 25)) wr ∧ w.heap.size + 1 ≤ wr.heap.size)
  case atStart => exact ⟨0, _, rfl, rfl, by omega, by omega, ⟨by simp [intsV, natI, Plain.blkL], .inl ⟨rfl, rfl⟩⟩, HB1.out, by omega⟩
  case round =>
    obtain ⟨k, v, rfl, rfl, hkg, hk, hrow, hbel, hsz⟩ := hrel
    obtain ⟨G, rfl⟩ : ∃ G, G = gk := ⟨gk, rfl⟩
    have c0 : wr.cell? ⟨w.heap.size, 0, none⟩ = some (.int .i64 n) := (hbel.cell (by dsimp only; omega)).trans (keepN rfl rfl)
    have c1 : wr.cell? ⟨w.heap.size, 1, none⟩ = some (.int .i64 a) := (hbel.cell (by dsimp only; omega)).trans (keepN rfl rfl)
    have HROW := Lib.hid hrow
    have HBEL := Lib.hid hbel
    clear hrow hbel
    by_cases hlt : (k : Int) < 2 ^ n
    · have HI := Lib.hid (HIS.out k hlt)
      have hvl := blkL_len a x k
      have HML := Lib.hid (blkL_mem (a := a) (x := x) k)
      cases hd : senB a x k with
      | false =>
        have HV := Lib.hid (blkL_no1 hd)
        rw [hd] at HI
        clear hd
        go_wp2_with fail
        refine (HI.out _).mono ?_
        rintro e w2 ⟨rfl, hb2⟩
        have hsz2 := hb2.size
        have HR2 := Lib.hid (HROW.out.below hb2)
        have HB2 := Lib.hid (HBEL.out.trans (hb2.mono hsz))
        clear hb2
        go_wp2_with fail
        go_roundg (G - 1)
        case rel => exact ⟨k + 1, _, by go_num, rfl, by omega, by omega, by rw [HV.out]; exact HR2.out, HB2.out, by omega⟩
        case measure => omega
      | true =>
        have HD := Lib.hid hd
        rw [hd] at HI
        clear hd
        go_wp2_with fail
        refine (HI.out _).mono ?_
        rintro e w2 ⟨rfl, hb2⟩
        have hsz2 := hb2.size
        have hr2 := HROW.out.below hb2
        have HR2 := Lib.hid hr2
        have HN2 := Lib.hid (NtIn.of_row hr2)
        have HB2 := Lib.hid (HBEL.out.trans (hb2.mono hsz))
        have d0 : w2.cell? ⟨w.heap.size, 0, none⟩ = some (.int .i64 n) := keepB hb2 c0
        have d1 : w2.cell? ⟨w.heap.size, 1, none⟩ = some (.int .i64 a) := keepB hb2 c1
        clear hb2 c0 c1 hr2
        obtain ⟨Y, rfl⟩ : ∃ Y, Y = wr := ⟨wr, rfl⟩
        generalize hL : blkL a x k = L at *
        have HL := Lib.hid hL
        obtain ⟨ad, cap, rfl, hcap, hcap2, hrd⟩ := HN2.out
        have HRD := Lib.hid hrd
        have hlz : (L.length : Int) ≤ 32 := by omega
        clear hL hrd
        go_wp2_with fail
        go_loopg [33] L.length (fun g i wr => ∃ j : Nat, i = .int .i64 (j : Int) ∧ j + g = L.length ∧ w2 = wr ∧ ∀ p ∈ L.take j, p &&& k ≠ p)
        case atStart => exact ⟨0, rfl, by omega, rfl, fun p hp => absurd hp (by simp)⟩
        case round =>
          obtain ⟨j, rfl, hj, rfl, hno⟩ := hrel
          have HNO := Lib.hid hno
          clear hno
          by_cases hjl : j < L.length
          · obtain ⟨b, off, rfl, hbw, hcl⟩ := HRD.out (by omega)
            have ck := hcl j hjl
            have hjz : (j : Int) < (L.length : Int) := by omega
            have hmem := HML.out _ (getD_memN hjl)
            have hpk : L.getD j 0 < k := hmem.1
            have hbt := andNot_nat (L.getD j 0) k (by omega) (by omega)
            by_cases hc : L.getD j 0 &&& k = L.getD j 0
            · have HV := Lib.hid (blkL_no2 (a := a) (x := x) (k := k) (p := L.getD j 0) (by rw [HL.out]; exact getD_memN hjl) hc)
              rw [HL.out] at HV
              rw [decide_eq_true hc] at hbt
              generalize L.getD j 0 = p at *
              clear hc hcl hjl hmem hpk
              go_wp2_with fail
              go_roundg (G - 1)
              case rel => exact ⟨k + 1, _, by go_num, rfl, by omega, by omega, by rw [HV.out]; exact HR2.out, HB2.out, by omega⟩
              case measure => omega
            · have HNN := Lib.hid (part_next hjl HNO.out hc)
              rw [decide_eq_false hc] at hbt
              generalize L.getD j 0 = p at *
              clear hc hcl hjl hmem hpk
              go_wp2_with fail
              go_roundg (gk - 1)
              case rel => exact ⟨j + 1, by go_num, by omega, rfl, HNN.out⟩
              case measure => omega
          · obtain rfl : j = L.length := by omega
            have HV : Hid (blkL a x (k + 1) = L ++ [k]) := Lib.hid (by
              have h := blkL_yes HD.out (by rw [HL.out]; have h := HNO.out; rwa [List.take_length] at h)
              rwa [HL.out] at h)
            have HLI : Hid (natI (L ++ [k]) = natI L ++ [(k : Int)]) := Lib.hid (natI_snoc L k)
            have HLL : Hid ((natI L).length ≤ 10000000) := Lib.hid (by rw [natI_len]; omega)
            go_wp2_with (at_builtin; go_must (refine wp_int rfl _ _ rfl (w.heap.size + 1) _ w2 _ _ (k : Int) _ HR2.out HB2.out (by omega) HLL.out rfl rfl rfl ?_; intro v1 w4 k1 k2 k3))
            have hsz4 := k3.size
            go_roundg (G - 1)
            case rel => exact ⟨k + 1, v1, by go_num, rfl, by omega, by omega, by rw [HV.out, HLI.out]; exact k1, k2, by omega⟩
            case measure => omega
    · have he : k = 2 ^ n := by rw [up2] at hk hlt; omega
      have HE : Hid (blkL a x k = blkL a x (2 ^ n)) := Lib.hid (by rw [he])
      clear he
      go_wp2
      (try rw [Exit.noGoto_ret])
      exact bodyPost_ret (v := .tuple #[_, .bool true]) (by simp [results, Try.results19, go_sem]) rfl ⟨⟨_, rfl, HE.out ▸ HROW.out.base (by omega)⟩, ((Below.refl _ _).alloc (Nat.le_refl _) _).trans (HBEL.out.mono (by omega))⟩

end Go.Proofs.Ytbgjiblfnljigaa
