/-
  Chapter 15, the program: raising points by a closure that calls itself; MonotoneHull, IsMonotone.
-/
import Derived.Test.YtlmhdocfdpbhmaaMonP
import Derived.Test.YtlmhdocfdpbhmaaTabK
import Derived.Test.YtlmhdocfdpbhmaaResB
import Derived.Test.YtlmhdocfdpbhmaaSenE
import Derived.RangeFuncBox
import Derived.Laws.EntriesVeiled
import Derived.Deep.RegionHeld3
import Derived.Deep.RegionWith
namespace Go.Proofs.Ytlmhdocfdpbhmaa
open Go.RowKit Plain
set_option linter.unusedVariables false
set_option linter.unusedSimpArgs false
attribute [local go_sem ↓] Go.wp_at_zero Go.wp_at_succ

/-- What the closure of MonotoneHull is. -/
def rsF (p q r : Nat) : Value := .func (.func 90) #[] #[.pointer (some ⟨p, 0, none⟩), .pointer (some ⟨q, 0, none⟩), .pointer (some ⟨r, 0, none⟩)]
/-- The three blocks that the closure reaches: the hull, the table, the closure itself. -/
structure RsAt (w : World) (p q r n a h : Nat) : Prop where
  hull : w.heap[p]? = some (.cells #[.int .u64 (h : Int)] 84 (0, 0))
  tab : w.heap[q]? = some (.cells #[.int .i64 n, .int .i64 a] 27 (0, 0))
  clo : w.heap[r]? = some (.cells #[rsF p q r] 85 (0, 0))
theorem RsAt.cells {w : World} {p q r n a h : Nat} (H : RsAt w p q r n a h) :
    w.cell? ⟨p, 0, none⟩ = some (.int .u64 (h : Int)) ∧ w.cell? ⟨q, 0, none⟩ = some (.int .i64 n) ∧ w.cell? ⟨q, 1, none⟩ = some (.int .i64 a) ∧ w.cell? ⟨r, 0, none⟩ = some (rsF p q r) ∧
    w.frozen? ⟨p, 0, none⟩ = false := by
  refine ⟨?_, (cells2 H.tab).1, (cells2 H.tab).2.1, ?_, ?_⟩
  · exact Boxed.cell (W := w) (B := p) H.hull
  · exact Boxed.cell (W := w) (B := r) H.clo
  · exact Boxed.frozen (W := w) (B := p) H.hull
theorem RsAt.grown {w w' : World} {p q r n a h g : Nat} (H : RsAt w p q r n a h) (hg : w.grownBy w' (some p)) (hq : q ≠ p) (hr : r ≠ p) (hh : w'.heap[p]? = some (.cells #[.int .u64 (g : Int)] 84 (0, 0))) : RsAt w' p q r n a g :=
  ⟨hh, (hg.block q (lt_of_block H.tab) (fun e => hq (Option.some.inj e))).trans H.tab, (hg.block r (lt_of_block H.clo) (fun e => hr (Option.some.inj e))).trans H.clo⟩
theorem RsAt.set {w : World} {p q r n a h : Nat} (H : RsAt w p q r n a h) (g : Nat) (hq : q ≠ p) (hr : r ≠ p) : RsAt (w.setCell ⟨p, 0, none⟩ (.int .u64 (g : Int))) p q r n a g :=
  H.grown (grownBy_setCell' w p _) hq hr (Boxed.set (B := p) _ H.hull)
theorem grown_trans {a b c : World} {r : Option Nat} (h1 : a.grownBy b r) (h2 : b.grownBy c r) : a.grownBy c r :=
  ⟨h2.os.trans h1.os, h2.tape.trans h1.tape, h2.output.trans h1.output, Nat.le_trans h1.size h2.size, fun i hi hn => (h2.block i (Nat.lt_of_lt_of_le hi h1.size) hn).trans (h1.block i hi hn)⟩

theorem RsAt.drew {w : World} {p q r n a h : Nat} (H : RsAt w p q r n a h) : RsAt w.drew p q r n a h := ⟨H.hull, H.tab, H.clo⟩
theorem grown_drew {w w' : World} {r : Option Nat} (h : w.drew.grownBy w' r) : w.grownBy w' r := ⟨h.os, h.tape, h.output, h.size, h.block⟩
theorem bit_test1 {a x : Nat} : bitN a x = 1 ↔ a.testBit x = true := bitN_one a x
theorem word_lim {n h : Nat} (hn : n ≤ 5) (hh : h < 2 ^ 2 ^ n) : (h : Int) ≤ 4294967295 := by
  have hq := two_pow_le n hn
  have hpw : 2 ^ 2 ^ n ≤ 2 ^ 32 := Nat.pow_le_pow_right (by decide) (by omega)
  omega

/-- What the closure does: the hull has x, and what must be above it. -/
def RsOut (p q r n a h x : Nat) (w : World) (e : Ending) (w' : World) : Prop :=
  e = .returned (.tuple #[]) ∧ ∃ g, Rse n h x g ∧ RsAt w' p q r n a g ∧ w.grownBy w' (some p)

set_option maxRecDepth 100000 in
theorem Rse.has (p q r n a h x : Nat) (hn : n ≤ 5) (hx : x < 2 ^ n) (hh : h < 2 ^ 2 ^ n) (hb : h.testBit x = true) (w : World) (H : RsAt w p q r n a h) :
    Calls Try.prog 90 #[.int .i64 x, .pointer (some ⟨p, 0, none⟩), .pointer (some ⟨q, 0, none⟩), .pointer (some ⟨r, 0, none⟩)] w (RsOut p q r n a h x w) := by
  have hl := word_lim hn hh
  have h32 := two_pow_le n hn
  have hx32 : x < 32 := by omega
  have HE := Lib.hid (bit_test1.2 hb)
  have HR := Lib.hid (rse_has hh hb)
  have HH := Lib.hid H
  obtain ⟨c0, c1, c2, c3, f0⟩ := H.cells
  clear hh hb H hx h32
  go_enter Try.func90, Try.ntmps90
  go_wp2_with fail
  refine (Tab.at h x (by omega) (by omega) _).mono ?_
  rintro e w1 ⟨rfl, rfl⟩
  rw [HE.out]
  go_wp2
  exact bodyPost_ret (v := .tuple #[]) (by simp [results, Try.results90, go_sem]) rfl ⟨rfl, h, HR.out, HH.out, World.grownBy.refl _ _⟩

theorem shl_at (k : Nat) (hk : k < 6) : IntKind.i64.wrap ((2 : Int) ^ k) = ((2 ^ k : Nat) : Int) ∧ wrap64 ((2 : Int) ^ k) = ((2 ^ k : Nat) : Int) ∧ 2 ^ k ≤ 32 := by
  rcases (show k = 0 ∨ k = 1 ∨ k = 2 ∨ k = 3 ∨ k = 4 ∨ k = 5 by omega) with rfl | rfl | rfl | rfl | rfl | rfl <;> decide +kernel

set_option maxRecDepth 100000 in
set_option maxHeartbeats 2000000 in
theorem Rse.any (p q r n a : Nat) (hn : n ≤ 5) (hqp : q ≠ p) (hrp : r ≠ p) : ∀ m x h : Nat, 2 ^ n - x ≤ m → x < 2 ^ n → h < 2 ^ 2 ^ n → ∀ w, RsAt w p q r n a h →
    Calls Try.prog 90 #[.int .i64 x, .pointer (some ⟨p, 0, none⟩), .pointer (some ⟨q, 0, none⟩), .pointer (some ⟨r, 0, none⟩)] w (RsOut p q r n a h x w) := by
  intro m
  induction m with
  | zero => intro x h hm hx; exact absurd hm (by omega)
  | succ m ih =>
    intro x h hm hx hh w H
    cases hb : h.testBit x with
    | true => exact Rse.has p q r n a h x hn hx hh hb w H
    | false =>
      have hl := word_lim hn hh
      have h32 := two_pow_le n hn
      have hx32 : x < 32 := by omega
      have hn5 : (n : Int) ≤ 5 := by omega
      have HE : Hid (bitN h x = 0) := Lib.hid (by
        rcases bitN_cases h x with h0 | h1
        · exact h0
        · rw [bit_test1.1 h1] at hb; exact absurd hb (by decide))
      have HS := Lib.hid (lse_start hh hx)
      have HH := Lib.hid H
      have HREC : Hid (∀ (k g : Nat) (W : World), k < n → Lse n h x k g → RsAt W p q r n a g → Calls Try.prog 90 #[.int .i64 ((x ||| 2 ^ k : Nat) : Int), .pointer (some ⟨p, 0, none⟩), .pointer (some ⟨q, 0, none⟩), .pointer (some ⟨r, 0, none⟩)] W (RsOut p q r n a g (x ||| 2 ^ k) W)) := Lib.hid (by
        intro k g W hk L R
        have hxk := or_lt hx hk
        by_cases hq : x ||| 2 ^ k = x
        · exact Rse.has p q r n a g _ hn hxk L.lt (by rw [hq]; exact L.it) W R
        · have hge : x ≤ x ||| 2 ^ k := Nat.left_le_or
          exact ih _ g (by omega) hxk L.lt W R)
      obtain ⟨c0, c1, c2, c3, f0⟩ := H.cells
      clear ih hm hb H hx hh h32
      go_enter Try.func90, Try.ntmps90
      go_wp2_with fail
      refine (Tab.at h x (by omega) (by omega) _).mono ?_
      rintro e w1 ⟨rfl, rfl⟩
      rw [HE.out]
      go_wp2_with fail
      refine (Tab.withBit h x (by omega) (by omega) _).mono ?_
      rintro e w1 ⟨rfl, rfl⟩
      have HR1 := Lib.hid (HH.out.set (h ||| 2 ^ x) hqp hrp)
      have HG1 := Lib.hid (grownBy_setCell' w p (.int .u64 ((h ||| 2 ^ x : Nat) : Int)))
      obtain ⟨d0, d1, d2, d3, g0⟩ := HR1.out.cells
      go_wp2_with fail
      clear d0 d1 d2 d3 g0 c0 c1 c2 c3 f0
      go_loopw [5, 15] (fun _ i wr => ∃ k g : Nat, i = .int .i64 (k : Int) ∧ k ≤ n ∧ Lse n h x k g ∧ RsAt wr p q r n a g ∧ w.grownBy wr (some p)) (fun _ i _ => n - (intOf i).toNat)
      case atStart => exact ⟨0, _, rfl, by omega, HS.out, HR1.out, HG1.out⟩
      case round =>
        obtain ⟨k, g, rfl, hk, hls, hrs, hgr⟩ := hrel
        have HLS := Lib.hid hls
        have HRS := Lib.hid hrs
        have HGR := Lib.hid hgr
        obtain ⟨d0, d1, d2, d3, g0⟩ := hrs.cells
        clear hls hrs hgr
        by_cases hlt : k < n
        · have hkn : (k : Int) < (n : Int) := by omega
          obtain ⟨hs1, hs2, hs3⟩ := shl_at k (by omega)
          have hor := or64 x (2 ^ k) (by omega) (by omega)
          have HC := Lib.hid (HREC.out k g)
          have HST := Lib.hid (fun g2 => lse_step (g2 := g2) HLS.out)
          unfold rsF at d3
          generalize 2 ^ k = P at *
          go_wp2_with fail
          go_region_held3 (fun w' => w'.cell? ⟨r, 0, none⟩ = some (.func (.func 90) #[] #[.pointer (some ⟨p, 0, none⟩), .pointer (some ⟨q, 0, none⟩), .pointer (some ⟨r, 0, none⟩)]))
            (first | go_keep | exact e3)
            (first | (go_at_call 90; refine (HC.out _ (by omega) HLS.out (HRS.out.drew)).mono ?_; rintro e w3 ⟨rfl, g2, hr2, ha2, hg2⟩; have e3 := ha2.cells.2.2.2.1; unfold rsF at e3))
          all_goals
            go_wp2
            go_roundw
            case rel => exact ⟨k + 1, g2, by go_num, by omega, HST.out g2 hr2, ha2, grown_trans HGR.out (grown_drew hg2)⟩
            case measure => simp [intOf] <;> omega
        · obtain rfl : k = n := by omega
          go_wp2
          exact bodyPost_end (v := .tuple #[]) (by simp [results, Try.results90, go_sem]) rfl ⟨rfl, g, lse_end HLS.out, HRS.out, HGR.out⟩

theorem blockAlloc1 {w : World} {b : Nat} {o : Obj} (h : w.heap[b]? = some o) (p : Obj) : (w.alloc p).heap[b]? = some o := ((World.grownBy_alloc w p none).block b (lt_of_block h) (by simp)).trans h
/-- What MonotoneHull answers. -/
def Plain.hulT (n a : Int) : Int × Int × Bool := if isT n a = true then (n, (hulW n.toNat a.toNat : Int), true) else (0, 0, false)
theorem hulT_yes {n a : Nat} (h : isT n a = true) : hulT n a = ((n : Int), (hulW n a : Int), true) := if_pos h
theorem hulT_no {n a : Int} (h : isT n a = false) : hulT n a = (0, 0, false) := if_neg (by rw [h]; decide)
/-- A table, a bool: how it is returned. -/
def tbV (t : Int × Int × Bool) : Value := .tuple #[.agg #[.int .i64 t.1, .int .i64 t.2.1], .bool t.2.2]

theorem Hul.impl_no (n a : Int) (hb : -9223372036854775808 ≤ a ∧ a ≤ 9223372036854775807) (ht : isT n a = false) (w : World) :
    Calls Try.prog 45 #[.agg #[.int .i64 n, .int .i64 a]] w fun e w' => e = .returned (.tuple #[.agg #[.int .i64 0, .int .i64 0], .bool false]) ∧ Below w.heap.size w w' := by
  have H := Lib.hid ht
  have HB := Lib.hid hb
  clear ht hb
  go_enter Try.func45, Try.ntmps45
  go_wp2_with fail
  refine (Tab.impl _ _ HB.out _).mono ?_
  rintro e w1 ⟨rfl, hb1⟩
  obtain ⟨hc1, hf1⟩ := bcell hb1
  have hz : w.heap.size + 1 < w1.heap.size := by have := hb1.size; simp at this; omega
  rw [H.out]
  go_wp2
  exact bodyPost_ret (v := .tuple #[.agg #[.int .i64 0, .int .i64 0], .bool false]) (by simp [results, Try.results45, go_sem, hc1]) rfl ⟨rfl, by exact (((((Below.refl _ _).alloc (Nat.le_refl _) _).alloc (by simp) _).trans (hb1.mono (by simp; omega))).setCell (by simp) _).setCell (by simp) _⟩

set_option maxRecDepth 100000 in
set_option maxHeartbeats 2000000 in
theorem Hul.impl_yes (n a : Nat) (hn : n ≤ 5) (ht : isT n a = true) (ha : (a : Int) ≤ 4294967295) (w : World) :
    Calls Try.prog 45 #[.agg #[.int .i64 n, .int .i64 a]] w fun e w' => e = .returned (.tuple #[.agg #[.int .i64 n, .int .i64 (hulW n a : Int)], .bool true]) ∧ Below w.heap.size w w' := by
  have H := Lib.hid ht
  have HN := Lib.hid hn
  have hn5 : (n : Int) ≤ 5 := by omega
  have h32 := two_pow_le n hn
  have HC := Lib.hid (Tab.count n hn)
  obtain ⟨M, hM⟩ : ∃ M, 2 ^ n = M := ⟨_, rfl⟩
  rw [hM] at h32 HC
  have HM := Lib.hid hM
  clear hM
  have hwa : IntKind.u64.wrap (a : Int) = a := by rw [IntKind.wrap_u64]; omega
  have HL := Lib.hid (word_lim (n := n) (h := hulW n a) hn (hulW_lt n a))
  clear ht hn
  go_enter Try.func45, Try.ntmps45
  go_wp2_with fail
  refine (Tab.impl _ _ (by omega) _).mono ?_
  rintro e w1 ⟨rfl, hb1⟩
  rw [H.out]
  have hz : w.heap.size + 2 ≤ w1.heap.size := by simpa using hb1.size
  have HT := Lib.hid (blockOn (b := w.heap.size) (heap_alloc2_old w _ _) hb1)
  have HZ := Lib.hid (blockOn (b := w.heap.size + 1) (heap_alloc2_new w _ _) hb1)
  have HB1 := Lib.hid (bB hb1 (by simp; omega) (bA (by simp) (bA (Nat.le_refl _) (Below.refl w.heap.size w))))
  obtain ⟨c0, c1, f0, f1⟩ := cells2 HT.out
  clear hb1
  obtain ⟨X3, hX3⟩ : ∃ X3, (w1.alloc (.cells #[.int .u64 0] 84)).alloc (.cells #[rsF w1.heap.size w.heap.size (w1.heap.size + 1)] 85) = X3 := ⟨_, rfl⟩
  have HRS := Lib.hid (show RsAt X3 w1.heap.size w.heap.size (w1.heap.size + 1) n a 0 from by
    subst hX3
    refine ⟨blockAlloc1 (heap_alloc_new w1 _) _, blockAlloc1 (blockAlloc1 HT.out _) _, ?_⟩
    have e1 : (w1.alloc (.cells #[.int .u64 0] 84)).heap.size = w1.heap.size + 1 := by simp
    have := Boxed.new (w1.alloc (.cells #[.int .u64 0] 84)) 85 (rsF w1.heap.size w.heap.size (w1.heap.size + 1))
    rw [e1] at this
    exact this)
  have HZ3 := Lib.hid (show X3.heap[w.heap.size + 1]? = some (.cells #[.int .i64 0, .int .i64 0] 27 (0, 0)) from hX3 ▸ blockAlloc1 (blockAlloc1 HZ.out _) _)
  have HB3 := Lib.hid (show Below w.heap.size w X3 from hX3 ▸ bA (by simp; omega) (bA (by omega) HB1.out))
  have hz3 : w1.heap.size + 2 ≤ X3.heap.size := by rw [← hX3]; simp
  have HX3 := Lib.hid hX3
  unfold rsF at HX3
  clear hX3
  have c0 := keepA (o := .cells #[.func (.func 90) #[] #[.pointer (some ⟨w1.heap.size, 0, none⟩), .pointer (some ⟨w.heap.size, 0, none⟩), .pointer (some ⟨w1.heap.size + 1, 0, none⟩)]] 85) (keepA (o := .cells #[.int .u64 0] 84) c0)
  have c1 := keepA (o := .cells #[.func (.func 90) #[] #[.pointer (some ⟨w1.heap.size, 0, none⟩), .pointer (some ⟨w.heap.size, 0, none⟩), .pointer (some ⟨w1.heap.size + 1, 0, none⟩)]] 85) (keepA (o := .cells #[.int .u64 0] 84) c1)
  go_wp2_with fail
  refine (HC.out _).mono ?_
  rintro e w2 ⟨rfl, rfl⟩
  rw [HX3.out]
  clear c0 c1 f0 f1 HX3 HT HZ HB1 H
  go_wp2_with fail
  obtain ⟨p, hp⟩ : ∃ p, w1.heap.size = p := ⟨_, rfl⟩
  rw [hp] at HRS hz hz3 ⊢
  have HRA := Lib.hid (Rse.any p w.heap.size (p + 1) n a HN.out (by omega) (by omega))
  clear hp
  go_loopw [7, 19] (fun _ i wr => ∃ k g : Nat, i = .int .i64 (k : Int) ∧ k ≤ M ∧ Hse n a k g ∧ RsAt wr p w.heap.size (p + 1) n a g ∧ wr.heap[w.heap.size + 1]? = some (.cells #[.int .i64 0, .int .i64 0] 27 (0, 0)) ∧ Below w.heap.size w wr ∧ p + 2 ≤ wr.heap.size) (fun _ i _ => 32 - (intOf i).toNat)
  case atStart => exact ⟨0, 0, rfl, Nat.zero_le _, hse_start n a, HRS.out, HZ3.out, HB3.out, hz3⟩
  case round =>
    obtain ⟨k, g, rfl, hk, hse, hrs, hzz, hbel, hsz⟩ := hrel
    have HSE := Lib.hid hse
    have HRSr := Lib.hid hrs
    have HZZ := Lib.hid hzz
    have HBEL := Lib.hid hbel
    obtain ⟨d0, d1, d2, d3, g0⟩ := hrs.cells
    unfold rsF at d3
    clear hse hrs hzz hbel
    by_cases hlt : k < M
    · have hkz : (k : Int) < (M : Int) := by omega
      cases hb : a.testBit k with
      | false =>
        have HNX := Lib.hid (hse_no HSE.out hb)
        have HE : Hid (bitN a k = 0) := Lib.hid (by
          rcases bitN_cases a k with h0 | h1
          · exact h0
          · rw [bit_test1.1 h1] at hb; exact absurd hb (by decide))
        clear hb
        go_wp2_with fail
        refine (Tab.at a k (by omega) (by omega) _).mono ?_
        rintro e w2 ⟨rfl, rfl⟩
        rw [HE.out]
        go_wp2_with fail
        go_roundw
        case rel => exact ⟨k + 1, g, by go_num, by omega, HNX.out, HRSr.out, HZZ.out, HBEL.out, hsz⟩
        case measure => simp [intOf] <;> omega
      | true =>
        have HE := Lib.hid (bit_test1.2 hb)
        have HNX := Lib.hid (fun g2 => hse_yes (g2 := g2) HSE.out hb)
        have HC2 := Lib.hid (HRA.out (2 ^ n) k g (Nat.sub_le _ _) (by rw [HM.out]; exact hlt) HSE.out.lt)
        clear hb
        go_wp2_with fail
        refine (Tab.at a k (by omega) (by omega) _).mono ?_
        rintro e w2 ⟨rfl, rfl⟩
        rw [HE.out]
        go_wp2_with fail
        refine (HC2.out _ HRSr.out).mono ?_
        rintro e w3 ⟨rfl, g2, hr2, ha2, hg2⟩
        have HA2 := Lib.hid ha2
        have HR2 := Lib.hid (HNX.out g2 hr2)
        have HZ2 := Lib.hid ((hg2.block (w.heap.size + 1) (lt_of_block HZZ.out) (by simp; omega)).trans HZZ.out)
        have HB2 := Lib.hid (HBEL.out.grown hg2 (by omega) (fun j hj => by have := Option.some.inj hj; omega))
        have hs2 := hg2.size
        clear hr2 ha2 hg2
        go_wp2_with fail
        go_roundw
        case rel => exact ⟨k + 1, g2, by go_num, by omega, HR2.out, HA2.out, HZ2.out, HB2.out, by omega⟩
        case measure => simp [intOf] <;> omega
    · obtain rfl : k = M := by omega
      obtain rfl : g = hulW n a := hse_end (n := n) (by rw [HM.out]; exact HSE.out)
      obtain ⟨z0, z1, g1, g2⟩ := cells2 HZZ.out
      have hgl : (hulW n a : Int) ≤ 9223372036854775807 := by have := HL.out; omega
      clear HSE
      go_wp2_with fail
      refine (Tab.table n (hulW n a) hgl _).mono ?_
      rintro e w2 ⟨rfl, hb2⟩
      obtain ⟨y0, y1, e1, e2⟩ := cells2 (blockOn HZZ.out hb2)
      have hs2 := hb2.size
      have HB2 := Lib.hid (bB hb2 (by omega) HBEL.out)
      clear hb2 z0 z1 g1 g2 d0 d1 d2 d3 g0
      go_wp2
      obtain ⟨k0, k1⟩ := keepT (Y := w2) (g := w.heap.size + 1) (u := .int .i64 n) (v := .int .i64 (hulW n a : Int)) y0 y1
      exact bodyPost_ret (v := .tuple #[.agg #[.int .i64 n, .int .i64 (hulW n a : Int)], .bool true]) (by simp [results, Try.results45, go_sem, k0, k1]) rfl ⟨rfl, bS (by simp) (bS (by simp) HB2.out)⟩

/-- MonotoneHull. -/
theorem Hul.impl (n a : Int) (hb : -9223372036854775808 ≤ a ∧ a ≤ 9223372036854775807) (w : World) :
    Calls Try.prog 45 #[.agg #[.int .i64 n, .int .i64 a]] w fun e w' => e = .returned (tbV (hulT n a)) ∧ Below w.heap.size w w' := by
  cases ht : isT n a with
  | false => rw [hulT_no ht]; exact Hul.impl_no n a hb ht w
  | true =>
    obtain ⟨n, a, rfl, rfl, hn, ha⟩ := isT_nat ht
    rw [hulT_yes ht]
    exact Hul.impl_yes n a hn ht (by have := fullN_le n hn; omega) w

/-- What IsMonotone answers. -/
def Plain.monT (n a : Int) : Bool := isT n a && monB n.toNat a.toNat
theorem hulT_mon (n a : Int) : (hulT n a).2.2 = isT n a ∧ (isT n a = true → (hulT n a).1 = n) ∧ (isT n a = true → ((hulT n a).2.1 == a) = monT n a) ∧ (isT n a = false → monT n a = false) := by
  cases ht : isT n a with
  | false => rw [hulT_no ht]; refine ⟨rfl, by simp, by simp, fun _ => ?_⟩; unfold Plain.monT; rw [ht]; rfl
  | true =>
    obtain ⟨n, a, rfl, rfl, hn, ha⟩ := isT_nat ht
    rw [hulT_yes ht]
    refine ⟨rfl, fun _ => rfl, fun _ => ?_, by simp⟩
    unfold Plain.monT
    rw [ht, Bool.true_and, Int.toNat_natCast, Int.toNat_natCast]
    have h := hul_self (n := n) (a := a) (fullN_lt a ha)
    cases hm : monB n a with
    | true => rw [h.2 hm]; simp
    | false =>
      rw [beq_eq_false_iff_ne]
      intro he
      have : hulW n a = a := by have h0 : (hulW n a : Int) = a := he; omega
      rw [h.1 this] at hm; exact absurd hm (by decide)

set_option maxRecDepth 100000 in
theorem Mon.impl (n a : Int) (hb : -9223372036854775808 ≤ a ∧ a ≤ 9223372036854775807) (w : World) :
    Calls Try.prog 24 #[.agg #[.int .i64 n, .int .i64 a]] w fun e w' => e = .returned (.bool (monT n a)) ∧ Below w.heap.size w w' := by
  have HI := Lib.hid (Hul.impl n a hb)
  obtain ⟨h1, h2, h3, h4⟩ := hulT_mon n a
  unfold tbV at HI
  rw [h1] at HI
  generalize hulT n a = r at *
  obtain ⟨r1, r2, r3⟩ := r
  dsimp only at *
  cases ht : isT n a with
  | false =>
    rw [ht] at HI
    have HM := Lib.hid (h4 ht)
    clear h1 h2 h3 h4 ht hb
    go_enter Try.func24, Try.ntmps24
    go_wp2_with fail
    refine (HI.out _).mono ?_
    rintro e w1 ⟨rfl, hb1⟩
    obtain ⟨hc, hf⟩ := bcell hb1
    have hz : w.heap.size < w1.heap.size := by have := hb1.size; simp at this; omega
    go_wp2
    go_ret
    exact ⟨by rw [HM.out]; rfl, bA (by omega) (bB hb1 (by simp) (bA (Nat.le_refl _) (Below.refl _ _)))⟩
  | true =>
    rw [ht] at HI
    obtain rfl := h2 ht
    have HM := Lib.hid (h3 ht)
    clear h1 h2 h3 h4 ht hb
    go_enter Try.func24, Try.ntmps24
    go_wp2_with fail
    refine (HI.out _).mono ?_
    rintro e w1 ⟨rfl, hb1⟩
    obtain ⟨hc, hf⟩ := bcell hb1
    have hz : w.heap.size < w1.heap.size := by have := hb1.size; simp at this; omega
    have HB1 := Lib.hid (bA (o := .cells #[.int .i64 r1, .int .i64 r2] 27) (by omega) (bB hb1 (by simp) (bA (Nat.le_refl _) (Below.refl w.heap.size w))))
    clear hb1
    by_cases hq : r2 = a
    · subst hq
      have HQ : Hid (monT r1 r2 = true) := Lib.hid (by rw [← HM.out]; simp)
      go_wp2
      go_ret
      exact ⟨by rw [HQ.out]; rfl, HB1.out⟩
    · have HQ : Hid (monT r1 a = false) := Lib.hid (by rw [← HM.out]; simp [hq])
      go_wp2
      go_ret
      exact ⟨by rw [HQ.out]; rfl, HB1.out⟩
end Go.Proofs.Ytlmhdocfdpbhmaa
