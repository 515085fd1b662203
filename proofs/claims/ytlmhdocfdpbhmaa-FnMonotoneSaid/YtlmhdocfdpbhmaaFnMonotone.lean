/-
  For every slice of bytes, the law of monotone tables returns true: minimal points give monotone tables back, duals exchange points and zeros, hulls are monotone and above, prime terms of monotone tables are their minimal points, and all of it is the model's. No condition of its own: the law itself asks nothing of slices longer than 1048576 bytes.
-/
import Derived.Test.YtlmhdocfdpbhmaaRows
import Derived.WalkKit
import Derived.ProofKit
import Derived.OpenShut
import Derived.ShutString
import Derived.Carry
import Derived.Below
import Derived.Lib.SmallJoins
import Derived.Test.YtlmhdocfdpbhmaaMonH
import Derived.Deep.RegionHeld3
import Derived.Deep.DeepCutAuto
import Derived.Deep.DrawnRows
import Derived.Deep.QuietTactic
import Derived.BigQuiet
namespace Go.Proofs.Ytlmhdocfdpbhmaa.fnMonotone
open Go.ChangeShapes Go.WideShapes Go.ChangeAt Go.RowKit
open Go.ChangeMaps (open_string shut_string)
open Go.Joins
set_option linter.unusedVariables false

theorem own : ownKnob Try.prog.godebug = none := by kernel_rfl
theorem laidOut : laidOutB Try.prog = true := by kernel_rfl

open Plain
attribute [local go_sem ↓] Go.wp_at_zero Go.wp_at_succ

/-- A slice of integers that came in: it is nil, or it leads to a row of 'cap' cells, the numbers 'zs', each fitting its kind. -/
def IsRow (k : IntKind) (w : World) (a : Option Addr) (len cap : Nat) (zs : List Int) : Prop :=
  (a = none ∧ len = 0 ∧ cap = 0 ∧ zs = []) ∨
  ∃ x, a = some x ∧ len ≤ cap ∧ cap ≤ maxLen ∧ zs.length = cap ∧ (∀ i, i < zs.length → w.cell? (x.add i) = some (.int k (zs.getD i 0))) ∧ ∀ n ∈ zs, (Lit.int k n).wf = true

theorem codeIn {w : World} {a : Option Addr} {len cap : Nat} {zs : List Int} (h : IsRow .u8 w a len cap zs) (hl : (len : Int) ≤ 1048576) : CodeIn w (.slice a len cap) len := by
  refine ⟨a, cap, rfl, by omega, fun h0 => ?_⟩
  rcases h with ⟨_, rfl, _⟩ | ⟨x, rfl, hlc, hm, hz, hcell, hwf⟩
  · omega
  · obtain ⟨ab, off, spot⟩ := x
    have hc := hcell 0 (by omega)
    have hspot : spot = none := by simpa [Addr.add] using World.cell?_spot hc
    subst hspot
    have hlt := World.block_lt_of_cell? w _ hc
    refine ⟨ab, off, rfl, by simpa [Addr.add] using hlt, fun j hj => ?_⟩
    have hj' : j < zs.length := by omega
    have hb := hwf (zs.getD j 0) (by simp [List.getD, hj'])
    have e1 : IntKind.u8.min = 0 := rfl
    have e2 : IntKind.u8.max = 255 := rfl
    simp only [Lit.wf, Bool.and_eq_true, decide_eq_true_eq, e1, e2] at hb
    have hadd : (⟨ab, off, none⟩ : Addr).add j = ⟨ab, off + j, none⟩ := by unfold Addr.add; split <;> simp_all
    exact ⟨zs.getD j 0, hb.1, hb.2, hadd ▸ hcell j hj'⟩


theorem rowOf {w : World} {a : Option Addr} {cap : Nat} {l : List Ti} (h : TmsIn w (.slice a l.length cap) l) :
    0 < l.length → ∃ b off, a = some ⟨b, off, none⟩ ∧ b < w.heap.size ∧ ∀ j, j < l.length → w.cell? ⟨b, off + j * 2, none⟩ = some (.int .i64 (l.getD j (0, 0)).1) ∧ w.cell? ⟨b, off + j * 2 + 1, none⟩ = some (.int .i64 (l.getD j (0, 0)).2) := by
  obtain ⟨a', cap', e, _, _, _, _, h⟩ := h
  simp only [Value.slice.injEq, true_and] at e
  obtain ⟨rfl, rfl⟩ := e
  exact h
theorem arg_of {m : Nat} (hm : m ≤ 5) {z : Int} {le : List Int} (hz : 0 ≤ z ∧ z < 32) (h : IntKind.i64.wrap (IntKind.i64.wrap (IntKind.i64.wrap (2 ^ ((m : Int)).toNat) - 1) - z) ∈ le) :
    ∃ P : Nat, IntKind.i64.wrap ((2 : Int) ^ m) = (P : Int) ∧ wrap64 ((2 : Int) ^ m) = (P : Int) ∧ P ≤ 32 ∧ IntKind.i64.wrap ((P : Int) - 1) = (P : Int) - 1 ∧ IntKind.i64.wrap ((P : Int) - 1 - z) = (P : Int) - 1 - z ∧ (P : Int) - 1 - z ∈ le := by
  obtain ⟨hs1, hs2, hs3⟩ := shl_at m (by omega)
  rw [Int.toNat_natCast, hs1] at h
  have hmp : 0 < 2 ^ m := Nat.pow_pos (by decide)
  refine ⟨2 ^ m, hs1, hs2, hs3, ?_⟩
  clear hs1 hs2
  generalize 2 ^ m = P at *
  have hw1 : IntKind.i64.wrap ((P : Int) - 1) = (P : Int) - 1 := by rw [IntKind.wrap_i64]; omega
  rw [hw1] at h
  have hw2 : IntKind.i64.wrap ((P : Int) - 1 - z) = (P : Int) - 1 - z := by rw [IntKind.wrap_i64]; omega
  rw [hw2] at h
  exact ⟨hw1, hw2, h⟩
theorem intsOf {w : World} {a : Option Addr} {cap : Nat} {l : List Int} (h : IntsIn w (.slice a l.length cap) l) :
    0 < l.length → ∃ b off, a = some ⟨b, off, none⟩ ∧ b < w.heap.size ∧ ∀ j, j < l.length → w.cell? ⟨b, off + j, none⟩ = some (.int .i64 (l.getD j 0)) := by
  obtain ⟨a', cap', e, _, _, h⟩ := h
  simp only [Value.slice.injEq, true_and] at e
  obtain ⟨rfl, rfl⟩ := e
  exact h
theorem dul_told {n a : Int} {d1 d2 : Int} {d3 : Bool} (h : dulT n a = (d1, d2, d3)) : isT n a = d3 := by
  cases ht : isT n a with
  | false => rw [dulT_no ht] at h; exact (Prod.mk.inj (Prod.mk.inj h).2).2
  | true =>
    obtain ⟨e, k, h1, _⟩ := law_told ht
    rw [h1] at h; exact (Prod.mk.inj (Prod.mk.inj h).2).2
theorem big_no (a0 : Option Addr) (len0 cap0 : Nat) (h : (len0 : Int) ≤ 1048576) (w : World) :
    Calls Try.prog 13 #[.slice a0 len0 cap0] w fun e w' => e = .returned (.bool false) ∧ w = w' :=
  (Draw.big a0 len0 cap0 (by omega) w).mono fun e w' ⟨h1, h2⟩ => ⟨by rw [h1, decide_eq_false (by omega)], h2⟩
theorem big_yes (a0 : Option Addr) (len0 cap0 : Nat) (h : ¬ (len0 : Int) ≤ 1048576) (hl : (len0 : Int) ≤ 9223372036854775807) (w : World) :
    Calls Try.prog 13 #[.slice a0 len0 cap0] w fun e w' => e = .returned (.bool true) ∧ w = w' :=
  (Draw.big a0 len0 cap0 hl w).mono fun e w' ⟨h1, h2⟩ => ⟨by rw [h1, decide_eq_true (by omega)], h2⟩

set_option maxRecDepth 100000 in
set_option maxHeartbeats 8000000 in
theorem walk (a0 : Option Addr) (len0 cap0 : Nat) (z0 : List Int) (W : World) (w0 : IsRow .u8 W a0 len0 cap0 z0) :
    Calls Try.prog 4 #[.slice a0 len0 cap0] W fun e w' => e = .returned (.bool true) ∧ Below W.heap.size W w' := by
  by_cases hlen : (len0 : Int) ≤ 1048576
  · have CODE := Lib.hid (codeIn w0 hlen)
    have HB := Lib.hid (big_no a0 len0 cap0 hlen)
    clear w0 hlen
    go_enter Try.func4, Try.ntmps4
    go_wp2_with fail
    refine (HB.out _).mono ?_
    rintro e w1 ⟨rfl, rfl⟩
    clear HB
    go_wp2_with fail
    refine (Draw.isMon _ len0 _ CODE.out).mono ?_
    rintro e w1 ⟨n, a, rfl, hn, ha, hb1⟩
    have A64 := Lib.hid ha
    have BB := Lib.hid hb1
    have HMI := Lib.hid (Mon.impl n a ha)
    have HMM := Lib.hid (Mon.model n a)
    have HPI := Lib.hid (Mip.impl n a ha)
    have HPM := Lib.hid (Mip.model n a)
    have HZI := Lib.hid (Maz.impl n a ha)
    have HZM := Lib.hid (Maz.model n a)
    have HDI := Lib.hid (Dua.impl n a ha)
    have HDM := Lib.hid (Dua.model n a)
    have HHI := Lib.hid (Hul.impl n a ha)
    have HHM := Lib.hid (Hul.model n a)
    have HSI := Lib.hid (Sdl.impl n a ha)
    have HSD : Hid (sdT n a = ((dulT n a).2.2 && decide ((dulT n a).2.1 = a))) := Lib.hid rfl
    have HPRI := Lib.hid (Prm.ofI n a ha)
    have HPRO := Lib.hid (primesT_ok n a)
    have HTOLD := Lib.hid (fun d1 d2 d3 => dul_told (n := n) (a := a) (d1 := d1) (d2 := d2) (d3 := d3))
    have HNO := Lib.hid (fun h => dulT_no (n := n) (a := a) h)
    have HHNO := Lib.hid (fun h => hulT_no (n := n) (a := a) h)
    have HMNO := Lib.hid ((hulT_mon n a).2.2.2)
    have HLAW := Lib.hid (law_told (n := n) (a := a))
    have OKP := Lib.hid (turT_ok 1 n a)
    have OKZ := Lib.hid (turT_ok 0 n a)
    unfold tbV at HDI HDM HHI HHM
    generalize monT n a = is at HMI HMM HLAW HMNO
    generalize turT 1 n a = lp at HPI HPM HLAW OKP
    generalize turT 0 n a = lz at HZI HZM HLAW OKZ
    generalize sdT n a = sd at HSI HSD
    generalize dulT n a = d at HDI HDM HSD HTOLD HNO HLAW
    generalize hulT n a = hh at HHI HHM HHNO HLAW
    generalize primesT n a = pr at HPRI HPRO HLAW
    obtain ⟨d1, d2, d3⟩ := d
    obtain ⟨h1, h2, h3⟩ := hh
    have HT := Lib.hid (HTOLD.out _ _ _ rfl)
    rw [HT.out] at HPRI
    dsimp only at HDI HDM HHI HHM HSD
    have IP : ∀ {X : World} {B : Nat} {v : Value}, IntRow X B v lp → IntsIn X v lp := fun h => h.ints (by have := OKP.out.1; omega) (fun x hx => by have := OKP.out.2 x hx; omega)
    have IZ : ∀ {X : World} {B : Nat} {v : Value}, IntRow X B v lz → IntsIn X v lz := fun h => h.ints (by have := OKZ.out.1; omega) (fun x hx => by have := OKZ.out.2 x hx; omega)
    clear HTOLD hn ha hb1
    replace BB := Lib.hid (bA BB.out.size BB.out (o := (.cells #[.int .i64 n, .int .i64 a] 27)))
    have Tf := Lib.hid (heap_alloc_new w1 (.cells #[.int .i64 n, .int .i64 a] 27))
    obtain ⟨c0f, c1f, g0f, g1f⟩ := cells2 Tf.out
    go_wp2_with fail
    refine (HMI.out _).mono ?_
    rintro e w2 ⟨rfl, hb2⟩
    clear c0f c1f g0f g1f
    replace Tf := Lib.hid (blockOn Tf.out hb2)
    replace BB := Lib.hid (bB hb2 BB.out.size BB.out)
    clear hb2 HMI
    obtain ⟨c0f, c1f, g0f, g1f⟩ := cells2 Tf.out
    go_wp2_with fail
    refine (HPI.out _).mono ?_
    rintro e w3 ⟨vp, rfl, hr3, hb3⟩
    clear c0f c1f g0f g1f
    replace Tf := Lib.hid (blockOn Tf.out hb3)
    replace BB := Lib.hid (bB hb3 BB.out.size BB.out)
    have Ip := Lib.hid (IP hr3)
    clear hb3 hr3 HPI
    obtain ⟨c0f, c1f, g0f, g1f⟩ := cells2 Tf.out
    go_wp2_with fail
    refine (HZI.out _).mono ?_
    rintro e w4 ⟨vz, rfl, hr4, hb4⟩
    clear c0f c1f g0f g1f
    replace Tf := Lib.hid (blockOn Tf.out hb4)
    replace Ip := Lib.hid (Ip.out.below hb4)
    replace BB := Lib.hid (bB hb4 BB.out.size BB.out)
    have Iz := Lib.hid (IZ hr4)
    clear hb4 hr4 HZI
    obtain ⟨c0f, c1f, g0f, g1f⟩ := cells2 Tf.out
    go_wp2_with fail
    refine (HMM.out _).mono ?_
    rintro e w5 ⟨rfl, hb5⟩
    clear c0f c1f g0f g1f
    replace Tf := Lib.hid (blockOn Tf.out hb5)
    replace Ip := Lib.hid (Ip.out.below hb5)
    replace Iz := Lib.hid (Iz.out.below hb5)
    replace BB := Lib.hid (bB hb5 BB.out.size BB.out)
    clear hb5 HMM
    obtain ⟨c0f, c1f, g0f, g1f⟩ := cells2 Tf.out
    go_wp2_with fail
    refine (HPM.out _).mono ?_
    rintro e w6 ⟨vq, rfl, hr6, hb6⟩
    clear c0f c1f g0f g1f
    replace Tf := Lib.hid (blockOn Tf.out hb6)
    replace Ip := Lib.hid (Ip.out.below hb6)
    replace Iz := Lib.hid (Iz.out.below hb6)
    replace BB := Lib.hid (bB hb6 BB.out.size BB.out)
    have Iq := Lib.hid (IP hr6)
    clear hb6 hr6 HPM
    obtain ⟨c0f, c1f, g0f, g1f⟩ := cells2 Tf.out
    go_wp2_with fail
    refine (Ints.sameM _ _ lp _ Ip.out Iq.out).mono ?_
    rintro e w7 ⟨rfl, hb7⟩
    clear c0f c1f g0f g1f
    clear Iq
    replace Tf := Lib.hid (blockOn Tf.out hb7)
    replace Ip := Lib.hid (Ip.out.below hb7)
    replace Iz := Lib.hid (Iz.out.below hb7)
    replace BB := Lib.hid (bB hb7 BB.out.size BB.out)
    clear hb7
    obtain ⟨c0f, c1f, g0f, g1f⟩ := cells2 Tf.out
    go_wp2_with fail
    refine (HZM.out _).mono ?_
    rintro e w8 ⟨vq, rfl, hr8, hb8⟩
    clear c0f c1f g0f g1f
    replace Tf := Lib.hid (blockOn Tf.out hb8)
    replace Ip := Lib.hid (Ip.out.below hb8)
    replace Iz := Lib.hid (Iz.out.below hb8)
    replace BB := Lib.hid (bB hb8 BB.out.size BB.out)
    have Iq := Lib.hid (IZ hr8)
    clear hb8 hr8 HZM
    obtain ⟨c0f, c1f, g0f, g1f⟩ := cells2 Tf.out
    go_wp2_with fail
    refine (Ints.sameM _ _ lz _ Iz.out Iq.out).mono ?_
    rintro e w9 ⟨rfl, hb9⟩
    clear c0f c1f g0f g1f
    clear Iq
    replace Tf := Lib.hid (blockOn Tf.out hb9)
    replace Ip := Lib.hid (Ip.out.below hb9)
    replace Iz := Lib.hid (Iz.out.below hb9)
    replace BB := Lib.hid (bB hb9 BB.out.size BB.out)
    clear hb9
    obtain ⟨c0f, c1f, g0f, g1f⟩ := cells2 Tf.out
    go_wp2_with fail
    refine (HDI.out _).mono ?_
    rintro e w10 ⟨rfl, hb10⟩
    clear c0f c1f g0f g1f
    replace Tf := Lib.hid (blockOn Tf.out hb10)
    replace Ip := Lib.hid (Ip.out.below hb10)
    replace Iz := Lib.hid (Iz.out.below hb10)
    replace BB := Lib.hid (bB hb10 BB.out.size BB.out)
    clear hb10 HDI
    replace Tf := Lib.hid (blockAlloc1 Tf.out (.cells #[.int .i64 d1, .int .i64 d2] 27))
    replace Ip := Lib.hid (Ip.out.below ((Below.refl _ _).alloc (Nat.le_refl _) (.cells #[.int .i64 d1, .int .i64 d2] 27)))
    replace Iz := Lib.hid (Iz.out.below ((Below.refl _ _).alloc (Nat.le_refl _) (.cells #[.int .i64 d1, .int .i64 d2] 27)))
    replace BB := Lib.hid (bA BB.out.size BB.out (o := (.cells #[.int .i64 d1, .int .i64 d2] 27)))
    have Td := Lib.hid (heap_alloc_new w10 (.cells #[.int .i64 d1, .int .i64 d2] 27))
    obtain ⟨c0f, c1f, g0f, g1f⟩ := cells2 Tf.out
    go_wp2_with fail
    refine (HDM.out _).mono ?_
    rintro e w11 ⟨rfl, hb11⟩
    clear c0f c1f g0f g1f
    replace Tf := Lib.hid (blockOn Tf.out hb11)
    replace Td := Lib.hid (blockOn Td.out hb11)
    replace Ip := Lib.hid (Ip.out.below hb11)
    replace Iz := Lib.hid (Iz.out.below hb11)
    replace BB := Lib.hid (bB hb11 BB.out.size BB.out)
    clear hb11 HDM
    replace Tf := Lib.hid (blockAlloc1 Tf.out (.cells #[.int .i64 d1, .int .i64 d2] 27))
    replace Td := Lib.hid (blockAlloc1 Td.out (.cells #[.int .i64 d1, .int .i64 d2] 27))
    replace Ip := Lib.hid (Ip.out.below ((Below.refl _ _).alloc (Nat.le_refl _) (.cells #[.int .i64 d1, .int .i64 d2] 27)))
    replace Iz := Lib.hid (Iz.out.below ((Below.refl _ _).alloc (Nat.le_refl _) (.cells #[.int .i64 d1, .int .i64 d2] 27)))
    replace BB := Lib.hid (bA BB.out.size BB.out (o := (.cells #[.int .i64 d1, .int .i64 d2] 27)))
    have Te := Lib.hid (heap_alloc_new w11 (.cells #[.int .i64 d1, .int .i64 d2] 27))
    obtain ⟨c0f, c1f, g0f, g1f⟩ := cells2 Tf.out
    go_wp2_with fail
    refine (HHI.out _).mono ?_
    rintro e w12 ⟨rfl, hb12⟩
    clear c0f c1f g0f g1f
    replace Tf := Lib.hid (blockOn Tf.out hb12)
    replace Td := Lib.hid (blockOn Td.out hb12)
    replace Te := Lib.hid (blockOn Te.out hb12)
    replace Ip := Lib.hid (Ip.out.below hb12)
    replace Iz := Lib.hid (Iz.out.below hb12)
    replace BB := Lib.hid (bB hb12 BB.out.size BB.out)
    clear hb12 HHI
    replace Tf := Lib.hid (blockAlloc1 Tf.out (.cells #[.int .i64 h1, .int .i64 h2] 27))
    replace Td := Lib.hid (blockAlloc1 Td.out (.cells #[.int .i64 h1, .int .i64 h2] 27))
    replace Te := Lib.hid (blockAlloc1 Te.out (.cells #[.int .i64 h1, .int .i64 h2] 27))
    replace Ip := Lib.hid (Ip.out.below ((Below.refl _ _).alloc (Nat.le_refl _) (.cells #[.int .i64 h1, .int .i64 h2] 27)))
    replace Iz := Lib.hid (Iz.out.below ((Below.refl _ _).alloc (Nat.le_refl _) (.cells #[.int .i64 h1, .int .i64 h2] 27)))
    replace BB := Lib.hid (bA BB.out.size BB.out (o := (.cells #[.int .i64 h1, .int .i64 h2] 27)))
    have Th := Lib.hid (heap_alloc_new w12 (.cells #[.int .i64 h1, .int .i64 h2] 27))
    obtain ⟨c0f, c1f, g0f, g1f⟩ := cells2 Tf.out
    go_wp2_with fail
    refine (HHM.out _).mono ?_
    rintro e w13 ⟨rfl, hb13⟩
    clear c0f c1f g0f g1f
    replace Tf := Lib.hid (blockOn Tf.out hb13)
    replace Td := Lib.hid (blockOn Td.out hb13)
    replace Te := Lib.hid (blockOn Te.out hb13)
    replace Th := Lib.hid (blockOn Th.out hb13)
    replace Ip := Lib.hid (Ip.out.below hb13)
    replace Iz := Lib.hid (Iz.out.below hb13)
    replace BB := Lib.hid (bB hb13 BB.out.size BB.out)
    clear hb13 HHM
    replace Tf := Lib.hid (blockAlloc1 Tf.out (.cells #[.int .i64 h1, .int .i64 h2] 27))
    replace Td := Lib.hid (blockAlloc1 Td.out (.cells #[.int .i64 h1, .int .i64 h2] 27))
    replace Te := Lib.hid (blockAlloc1 Te.out (.cells #[.int .i64 h1, .int .i64 h2] 27))
    replace Th := Lib.hid (blockAlloc1 Th.out (.cells #[.int .i64 h1, .int .i64 h2] 27))
    replace Ip := Lib.hid (Ip.out.below ((Below.refl _ _).alloc (Nat.le_refl _) (.cells #[.int .i64 h1, .int .i64 h2] 27)))
    replace Iz := Lib.hid (Iz.out.below ((Below.refl _ _).alloc (Nat.le_refl _) (.cells #[.int .i64 h1, .int .i64 h2] 27)))
    replace BB := Lib.hid (bA BB.out.size BB.out (o := (.cells #[.int .i64 h1, .int .i64 h2] 27)))
    have Tk := Lib.hid (heap_alloc_new w13 (.cells #[.int .i64 h1, .int .i64 h2] 27))
    obtain ⟨c0f, c1f, g0f, g1f⟩ := cells2 Tf.out
    obtain ⟨c0d, c1d, g0d, g1d⟩ := cells2 Td.out
    obtain ⟨c0e, c1e, g0e, g1e⟩ := cells2 Te.out
    obtain ⟨c0h, c1h, g0h, g1h⟩ := cells2 Th.out
    obtain ⟨c0k, c1k, g0k, g1k⟩ := cells2 Tk.out
    go_upto_region 13 with fail
    go_cut [107] (fun s wx => s = .bool false ∧ wx.heap[w1.heap.size]? = some (.cells #[.int .i64 n, .int .i64 a] 27 (0, 0)) ∧ wx.heap[w11.heap.size]? = some (.cells #[.int .i64 d1, .int .i64 d2] 27 (0, 0)) ∧ wx.heap[w13.heap.size]? = some (.cells #[.int .i64 h1, .int .i64 h2] 27 (0, 0)) ∧ IntsIn wx vp lp ∧ IntsIn wx vz lz ∧ Below W.heap.size W wx)
    case first => as_aux_lemma =>
      cases d3 with
      | false =>
        have e1 := HNO.out HT.out
        have e2 := HHNO.out HT.out
        simp only [Prod.mk.injEq] at e1 e2
        obtain ⟨rfl, rfl, _⟩ := e1
        obtain ⟨rfl, rfl, rfl⟩ := e2
        obtain rfl : sd = false := HSD.out
        go_wp2_with fail
        refine (HSI.out _).mono ?_
        rintro e x1 ⟨rfl, hx1⟩
        replace Tf := Lib.hid (blockOn Tf.out hx1)
        replace Td := Lib.hid (blockOn Td.out hx1)
        replace Te := Lib.hid (blockOn Te.out hx1)
        replace Th := Lib.hid (blockOn Th.out hx1)
        replace Tk := Lib.hid (blockOn Tk.out hx1)
        replace Ip := Lib.hid (Ip.out.below hx1)
        replace Iz := Lib.hid (Iz.out.below hx1)
        replace BB := Lib.hid (bB hx1 BB.out.size BB.out)
        clear c0f c1f g0f g1f c0d c1d g0d g1d c0e c1e g0e g1e c0h c1h g0h g1h c0k c1k g0k g1k hx1
        go_wp2_with fail
        go_meet
        exact ⟨rfl, Tf.out, Te.out, Tk.out, Ip.out, Iz.out, BB.out⟩
      | true =>
        obtain ⟨e0, k0, q1, q2, _⟩ := HLAW.out HT.out
        simp only [Prod.mk.injEq] at q1 q2
        obtain ⟨rfl, rfl, _⟩ := q1
        obtain ⟨rfl, rfl, rfl⟩ := q2
        by_cases hq : d2 = a
        · obtain rfl : sd = true := by rw [HSD.out]; simp [hq]
          subst hq
          go_wp2_with fail
          refine (HSI.out _).mono ?_
          rintro e x1 ⟨rfl, hx1⟩
          replace Tf := Lib.hid (blockOn Tf.out hx1)
          replace Td := Lib.hid (blockOn Td.out hx1)
          replace Te := Lib.hid (blockOn Te.out hx1)
          replace Th := Lib.hid (blockOn Th.out hx1)
          replace Tk := Lib.hid (blockOn Tk.out hx1)
          replace Ip := Lib.hid (Ip.out.below hx1)
          replace Iz := Lib.hid (Iz.out.below hx1)
          replace BB := Lib.hid (bB hx1 BB.out.size BB.out)
          clear c0f c1f g0f g1f c0d c1d g0d g1d c0e c1e g0e g1e c0h c1h g0h g1h c0k c1k g0k g1k hx1
          obtain ⟨c0f, c1f, g0f, g1f⟩ := cells2 Tf.out
          obtain ⟨c0e, c1e, g0e, g1e⟩ := cells2 Te.out
          go_wp2_with fail
          go_meet
          exact ⟨rfl, Tf.out, Te.out, Tk.out, Ip.out, Iz.out, BB.out⟩
        · obtain rfl : sd = false := by rw [HSD.out]; simp [hq]
          go_wp2_with fail
          refine (HSI.out _).mono ?_
          rintro e x1 ⟨rfl, hx1⟩
          replace Tf := Lib.hid (blockOn Tf.out hx1)
          replace Td := Lib.hid (blockOn Td.out hx1)
          replace Te := Lib.hid (blockOn Te.out hx1)
          replace Th := Lib.hid (blockOn Th.out hx1)
          replace Tk := Lib.hid (blockOn Tk.out hx1)
          replace Ip := Lib.hid (Ip.out.below hx1)
          replace Iz := Lib.hid (Iz.out.below hx1)
          replace BB := Lib.hid (bB hx1 BB.out.size BB.out)
          clear c0f c1f g0f g1f c0d c1d g0d g1d c0e c1e g0e g1e c0h c1h g0h g1h c0k c1k g0k g1k hx1
          obtain ⟨c0f, c1f, g0f, g1f⟩ := cells2 Tf.out
          obtain ⟨c0e, c1e, g0e, g1e⟩ := cells2 Te.out
          go_wp2_with fail
          go_meet
          exact ⟨rfl, Tf.out, Te.out, Tk.out, Ip.out, Iz.out, BB.out⟩
    case rest =>
      obtain ⟨rfl, tf, te, tk, ip, iz, bb⟩ := hcut
      replace Tf := Lib.hid tf
      replace Te := Lib.hid te
      replace Tk := Lib.hid tk
      replace Ip := Lib.hid ip
      replace Iz := Lib.hid iz
      replace BB := Lib.hid bb
      clear tf te tk ip iz bb Td Th c0f c1f g0f g1f c0d c1d g0d g1d c0e c1e g0e g1e c0h c1h g0h g1h c0k c1k g0k g1k HSI HSD
      obtain ⟨bf, hbf⟩ : ∃ bf, w1.heap.size = bf := ⟨_, rfl⟩
      obtain ⟨be, hbe⟩ : ∃ be, w11.heap.size = be := ⟨_, rfl⟩
      obtain ⟨bk, hbk⟩ : ∃ bk, w13.heap.size = bk := ⟨_, rfl⟩
      rw [hbf] at Tf ⊢
      rw [hbe] at Te ⊢
      rw [hbk] at Tk ⊢
      obtain ⟨Y, rfl⟩ : ∃ Y, Y = wc := ⟨_, rfl⟩
      clear hbf hbe hbk
      go_upto_if 108 with fail
      go_cut [2] (fun s wx => wx.heap[bf]? = some (.cells #[.int .i64 n, .int .i64 a] 27 (0, 0)) ∧ wx.heap[be]? = some (.cells #[.int .i64 d1, .int .i64 d2] 27 (0, 0)) ∧ IntsIn wx vp lp ∧ IntsIn wx vz lz ∧ Below W.heap.size W wx)
      case first => as_aux_lemma =>
        cases d3 with
        | false =>
          go_wp2_with fail
          go_meet
          exact ⟨Tf.out, Te.out, Ip.out, Iz.out, BB.out⟩
        | true =>
          obtain ⟨e0, k0, q1, q2, q3, q4, q5, q6, q7, q8, q9, _⟩ := HLAW.out HT.out
          simp only [Prod.mk.injEq] at q1 q2
          obtain ⟨rfl, rfl, _⟩ := q1
          obtain ⟨rfl, rfl, rfl⟩ := q2
          have HBK := Lib.hid (Dua.impl h1 d2 q8)
          have HME := Lib.hid (Mon.impl h1 d2 q8)
          have HMK := Lib.hid (Mon.impl h1 h2 q9)
          unfold tbV at HBK
          rw [q3] at HBK
          rw [q4] at HME
          rw [q5] at HMK
          have Q6 := q6
          have Q7 := Lib.hid q7
          clear q3 q4 q5 q7 q8 q9
          obtain ⟨c0e, c1e, g0e, g1e⟩ := cells2 Te.out
          go_wp2_with fail
          refine (HBK.out _).mono ?_
          rintro e x1 ⟨rfl, hx1⟩
          clear c0e c1e g0e g1e
          replace Tf := Lib.hid (blockOn Tf.out hx1)
          replace Te := Lib.hid (blockOn Te.out hx1)
          replace Tk := Lib.hid (blockOn Tk.out hx1)
          replace Ip := Lib.hid (Ip.out.below hx1)
          replace Iz := Lib.hid (Iz.out.below hx1)
          replace BB := Lib.hid (bB hx1 BB.out.size BB.out)
          clear hx1 HBK
          replace Tf := Lib.hid (blockAlloc1 Tf.out (.cells #[.int .i64 h1, .int .i64 a] 27))
          replace Te := Lib.hid (blockAlloc1 Te.out (.cells #[.int .i64 h1, .int .i64 a] 27))
          replace Tk := Lib.hid (blockAlloc1 Tk.out (.cells #[.int .i64 h1, .int .i64 a] 27))
          replace Ip := Lib.hid (Ip.out.below ((Below.refl _ _).alloc (Nat.le_refl _) (.cells #[.int .i64 h1, .int .i64 a] 27)))
          replace Iz := Lib.hid (Iz.out.below ((Below.refl _ _).alloc (Nat.le_refl _) (.cells #[.int .i64 h1, .int .i64 a] 27)))
          replace BB := Lib.hid (bA BB.out.size BB.out (o := (.cells #[.int .i64 h1, .int .i64 a] 27)))
          have Tb := Lib.hid (heap_alloc_new x1 (.cells #[.int .i64 h1, .int .i64 a] 27))
          obtain ⟨c0f, c1f, g0f, g1f⟩ := cells2 Tf.out
          obtain ⟨c0b, c1b, g0b, g1b⟩ := cells2 Tb.out
          obtain ⟨c0e, c1e, g0e, g1e⟩ := cells2 Te.out
          go_wp2_with fail
          refine (HME.out _).mono ?_
          rintro e x2 ⟨rfl, hx2⟩
          clear c0f c1f g0f g1f
          clear c0b c1b g0b g1b
          clear c0e c1e g0e g1e
          replace Tf := Lib.hid (blockOn Tf.out hx2)
          replace Te := Lib.hid (blockOn Te.out hx2)
          replace Tk := Lib.hid (blockOn Tk.out hx2)
          replace Tb := Lib.hid (blockOn Tb.out hx2)
          replace Ip := Lib.hid (Ip.out.below hx2)
          replace Iz := Lib.hid (Iz.out.below hx2)
          replace BB := Lib.hid (bB hx2 BB.out.size BB.out)
          clear hx2 HME
          obtain ⟨c0k, c1k, g0k, g1k⟩ := cells2 Tk.out
          go_wp2_with fail
          refine (HMK.out _).mono ?_
          rintro e x3 ⟨rfl, hx3⟩
          clear c0k c1k g0k g1k
          replace Tf := Lib.hid (blockOn Tf.out hx3)
          replace Te := Lib.hid (blockOn Te.out hx3)
          replace Tk := Lib.hid (blockOn Tk.out hx3)
          replace Tb := Lib.hid (blockOn Tb.out hx3)
          replace Ip := Lib.hid (Ip.out.below hx3)
          replace Iz := Lib.hid (Iz.out.below hx3)
          replace BB := Lib.hid (bB hx3 BB.out.size BB.out)
          clear hx3 HMK
          obtain ⟨c0f, c1f, g0f, g1f⟩ := cells2 Tf.out
          obtain ⟨c0k, c1k, g0k, g1k⟩ := cells2 Tk.out
          cases is with
          | true =>
            obtain rfl : h2 = a := beq_iff_eq.1 Q7.out
            go_wp2_with fail
            go_meet
            exact ⟨Tf.out, Te.out, Ip.out, Iz.out, BB.out⟩
          | false =>
            have hne : ¬ h2 = a := beq_eq_false_iff_ne.1 Q7.out
            have hbe2 : (h2 == a) = false := Q7.out
            go_wp2_with fail
            go_meet
            exact ⟨Tf.out, Te.out, Ip.out, Iz.out, BB.out⟩
      case rest =>
        obtain ⟨tf, te, ip, iz, bb⟩ := hcut
        replace Tf := Lib.hid tf
        replace Te := Lib.hid te
        replace Ip := Lib.hid ip
        replace Iz := Lib.hid iz
        replace BB := Lib.hid bb
        clear tf te ip iz bb Tk
        go_upto_if 145 with fail
        go_cut [2] (fun s wx => Below W.heap.size W wx)
        case first => as_aux_lemma =>
          cases is with
          | false =>
            go_wp2_with fail
            go_meet
            exact BB.out
          | true =>
            cases d3 with
            | false => exact absurd (HMNO.out HT.out) (by decide)
            | true =>
              obtain ⟨e0, k0, q1, q2, _, _, _, _, _, q8, _, q10⟩ := HLAW.out HT.out
              simp only [Prod.mk.injEq] at q1 q2
              obtain ⟨rfl, rfl, _⟩ := q1
              obtain ⟨rfl, rfl, rfl⟩ := q2
              obtain ⟨m1, m2, m3, m4, m5⟩ := q10 rfl
              have HPT := Lib.hid (fun v w => Pts.impl h1 v lp (by have := OKP.out.1; omega) w)
              unfold tbV at HPT
              rw [m1] at HPT
              have HPE := Lib.hid (Mip.impl h1 d2 q8)
              have OKE := Lib.hid (turT_ok 1 h1 d2)
              have HT2 := Lib.hid HT.out
              generalize turT 1 h1 d2 = le at HPE OKE m3 m5
              have L2 := Lib.hid m2
              have L3 := Lib.hid m3
              have L4 := Lib.hid m4
              have L5 := Lib.hid m5
              have IE : ∀ {X : World} {B : Nat} {v : Value}, IntRow X B v le → IntsIn X v le := fun h => h.ints (by have := OKE.out.1; omega) (fun x hx => by have := OKE.out.2 x hx; omega)
              clear m1 m2 m3 m4 m5 q8
              obtain ⟨c0f, c1f, g0f, g1f⟩ := cells2 Tf.out
              go_wp2_with fail
              refine (HPT.out _ _ Ip.out).mono ?_
              rintro e x1 ⟨rfl, hx1⟩
              clear c0f c1f g0f g1f
              replace Tf := Lib.hid (blockOn Tf.out hx1)
              replace Te := Lib.hid (blockOn Te.out hx1)
              replace Ip := Lib.hid (Ip.out.below hx1)
              replace Iz := Lib.hid (Iz.out.below hx1)
              replace BB := Lib.hid (bB hx1 BB.out.size BB.out)
              clear hx1 HPT
              replace Tf := Lib.hid (blockAlloc1 Tf.out (.cells #[.int .i64 h1, .int .i64 a] 27))
              replace Te := Lib.hid (blockAlloc1 Te.out (.cells #[.int .i64 h1, .int .i64 a] 27))
              replace Ip := Lib.hid (Ip.out.below ((Below.refl _ _).alloc (Nat.le_refl _) (.cells #[.int .i64 h1, .int .i64 a] 27)))
              replace Iz := Lib.hid (Iz.out.below ((Below.refl _ _).alloc (Nat.le_refl _) (.cells #[.int .i64 h1, .int .i64 a] 27)))
              replace BB := Lib.hid (bA BB.out.size BB.out (o := (.cells #[.int .i64 h1, .int .i64 a] 27)))
              have Tt := Lib.hid (heap_alloc_new x1 (.cells #[.int .i64 h1, .int .i64 a] 27))
              obtain ⟨c0f, c1f, g0f, g1f⟩ := cells2 Tf.out
              go_wp2_with fail
              refine (HPRI.out _).mono ?_
              rintro e x2 ⟨⟨vl, rfl, hl2⟩, hx2⟩
              clear c0f c1f g0f g1f
              replace Tf := Lib.hid (blockOn Tf.out hx2)
              replace Te := Lib.hid (blockOn Te.out hx2)
              replace Tt := Lib.hid (blockOn Tt.out hx2)
              replace Ip := Lib.hid (Ip.out.below hx2)
              replace Iz := Lib.hid (Iz.out.below hx2)
              replace BB := Lib.hid (bB hx2 BB.out.size BB.out)
              have Ml := Lib.hid (hl2.terms (by have := HPRO.out.1; omega) HPRO.out.2)
              clear hx2 hl2 HPRI
              obtain ⟨al, cl, rfl, hl1, hl2, hl3, hl4, _⟩ := Ml.out
              obtain ⟨ap, cp, rfl, hp1, hp2, _⟩ := Ip.out
              obtain ⟨az, cz, rfl, hz1, hz2, _⟩ := Iz.out
              clear hl4
              have hl2z : ((pr.length : Int) == (lp.length : Int)) = true := by rw [L2.out]; simp
              obtain ⟨c0f, c1f, g0f, g1f⟩ := cells2 Tf.out
              obtain ⟨c0t, c1t, g0t, g1t⟩ := cells2 Tt.out
              obtain ⟨c0e, c1e, g0e, g1e⟩ := cells2 Te.out
              go_wp2_with fail
              refine (HPE.out _).mono ?_
              rintro e x3 ⟨ve, rfl, hr3, hx3⟩
              clear c0f c1f g0f g1f
              clear c0t c1t g0t g1t
              clear c0e c1e g0e g1e
              replace Tf := Lib.hid (blockOn Tf.out hx3)
              replace Te := Lib.hid (blockOn Te.out hx3)
              replace Tt := Lib.hid (blockOn Tt.out hx3)
              replace Ip := Lib.hid (Ip.out.below hx3)
              replace Iz := Lib.hid (Iz.out.below hx3)
              replace Ml := Lib.hid (Ml.out.below hx3)
              replace BB := Lib.hid (bB hx3 BB.out.size BB.out)
              have Ie := Lib.hid (IE hr3)
              clear hx3 hr3
              obtain ⟨ae, ce, rfl, he1, he2, _⟩ := Ie.out
              have hl3z : ((le.length : Int) == (lz.length : Int)) = true := by rw [L3.out]; simp
              have RL := Lib.hid (rowOf Ml.out)
              have RZ := Lib.hid (intsOf Iz.out)
              have HTF := Lib.hid Tf.out
              have HTE := Lib.hid Te.out
              have HIP := Lib.hid Ip.out
              have BX := Lib.hid BB.out
              clear Ml Iz Ie Tt Tf Te Ip BB
              go_wp2_with fail
              clear hl2z hl3z
              go_loopw [21] (fun i wr => ∃ k : Nat, i = .int .i64 (k : Int) ∧ k ≤ pr.length ∧ Below x3.heap.size x3 wr) (fun i _ => pr.length - (intOf i).toNat)
              case atStart => exact ⟨0, rfl, by omega, Below.refl _ _⟩
              case round =>
                obtain ⟨k, rfl, hk, hbel⟩ := hrel
                have HBEL := Lib.hid hbel
                by_cases hlt : k < pr.length
                · obtain ⟨bb, off, rfl, hbw, hcl⟩ := RL.out (by omega)
                  have hkz : (k : Int) < (lp.length : Int) := by have := L2.out; omega
                  have hk1 : k + 1 ≤ pr.length := hlt
                  have hkm : pr.length - (k + 1) < pr.length - k := by omega
                  have hlp := L4.out k hlt
                  obtain ⟨t0, t1⟩ := hcl k hlt
                  have e0 := (hbel.cell (p := ⟨bb, off + k * 2, none⟩) hbw).trans t0
                  have e1 := (hbel.cell (p := ⟨bb, off + k * 2 + 1, none⟩) hbw).trans t1
                  rw [← hlp.1] at e1
                  have HASK : Hid (∀ m, Calls Try.prog 50 #[.slice ap lp.length cp, .int .i64 (pr.getD k (0, 0)).1] (wr.drewN m) fun e w' => e = .returned (.bool true) ∧ wr.drewN m = w') := Lib.hid (fun m => Has.yes _ lp _ hlp.2 _ ((HIP.out.below hbel).below ⟨rfl, rfl, rfl, Nat.le_refl _, fun _ _ => rfl⟩))
                  generalize (pr.getD k (0, 0)).1 = p at *
                  clear hlp hcl t0 t1 hbel hlt
                  go_wp2_with fail
                  go_quiet ((go_at_call 50; exact quiet_eq (HASK.out _)))
                  all_goals
                    go_wp2
                    exact ⟨⟨k + 1, by go_num, hk1, below_drewN HBEL.out _⟩, hkm⟩
                · obtain rfl : k = pr.length := by omega
                  have HP0 := Lib.hid (HIP.out.below hbel)
                  clear hlt hbel
                  obtain ⟨Y2, rfl⟩ : ∃ Y2, Y2 = wr := ⟨_, rfl⟩
                  have hkn : ¬ ((pr.length : Nat) : Int) < (lp.length : Int) := by have := L2.out; omega
                  go_wp2_with fail
                  clear hkn
                  go_loopw [22] (fun i wx => ∃ k : Nat, i = .int .i64 (k : Int) ∧ k ≤ lz.length ∧ Below x3.heap.size x3 wx) (fun i _ => lz.length - (intOf i).toNat)
                  case atStart => exact ⟨0, rfl, by omega, HBEL.out⟩
                  case round =>
                    obtain ⟨k, rfl, hk, hbel⟩ := hrel
                    have HBX := Lib.hid hbel
                    by_cases hlt : k < lz.length
                    · obtain ⟨bb, off, rfl, hbw, hcl⟩ := RZ.out (by omega)
                      have hkz : (k : Int) < (lz.length : Int) := by omega
                      have hk1 : k + 1 ≤ lz.length := hlt
                      have hkm : lz.length - (k + 1) < lz.length - k := by omega
                      have e0 := (hbel.cell (p := ⟨bb, off + k, none⟩) hbw).trans (hcl k hlt)
                      obtain ⟨c0f, c1f, g0f, g1f⟩ := cells2 (blockOn HTF.out hbel)
                      obtain ⟨c0e, c1e, g0e, g1e⟩ := cells2 (blockOn HTE.out hbel)
                      have hz0 := OKZ.out.2 _ (getD_mem hlt)
                      have h5 := L5.out k hlt
                      obtain ⟨m, x, rfl, hax, hm5, _⟩ := isT_nat HT2.out
                      have hmz : (m : Int) ≤ 5 := by omega
                      obtain ⟨P, hs1, hs2, hs3, hw1, hw2, h6⟩ := arg_of hm5 hz0 h5
                      have H5 := Lib.hid h6
                      generalize lz.getD k 0 = z at *
                      clear hcl hbel hlt h5 h6 hax hz0 hm5
                      go_wp2_with fail
                      go_region_held3 (fun w' => w'.cell? ⟨be, 0, none⟩ = some (.int .i64 (m : Int)) ∧ w'.cell? ⟨be, 1, none⟩ = some (.int .i64 d2) ∧ w'.cell? ⟨bf, 0, none⟩ = some (.int .i64 (m : Int)) ∧ w'.cell? ⟨bb, off + k, none⟩ = some (.int .i64 z)) ((first | (go_split_ands; (try dsimp only); (refine ⟨?_, ?_, ?_, ?_⟩ <;> (repeat (first | with_reducible assumption | ((with_reducible refine keepU ?_); (with_reducible assumption)) | (with_reducible refine keepD ?_) | ((with_reducible refine keepN ?_ ?_); (focus (simp; done)); (focus rfl)) | (with_reducible refine keepA ?_) | ((with_reducible refine keepS ?_ ?_); (focus (dsimp only; omega))) | (with_reducible refine keepB hbA ?_)))); done) | go_keep))
                        (first
                          | (go_at_call 38; refine (HPE.out _).mono ?_; rintro e wA ⟨v2, rfl, hrA, hbA⟩; have IA := Lib.hid (IE hrA))
                          | (go_at_call 50; refine (Has.yes _ le _ H5.out _ IA.out).mono ?_; rintro e wB ⟨rfl, rfl⟩))
                      all_goals
                        have HBA := Lib.hid (bB hbA HBX.out.size (bD HBX.out))
                        clear hbA hrA hs1 hs2 hw1 hw2 hs3
                        go_wp2_with fail
                        go_roundw
                        case rel => exact ⟨k + 1, by go_num, hk1, HBA.out⟩
                        case measure => exact hkm
                    · obtain rfl : k = lz.length := by omega
                      have HBF := Lib.hid (BX.out.trans (hbel.mono BX.out.size))
                      clear hlt hbel
                      go_wp2_with fail
                      go_meet
                      exact HBF.out
        case rest =>
          have BB := Lib.hid hcut
          clear hcut Tf Te Ip Iz HLAW HT HPRI HPRO OKP OKZ IP IZ HNO HHNO HMNO A64
          obtain ⟨Y3, rfl⟩ : ∃ Y3, Y3 = wc := ⟨_, rfl⟩
          go_wp2_with fail
          refine (Draw.points _ len0 _ (CODE.out.below BB.out)).mono ?_
          rintro e y1 ⟨n2, v2, l2, rfl, hn2, hl2, hi2, hy1⟩
          replace BB := Lib.hid (bB hy1 BB.out.size BB.out)
          have I2 := Lib.hid hi2
          have HPI2 := Lib.hid (Pts.impl n2 v2 l2 (by omega))
          have HPM2 := Lib.hid (Pts.model n2 v2 l2 (by omega))
          unfold tbV at HPI2 HPM2
          generalize ptsT n2 l2 = r at HPI2 HPM2
          clear hy1 hi2 hl2 hn2
          go_wp2_with fail
          refine (HPI2.out _ I2.out).mono ?_
          rintro e y2 ⟨rfl, hy2⟩
          replace I2 := Lib.hid (I2.out.below hy2)
          replace BB := Lib.hid (bB hy2 BB.out.size BB.out)
          clear hy2 HPI2
          replace I2 := Lib.hid (I2.out.below ((Below.refl _ _).alloc (Nat.le_refl _) (.cells #[.int .i64 r.1, .int .i64 r.2.1] 27)))
          replace BB := Lib.hid (bA BB.out.size BB.out (o := (.cells #[.int .i64 r.1, .int .i64 r.2.1] 27)))
          have Ta := Lib.hid (heap_alloc_new y2 (.cells #[.int .i64 r.1, .int .i64 r.2.1] 27))
          go_wp2_with fail
          refine (HPM2.out _ I2.out).mono ?_
          rintro e y3 ⟨rfl, hy3⟩
          replace Ta := Lib.hid (blockOn Ta.out hy3)
          replace I2 := Lib.hid (I2.out.below hy3)
          replace BB := Lib.hid (bB hy3 BB.out.size BB.out)
          clear hy3 HPM2
          replace Ta := Lib.hid (blockAlloc1 Ta.out (.cells #[.int .i64 r.1, .int .i64 r.2.1] 27))
          replace I2 := Lib.hid (I2.out.below ((Below.refl _ _).alloc (Nat.le_refl _) (.cells #[.int .i64 r.1, .int .i64 r.2.1] 27)))
          replace BB := Lib.hid (bA BB.out.size BB.out (o := (.cells #[.int .i64 r.1, .int .i64 r.2.1] 27)))
          have Tb := Lib.hid (heap_alloc_new y3 (.cells #[.int .i64 r.1, .int .i64 r.2.1] 27))
          clear I2
          go_wp2_with fail
          refine (Draw.countMon _ len0 _ (CODE.out.below BB.out)).mono ?_
          rintro e y4 ⟨m2, rfl, hm2, hy4⟩
          replace Ta := Lib.hid (blockOn Ta.out hy4)
          replace Tb := Lib.hid (blockOn Tb.out hy4)
          replace BB := Lib.hid (bB hy4 BB.out.size BB.out)
          have HCI := Lib.hid (Cnm.impl m2 hm2)
          have HCM := Lib.hid (Cnm.model m2)
          generalize cmT m2 = cc at HCI HCM
          clear hy4 hm2
          go_wp2_with fail
          refine (Draw.selfDual _ len0 _ (CODE.out.below BB.out)).mono ?_
          rintro e y5 ⟨n3, a3, rfl, hn3, ha3, hy5⟩
          replace Ta := Lib.hid (blockOn Ta.out hy5)
          replace Tb := Lib.hid (blockOn Tb.out hy5)
          replace BB := Lib.hid (bB hy5 BB.out.size BB.out)
          have HSI3 := Lib.hid (Sdl.impl n3 a3 ha3)
          have HSM3 := Lib.hid (Sdl.model n3 a3)
          generalize sdT n3 a3 = sd3 at HSI3 HSM3
          clear hy5 hn3 ha3
          replace Ta := Lib.hid (blockAlloc1 Ta.out (.cells #[.int .i64 n3, .int .i64 a3] 27))
          replace Tb := Lib.hid (blockAlloc1 Tb.out (.cells #[.int .i64 n3, .int .i64 a3] 27))
          replace BB := Lib.hid (bA BB.out.size BB.out (o := (.cells #[.int .i64 n3, .int .i64 a3] 27)))
          have Tc := Lib.hid (heap_alloc_new y5 (.cells #[.int .i64 n3, .int .i64 a3] 27))
          obtain ⟨c0a, c1a, g0a, g1a⟩ := cells2 Ta.out
          obtain ⟨c0b, c1b, g0b, g1b⟩ := cells2 Tb.out
          obtain ⟨c0c, c1c, g0c, g1c⟩ := cells2 Tc.out
          obtain ⟨r1, r2, r3⟩ := r
          go_upto_region 39 with fail
          obtain ⟨ba, hba⟩ : ∃ ba, y2.heap.size = ba := ⟨_, rfl⟩
          obtain ⟨bb, hbb⟩ : ∃ bb, y3.heap.size = bb := ⟨_, rfl⟩
          obtain ⟨bc, hbc⟩ : ∃ bc, y5.heap.size = bc := ⟨_, rfl⟩
          obtain ⟨X, hX⟩ : ∃ X, y5.alloc (.cells #[.int .i64 n3, .int .i64 a3] 27) = X := ⟨_, rfl⟩
          rw [hX] at c0a c1a g0a g1a c0b c1b g0b g1b c0c c1c g0c g1c BB ⊢
          rw [hba] at c0a c1a g0a g1a ⊢
          rw [hbb] at c0b c1b g0b g1b ⊢
          rw [hbc] at c0c c1c g0c g1c ⊢
          try dsimp only at c0a c1a c0b c1b
          clear hX hba hbb hbc
          go_region_held3 (fun w' => w'.cell? ⟨ba, 0, none⟩ = some (.int .i64 r1) ∧ w'.cell? ⟨ba, 1, none⟩ = some (.int .i64 r2) ∧ w'.cell? ⟨bb, 0, none⟩ = some (.int .i64 r1) ∧ w'.cell? ⟨bb, 1, none⟩ = some (.int .i64 r2) ∧ w'.cell? ⟨bc, 0, none⟩ = some (.int .i64 n3) ∧ w'.cell? ⟨bc, 1, none⟩ = some (.int .i64 a3)) ((first | (go_split_ands; (try dsimp only); (refine ⟨?_, ?_, ?_, ?_, ?_, ?_⟩ <;> (repeat (first | with_reducible assumption | ((with_reducible refine keepU ?_); (with_reducible assumption)) | (with_reducible refine keepD ?_) | ((with_reducible refine keepN ?_ ?_); (focus (simp; done)); (focus rfl)) | (with_reducible refine keepA ?_) | ((with_reducible refine keepS ?_ ?_); (focus (dsimp only; omega))) | (with_reducible refine keepB hbA ?_) | (with_reducible refine keepB hbB ?_) | (with_reducible refine keepB hbC ?_) | (with_reducible refine keepB hbD ?_)))); done) | go_keep))
            (first
              | (go_at_call 55; refine (HCI.out _).mono ?_; rintro e wA ⟨rfl, hbA⟩)
              | (go_at_call 56; refine (HCM.out _).mono ?_; rintro e wB ⟨rfl, hbB⟩)
              | (go_at_call 47; refine (HSI3.out _).mono ?_; rintro e wC ⟨rfl, hbC⟩)
              | (go_at_call 57; refine (HSM3.out _).mono ?_; rintro e wD ⟨rfl, hbD⟩))
          all_goals
            have k1 := bB hbA (by simpa using BB.out.size) (bD BB.out)
            have k2 := bB hbB k1.size k1
            have k3 := bB hbC k2.size k2
            have k4 := Lib.hid (bB hbD k3.size k3)
            clear hbA hbB hbC hbD k1 k2 k3
            go_wp2
            go_ret
            exact ⟨rfl, k4.out⟩
  · have HB := Lib.hid (big_yes a0 len0 cap0 hlen (by
      rcases w0 with ⟨_, rfl, _⟩ | ⟨x, _, h1, h2, _⟩
      · decide
      · unfold maxLen at h2; omega))
    clear w0 hlen
    go_enter Try.func4, Try.ntmps4
    go_wp2_with fail
    refine (HB.out _).mono ?_
    rintro e w1 ⟨rfl, rfl⟩
    go_wp2
    go_ret
    exact ⟨rfl, Below.refl _ _⟩

set_option maxRecDepth 100000 in
theorem lifted (os : Os) (started : os.Started) (H : Type) (enc : TypeId × Value → H) :
    ReturnsInHanded {} Try.checked os 4 .any (Rows.fnMonotoneSpec.pre6 enc Try.prog Try.f4 Rows.fnMonotoneRow.domain false) (Rows.fnMonotoneSpec.post enc Try.prog Try.f4 false true false false) := by
  refine returnsInHanded_of_change (C := Try.checked) own started (by kernel_rfl) Try.func4
    (ChangeSpec.witness6 (enc := enc) (C := Try.checked) false ⟨#[], #[.slice none 0 0], []⟩ 8 (by kernel_rfl) (by kernel_rfl) (by kernel_rfl) (by kernel_rfl)) ?_
  intro W base args ds gs before hval0 hW hcnd _
  have hval : ∀ (j : Nat) t v, Try.f4.params[j]? = some t → args[j]? = some v → Value.okWide Try.prog W .any base t v := hval0
  have hW' := hW
  obtain ⟨p, q, hA0, hV, rfl, hfz, hnd⟩ := hW
  have hA : DataW.TrodAll enc Try.prog W 0 (fun _ => true) true Try.f4.params.toList args.toList ds p := hA0
  rw [Try.params4] at hA hval
  obtain ⟨v0, vs0, d0, ds0, p0, q0, hargs, rfl, rfl, h0, r0⟩ := trodAll_cons hA
  obtain ⟨rfl, rfl, rfl⟩ := trodAll_nil r0
  obtain rfl : args = #[v0] := by cases args; simp_all
  obtain ⟨rfl, rfl⟩ := trodVars_none hV
  obtain ⟨a0, len0, cap0, rfl⟩ := okWide_slice Try.underlying22 (hval 0 22 v0 rfl rfl)
  have k0 := h0
  have lt0 : ∀ x ∈ p0, x.block < W.heap.size := by obtain ⟨m, hm⟩ := k0; exact DataW.trod_lt m _ _ _ hm
  obtain ⟨z0, w0⟩ : ∃ zs, IsRow .u8 W a0 len0 cap0 zs := by
    obtain ⟨fuel, hf⟩ := h0
    rcases open_ints Try.underlying22 Try.underlying5 (by kernel_rfl) hf with ⟨hcs, _⟩ | ⟨x, l, c, zs, hcs, _, hl, hm, hz, _, hcell, hwz⟩
    · simp [Value.cells] at hcs
      obtain ⟨rfl, rfl, rfl⟩ := hcs
      exact ⟨[], .inl ⟨rfl, rfl, rfl, rfl⟩⟩
    · simp [Value.cells] at hcs
      obtain ⟨rfl, rfl, rfl⟩ := hcs
      exact ⟨zs, .inr ⟨_, rfl, hl, hm, by simpa using hz, hcell, hwz⟩⟩
  clear hA0 hval0
  simp only [List.append_nil] at hW'
  refine (walk a0 len0 cap0 z0 W w0).mono fun e W' ⟨he, bel⟩ => ?_
  subst he
  exact ⟨_, rfl, _, _, _, [], _, [], hW', trodAll_mk1 (shut_bool Try.underlying4 _), (trodAll_cons_mk (Below.trod laidOut (by kernel_rfl) (of_decide_eq_true (by kernel_rfl)) k0 bel lt0) trodAll_mk0), rfl, bel.frame _, fun h => by cases h⟩

theorem proved : Rows.FnMonotoneSaid :=
  OpenClaim.holds_of_wide 4 Try.f4 rfl rfl rfl rfl rfl rfl rfl ⟨rfl, rfl, rfl, rfl, rfl⟩ rfl rfl rfl rfl rfl (by kernel_rfl) Try.func4 (by kernel_rfl)
    (of_decide_eq_true (by kernel_rfl)) (by unfold Func.isWrapper; first | (rw [if_pos (by decide +kernel)]; kernel_rfl) | (rw [if_neg (by decide +kernel)]; exact ⟨rfl, rfl⟩))
    (fun os started H enc _ => lifted os started H enc)
end Go.Proofs.Ytlmhdocfdpbhmaa.fnMonotone
