/-
  What the draws of chapter 1 answer: some number, some text, whatever the code.
-/
import Derived.Test.YtlmhdocfdpbhmaaCur
namespace Go.Proofs.Ytlmhdocfdpbhmaa
open Go.RowKit Plain
set_option linter.unusedVariables false

theorem CurAt.lt {w : World} {b : Nat} {av : Value} {len : Nat} (h : CurAt w b av len) : b < w.heap.size := by
  obtain ⟨i, v, _, hh⟩ := h
  exact (Array.getElem?_eq_some_iff.1 hh).1
theorem CurAt.alloc {w : World} {b : Nat} {av : Value} {len : Nat} (h : CurAt w b av len) (o : Obj) : CurAt (w.alloc o) b av len := by
  have hlt := h.lt
  obtain ⟨i, v, hi, hh⟩ := h
  exact ⟨i, v, hi, (heap_alloc_old w o hlt).trans hh⟩

theorem intsNew (w : World) (b : Nat) (hb : b < w.heap.size) (zs : List Int) (T : TypeId) (h0 : 0 < zs.length) (h1 : zs.length ≤ 1000) :
    IntsAt (w.alloc (.cells (zs.map (Value.int .i64)).toArray T)) b (.slice (some ⟨w.heap.size, 0, none⟩) zs.length zs.length) zs := by
  refine ⟨w.heap.size, zs.length, rfl, by omega, h0, h1, fun j hj => ?_⟩
  rw [World.cell?_alloc_mark]
  simp [hj, List.getD]

def In64 (x : Int) : Prop := -9223372036854775808 ≤ x ∧ x ≤ 9223372036854775807

def numList : List Int := [-1, 0, 127, 128, 255, 256, 16383, 16384, 65535, 65536, 562949953421311, 562949953421312, 999999999, 1000000000, -999999999, 9223372036854775807, -9223372036854775808]
theorem numList_in : ∀ j, j < numList.length → In64 (numList.getD j 0) := by
  have h : ∀ i : Fin 17, decide (-9223372036854775808 ≤ numList.getD i.val 0) = true ∧ decide (numList.getD i.val 0 ≤ 9223372036854775807) = true := by decide +kernel
  intro j hj
  have h1 := h ⟨j, hj⟩
  exact ⟨of_decide_eq_true h1.1, of_decide_eq_true h1.2⟩

theorem numMul {x y : Int} (hx : 0 ≤ x ∧ x < 1000000000) (hy : 0 ≤ y ∧ y < 1000000000) : 0 ≤ x * y ∧ x * y ≤ 1000000000000000000 := by
  refine ⟨Int.mul_nonneg hx.1 hy.1, ?_⟩
  have := Int.mul_le_mul (show x ≤ 1000000000 by omega) (show y ≤ 1000000000 by omega) hy.1 (by omega)
  omega

/-- What a draw of a text answers: some text of at most so many bytes, the cursor moved on. -/
def TextOut (most : Int) (b : Nat) (av : Value) (len : Nat) (w : World) (e : Ending) (w' : World) : Prop :=
  ∃ l : List UInt8, e = .returned (.string ⟨l.toArray⟩) ∧ (l.length : Int) ≤ most ∧ CurAt w' b av len ∧ w.grownBy w' (some b)

theorem ByteRow.passed {w w' : World} {B b : Nat} {v : Value} {l : List UInt8} (h : ByteRow w B v l) (hg : w.grownBy w' (some b)) (hb : b < B) : ByteRow w' B v l := by
  refine World.ownsRow.kept h hg ?_
  cases hv : v.ownBlock with
  | none => exact .inl rfl
  | some g =>
    refine .inr ?_
    have := (World.ownsRow.lt h g hv).1
    simp
    omega

theorem grownByte {w wr w1 : World} {b : Nat} (hg : w.grownBy wr (some b)) (hb : Below w.heap.size wr w1) : w.grownBy w1 (some b) :=
  ⟨hb.os.trans hg.os, hb.tape.trans hg.tape, hb.output.trans hg.output, Nat.le_trans hg.size hb.size, fun k hk hne => (hb.block k hk).trans (hg.block k hk hne)⟩
theorem CurAt.below {w wr : World} {b B : Nat} {av : Value} {len : Nat} (h : CurAt w b av len) (hb : Below B w wr) (hB : b < B) : CurAt wr b av len := by
  obtain ⟨i, v, hi, hh⟩ := h
  exact ⟨i, v, hi, (hb.block b hB).trans hh⟩

set_option maxRecDepth 100000 in
set_option maxHeartbeats 4000000 in
theorem Draw.text (b : Nat) (av : Value) (len : Nat) (most : Int) (hm : 0 ≤ most ∧ most ≤ 1000) (w : World) (hc : CurAt w b av len) (hs : SrcAt w b av len) :
    Calls Try.prog 118 #[.pointer (some ⟨b, 0, none⟩), .int .i64 most] w (TextOut most b av len w) := by
  obtain ⟨hm0, hm1⟩ := hm
  have hbl := hc.lt
  have HB := Lib.hid hbl
  have HS := Lib.hid hs
  have HC := Lib.hid hc
  have HA : ∀ o : Obj, Hid (w.grownBy (w.alloc o) (some b)) := fun o => Lib.hid (World.grownBy_alloc w o (some b))
  clear hbl hc hs
  go_enter Try.func118, Try.ntmps118
  go_wp2_with fail
  refine (Cur.below b av len 4 (by omega) _ (HC.out.alloc _) (HS.out.grown (HA _).out)).mono ?_
  rintro e w1 ⟨st, rfl, _, hc1, hg1⟩
  have HC1 := Lib.hid hc1
  have HG1 := Lib.hid (grownTrans (HA _).out hg1)
  have hrow1 : ByteRow w1 w.heap.size (.slice (some ⟨w.heap.size, 0, none⟩) 0 0) [] := ByteRow.passed (World.ownsRow_lit w _ 0 (Nat.le_refl _) (by unfold maxLen; omega) rfl) hg1 HB.out
  have HR1 := Lib.hid hrow1
  clear hc1 hg1 hrow1
  go_wp2_with fail
  refine (Cur.below b av len _ (by omega) _ HC1.out (HS.out.grown HG1.out)).mono ?_
  rintro e w2 ⟨n, rfl, hn, hc2, hg2⟩
  have HC2 := Lib.hid hc2
  have HR2 := Lib.hid (HR1.out.passed hg2 HB.out)
  have HG2 := Lib.hid (grownTrans HG1.out hg2)
  have hn0 := hn.1
  have hn1 := hn.2.1 (by omega)
  obtain ⟨k0, rfl⟩ := Int.eq_ofNat_of_zero_le hn0
  clear hc2 hg2 hn
  go_wp2
  go_loopw [5, 7, 8] (fun v n _ wr => ∃ (k : Nat) (l : List UInt8), n = .int .i64 (k : Int) ∧ (l.length : Int) + (k : Int) ≤ most ∧ ByteRow wr w.heap.size v l ∧ CurAt wr b av len ∧ w.grownBy wr (some b)) (fun _ n _ _ => (intOf n).toNat)
  case atStart => exact ⟨k0, [], rfl, by simp; omega, HR2.out, HC2.out, HG2.out⟩
  case round =>
    obtain ⟨k, l, rfl, hk, hrow, hcr, hgr⟩ := hrel
    have HROW := Lib.hid hrow
    have HCR := Lib.hid hcr
    have HGR := Lib.hid hgr
    clear hrow hcr hgr
    by_cases hk0 : 1 ≤ k
    · have hkp : (0 : Int) < (k : Int) := by omega
      go_wp2_with fail
      refine (Cur.byte b av len _ HCR.out (HS.out.grown HGR.out)).mono ?_
      rintro e w3 ⟨x, rfl, ⟨hx1, hx2⟩, hc3, hg3⟩
      have hrow3 := HROW.out.passed hg3 HB.out
      have hgr3 := grownTrans HGR.out hg3
      have hB3 : w.heap.size ≤ w3.heap.size := hgr3.size
      have HC3 := Lib.hid hc3
      have HG3 := Lib.hid hgr3
      clear hc3 hg3 hgr3
      by_cases h1 : st = 1
      · subst h1
        go_wp2_with (at_builtin; go_must (refine wp_byteK rfl _ _ rfl w.heap.size w3 w3 _ l (x % 2) _ hrow3 (Below.refl _ _) hB3 (by omega) (by omega) rfl rfl rfl ?_; intro v1 w4 k1 k2 k3 k4))
        go_roundw
        case rel => exact ⟨k - 1, _, by rw [show ((k - 1 : Nat) : Int) = (k : Int) - 1 by omega], by simp; omega, k1, HC3.out.below k2 HB.out, grownByte HG3.out k2⟩
        case measure => simp [intOf]; omega
      · have t1 : (st == 1) = false := by rw [beq_eq_false_iff_ne]; exact h1
        by_cases h2 : st = 2
        · subst h2
          go_wp2_with (at_builtin; go_must (refine wp_byteK rfl _ _ rfl w.heap.size w3 w3 _ l (97 + x % 4) _ hrow3 (Below.refl _ _) hB3 (by omega) (by omega) rfl rfl rfl ?_; intro v1 w4 k1 k2 k3 k4))
          go_roundw
          case rel => exact ⟨k - 1, _, by rw [show ((k - 1 : Nat) : Int) = (k : Int) - 1 by omega], by simp; omega, k1, HC3.out.below k2 HB.out, grownByte HG3.out k2⟩
          case measure => simp [intOf]; omega
        · have t2 : (st == 2) = false := by rw [beq_eq_false_iff_ne]; exact h2
          go_wp2_with (at_builtin; go_must (refine wp_byteK rfl _ _ rfl w.heap.size w3 w3 _ l x _ hrow3 (Below.refl _ _) hB3 (by omega) (by omega) rfl rfl rfl ?_; intro v1 w4 k1 k2 k3 k4))
          go_roundw
          case rel => exact ⟨k - 1, _, by rw [show ((k - 1 : Nat) : Int) = (k : Int) - 1 by omega], by simp; omega, k1, HC3.out.below k2 HB.out, grownByte HG3.out k2⟩
          case measure => simp [intOf]; omega
    · have gt := HROW.out.text
      have hkz : ¬ (0 : Int) < (k : Int) := by omega
      go_wp2
      go_ret
      exact ⟨l, rfl, by omega, HCR.out, HGR.out⟩
end Go.Proofs.Ytlmhdocfdpbhmaa
