/-
  The cursor over the code that the laws are drawn from: what its functions answer, whatever the code.
-/
import Derived.Test.YtlmhdocfdpbhmaaBase
import Derived.Test.YtlmhdocfdpbhmaaBits
import Derived.OneCell
import Derived.Deep.DeepMust
namespace Go.Proofs.Ytlmhdocfdpbhmaa
open Go.RowKit Plain
set_option linter.unusedVariables false

/-- Block b is a cursor over the slice av of len bytes. -/
def CurAt (w : World) (b : Nat) (av : Value) (len : Nat) : Prop := ∃ i : Nat, ∃ h : Int, i ≤ len ∧ w.heap[b]? = some (.cells #[av, .int .i64 i, .int .i64 h] 96 (0, 0))

/-- The slice's bytes can be read, and lie in another block than b. -/
def SrcAt (w : World) (b : Nat) (av : Value) (len : Nat) : Prop :=
  ∃ a cap, av = .slice a len cap ∧ (len : Int) ≤ 4000000 ∧ (0 < len → ∃ ab off, a = some ⟨ab, off, none⟩ ∧ ab ≠ b ∧ ab < w.heap.size ∧ ∀ j, j < len → ∃ z : Int, 0 ≤ z ∧ z ≤ 255 ∧ w.cell? ⟨ab, off + j, none⟩ = some (.int .u8 z))

theorem SrcAt.grown {w w' : World} {b : Nat} {av : Value} {len : Nat} (h : SrcAt w b av len) (hg : w.grownBy w' (some b)) : SrcAt w' b av len := by
  obtain ⟨a, cap, rfl, hl, hrest⟩ := h
  refine ⟨a, cap, rfl, hl, fun h0 => ?_⟩
  obtain ⟨ab, off, rfl, hne, hlt, hc⟩ := hrest h0
  refine ⟨ab, off, rfl, hne, Nat.lt_of_lt_of_le hlt hg.size, fun j hj => ?_⟩
  obtain ⟨z, h1, h2, h3⟩ := hc j hj
  exact ⟨z, h1, h2, hg.cell h3 (by simpa using hne)⟩

theorem grownTrans {a b c : World} {r : Option Nat} (h : a.grownBy b r) (k : b.grownBy c r) : a.grownBy c r :=
  ⟨k.os.trans h.os, k.tape.trans h.tape, k.output.trans h.output, Nat.le_trans h.size k.size, fun i hi hr => (k.block i (Nat.lt_of_lt_of_le hi h.size) hr).trans (h.block i hi hr)⟩
theorem grownRefl (a : World) (r : Option Nat) : a.grownBy a r := ⟨rfl, rfl, rfl, Nat.le_refl _, fun _ _ _ => rfl⟩
theorem grownBelow {B b : Nat} {a w w' : World} (h : Below B a w) (hg : w.grownBy w' (some b)) (hB : B ≤ b) (hw : B ≤ w.heap.size) : Below B a w' :=
  h.grown hg hw (fun k hk => by cases hk; exact hB)

/-- What a function of the cursor answers: a number with the property, the cursor moved on, all else as it was. -/
def CurOut (P : Int → Prop) (b : Nat) (av : Value) (len : Nat) (w : World) (e : Ending) (w' : World) : Prop :=
  ∃ x : Int, e = .returned (.int .i64 x) ∧ P x ∧ CurAt w' b av len ∧ w.grownBy w' (some b)

theorem and255 (a : Int) : 0 ≤ bits .and .i64 a 255 ∧ bits .and .i64 a 255 ≤ 255 := by
  have hx : (BitVec.ofInt 64 a &&& BitVec.ofInt 64 255).toNat ≤ 255 := by
    rw [BitVec.toNat_and]
    exact Nat.and_le_right
  show 0 ≤ IntKind.i64.wrap ((BitVec.ofInt 64 a &&& BitVec.ofInt 64 255).toNat : Int) ∧ IntKind.i64.wrap ((BitVec.ofInt 64 a &&& BitVec.ofInt 64 255).toNat : Int) ≤ 255
  rw [IntWalk.i64_in _ (by omega)]
  omega

theorem curCells {w : World} {b : Nat} {x y z : Value} {T : TypeId} (h : w.heap[b]? = some (.cells #[x, y, z] T (0, 0))) :
    w.cell? ⟨b, 0, none⟩ = some x ∧ w.cell? ⟨b, 1, none⟩ = some y ∧ w.cell? ⟨b, 2, none⟩ = some z ∧ w.frozen? ⟨b, 1, none⟩ = false ∧ w.frozen? ⟨b, 2, none⟩ = false := by
  refine ⟨?_, ?_, ?_, ?_, ?_⟩
  · rw [cell_of_row w b 0 _ _ (0, 0) h]; rfl
  · rw [cell_of_row w b 1 _ _ (0, 0) h]; rfl
  · rw [cell_of_row w b 2 _ _ (0, 0) h]; rfl
  · exact frozen_of_row w b 1 _ _ h
  · exact frozen_of_row w b 2 _ _ h

theorem curSet2 {w : World} {b : Nat} {x y z : Value} {T : TypeId} (h : w.heap[b]? = some (.cells #[x, y, z] T (0, 0))) (v : Value) : (w.setCell ⟨b, 2, none⟩ v).heap[b]? = some (.cells #[x, y, v] T (0, 0)) := by
  rw [heap_setCell_same w b 2 _ _ v h]; rfl
theorem curSet1 {w : World} {b : Nat} {x y z : Value} {T : TypeId} (h : w.heap[b]? = some (.cells #[x, y, z] T (0, 0))) (v : Value) : (w.setCell ⟨b, 1, none⟩ v).heap[b]? = some (.cells #[x, v, z] T (0, 0)) := by
  rw [heap_setCell_same w b 1 _ _ v h]; rfl
theorem grownSet (w : World) (b j : Nat) (v : Value) : w.grownBy (w.setCell ⟨b, j, none⟩ v) (some b) :=
  ⟨rfl, rfl, rfl, by simp, fun k _ hk => heap_setCell_other w ⟨b, j, none⟩ k v (fun e => hk (by simp [e]))⟩
theorem grownDrew {a w : World} {r : Option Nat} (h : a.grownBy w r) (n : Nat) : a.grownBy (w.drewN n) r :=
  ⟨h.os, h.tape, h.output, by simpa using h.size, fun k hk hr => by simpa using h.block k hk hr⟩

set_option maxRecDepth 100000 in
set_option maxHeartbeats 2000000 in
theorem Cur.byte (b : Nat) (av : Value) (len : Nat) (w : World) (hc : CurAt w b av len) (hs : SrcAt w b av len) :
    Calls Try.prog 116 #[.pointer (some ⟨b, 0, none⟩)] w (CurOut (fun x => 0 ≤ x ∧ x ≤ 255) b av len w) := by
  obtain ⟨i, h, hi, hh⟩ := hc
  obtain ⟨a, cap, rfl, hl, hrest⟩ := hs
  obtain ⟨c0, c1, c2, f1, f2⟩ := curCells hh
  have HH := Lib.hid hh
  clear hh
  by_cases hlt : i < len
  · obtain ⟨ab, off, rfl, hne, hab, hcs⟩ := hrest (by omega)
    obtain ⟨z, hz1, hz2, hz⟩ := hcs i hlt
    clear hrest hcs
    go_enter Try.func116, Try.ntmps116
    have hil : (i : Int) < (len : Int) := by omega
    have hid : decide (i < len) = true := decide_eq_true hlt
    have hlt2 : (i : Int) + 1 ≤ 9223372036854775807 := by omega
    go_wp2
    go_quiet (fail)
    go_wp2
    go_quiet (fail)
    go_wp2
    go_quiet (fail)
    go_wp2
    go_ret
    refine ⟨_, rfl, and255 _, ⟨i + 1, wrap64 (wrap64 (h * 6364136223846793005) + 1442695040888963407), by omega, ?_⟩, grownTrans (grownDrew (grownSet _ _ _ _) _) (grownSet _ _ _ _)⟩
    exact curSet1 (w := World.drewN _ _) (by simpa using curSet2 HH.out (.int .i64 (wrap64 (wrap64 (h * 6364136223846793005) + 1442695040888963407)))) _
  · have hid : decide (i < len) = false := decide_eq_false hlt
    have hil : ¬ (i : Int) < (len : Int) := by omega
    go_enter Try.func116, Try.ntmps116
    go_wp2
    go_quiet (fail)
    go_wp2
    go_quiet (fail)
    go_wp2
    go_ret
    refine ⟨_, rfl, and255 _, ⟨i, wrap64 (wrap64 (h * 6364136223846793005) + 1442695040888963407), by omega, ?_⟩, ?_⟩
    · have h1 := curSet2 HH.out (.int .i64 (wrap64 (wrap64 (h * 6364136223846793005) + 1442695040888963407)))
      simpa using h1
    · exact grownDrew (grownDrew (grownSet _ _ _ _) _) _

/-- What l1Below answers. -/
def Under (n x : Int) : Prop := 0 ≤ x ∧ (1 ≤ n → x < n) ∧ (n ≤ 0 → x = 0)

theorem mod_under {x n : Int} (h : 0 ≤ x) (hn : 1 ≤ n) : Under n (x % n) :=
  ⟨Int.emod_nonneg _ (by omega), fun _ => Int.emod_lt_of_pos _ (by omega), fun _ => by omega⟩

set_option maxRecDepth 100000 in
set_option maxHeartbeats 2000000 in
theorem Cur.below (b : Nat) (av : Value) (len : Nat) (n : Int) (hn : n ≤ 2000000000) (w : World) (hc : CurAt w b av len) (hs : SrcAt w b av len) :
    Calls Try.prog 97 #[.pointer (some ⟨b, 0, none⟩), .int .i64 n] w (CurOut (Under n) b av len w) := by
  have HC := Lib.hid hc
  have HS := Lib.hid hs
  clear hc hs
  by_cases h0 : n ≤ 0
  · go_enter Try.func97, Try.ntmps97
    go_wp2
    go_ret
    exact ⟨0, rfl, ⟨by omega, by omega, fun _ => rfl⟩, HC.out, grownRefl _ _⟩
  · by_cases h1 : n ≤ 256
    · go_enter Try.func97, Try.ntmps97
      go_wp2_with fail
      refine (Cur.byte b av len _ HC.out HS.out).mono ?_
      rintro e w1 ⟨x, rfl, ⟨hx1, hx2⟩, hc1, hg1⟩
      have HC1 := Lib.hid hc1
      clear hc1
      have hn1 : (n == 0) = false := by rw [beq_eq_false_iff_ne]; omega
      go_wp2
      go_ret
      exact ⟨_, rfl, mod_under hx1 (by omega), HC1.out, hg1⟩
    · go_enter Try.func97, Try.ntmps97
      go_wp2_with fail
      refine (Cur.byte b av len _ HC.out HS.out).mono ?_
      rintro e w1 ⟨x1, rfl, ⟨hx1, hy1⟩, hc1, hg1⟩
      have HC1 := Lib.hid hc1
      have HS1 := Lib.hid (HS.out.grown hg1)
      have HG1 := Lib.hid hg1
      clear hc1 hg1
      go_wp2_with fail
      refine (Cur.byte b av len _ HC1.out HS1.out).mono ?_
      rintro e w2 ⟨x2, rfl, ⟨hx2, hy2⟩, hc2, hg2⟩
      have HC2 := Lib.hid hc2
      have HS2 := Lib.hid (HS1.out.grown hg2)
      have HG2 := Lib.hid (grownTrans HG1.out hg2)
      clear hc2 hg2
      go_wp2_with fail
      refine (Cur.byte b av len _ HC2.out HS2.out).mono ?_
      rintro e w3 ⟨x3, rfl, ⟨hx3, hy3⟩, hc3, hg3⟩
      have HC3 := Lib.hid hc3
      have HS3 := Lib.hid (HS2.out.grown hg3)
      have HG3 := Lib.hid (grownTrans HG2.out hg3)
      clear hc3 hg3
      go_wp2_with fail
      refine (Cur.byte b av len _ HC3.out HS3.out).mono ?_
      rintro e w4 ⟨x4, rfl, ⟨hx4, hy4⟩, hc4, hg4⟩
      have HC4 := Lib.hid hc4
      have HG4 := Lib.hid (grownTrans HG3.out hg4)
      clear hc4 hg4
      have hn1 : (n == 0) = false := by rw [beq_eq_false_iff_ne]; omega
      have hpos : 1 ≤ n := by omega
      go_wp2
      go_ret
      exact ⟨_, rfl, mod_under (by omega) hpos, HC4.out, HG4.out⟩

/-- The code that came in: its bytes can be read; it lies below the call's blocks. -/
def CodeIn (w : World) (av : Value) (len : Nat) : Prop :=
  ∃ a cap, av = .slice a len cap ∧ (len : Int) ≤ 4000000 ∧ (0 < len → ∃ ab off, a = some ⟨ab, off, none⟩ ∧ ab < w.heap.size ∧ ∀ j, j < len → ∃ z : Int, 0 ≤ z ∧ z ≤ 255 ∧ w.cell? ⟨ab, off + j, none⟩ = some (.int .u8 z))

theorem CodeIn.below {w w' : World} {av : Value} {len : Nat} (h : CodeIn w av len) (hb : Below w.heap.size w w') : CodeIn w' av len := by
  obtain ⟨a, cap, rfl, hl, hrest⟩ := h
  refine ⟨a, cap, rfl, hl, fun h0 => ?_⟩
  obtain ⟨ab, off, rfl, hlt, hc⟩ := hrest h0
  refine ⟨ab, off, rfl, Nat.lt_of_lt_of_le hlt hb.size, fun j hj => ?_⟩
  obtain ⟨z, h1, h2, h3⟩ := hc j hj
  exact ⟨z, h1, h2, (hb.cell (p := ⟨ab, off + j, none⟩) hlt).trans h3⟩

/-- What l1New answers: a cursor in a new block. -/
def NewOut (av : Value) (len : Nat) (w : World) (e : Ending) (w' : World) : Prop :=
  ∃ b, e = .returned (.pointer (some ⟨b, 0, none⟩)) ∧ w.heap.size ≤ b ∧ CurAt w' b av len ∧ SrcAt w' b av len ∧ Below w.heap.size w w'

theorem newOut {a : Option Addr} {len cap : Nat} {w : World} (v : Int) (hl : (len : Int) ≤ 4000000)
    (hrest : 0 < len → ∃ ab off, a = some ⟨ab, off, none⟩ ∧ ab < w.heap.size ∧ ∀ j, j < len → ∃ z : Int, 0 ≤ z ∧ z ≤ 255 ∧ w.cell? ⟨ab, off + j, none⟩ = some (.int .u8 z)) :
    NewOut (.slice a len cap) len w (.returned (.pointer (some ⟨w.heap.size, 0, none⟩))) (w.alloc (.cells #[.slice a len cap, .int .i64 0, .int .i64 v] 96)) := by
  have hb : Below w.heap.size w (w.alloc (.cells #[.slice a len cap, .int .i64 0, .int .i64 v] 96)) := (Below.refl _ _).alloc (Nat.le_refl _) _
  refine ⟨_, rfl, Nat.le_refl _, ⟨0, v, by omega, heap_alloc_new w _⟩, ⟨a, cap, rfl, hl, fun h0 => ?_⟩, hb⟩
  obtain ⟨ab, off, rfl, hlt, hc⟩ := hrest h0
  refine ⟨ab, off, rfl, by omega, Nat.lt_of_lt_of_le hlt hb.size, fun j hj => ?_⟩
  obtain ⟨z, h1, h2, h3⟩ := hc j hj
  exact ⟨z, h1, h2, (hb.cell (p := ⟨ab, off + j, none⟩) hlt).trans h3⟩

set_option maxRecDepth 100000 in
set_option maxHeartbeats 2000000 in
theorem Cur.new (av : Value) (len : Nat) (w : World) (hc : CodeIn w av len) :
    Calls Try.prog 64 #[av] w (NewOut av len w) := by
  obtain ⟨a, cap, rfl, hl, hrest⟩ := hc
  have HR := Lib.hid hrest
  clear hrest
  go_enter Try.func64, Try.ntmps64
  go_wp2
  go_loop [3, 4] (fun h i => ∃ k : Nat, ∃ v : Int, k ≤ len ∧ i = .int .i64 (k : Int) ∧ h = .int .i64 v) (fun _ i => len - (intOf i).toNat)
  case atStart => exact ⟨0, _, by omega, rfl, rfl⟩
  case round =>
    obtain ⟨k, v, hk, rfl, rfl⟩ := hrel
    by_cases hlt : k < len
    · obtain ⟨ab, off, rfl, hab, hcs⟩ := HR.out (by omega)
      obtain ⟨z, hz1, hz2, hz⟩ := hcs k hlt
      clear hcs
      by_cases h4 : (k : Int) < 4000
      · go_wp2
        go_round
        case rel => exact ⟨k + 1, _, by omega, by go_num, rfl⟩
        case measure => simp [intOf]; omega
      · go_wp2
        go_ret
        exact newOut v hl HR.out
    · go_wp2
      go_ret
      exact newOut v hl HR.out

/-- A list of integers that can be read, in another block than b. -/
def IntsAt (w : World) (b : Nat) (lv : Value) (zs : List Int) : Prop :=
  ∃ lb cap, lv = .slice (some ⟨lb, 0, none⟩) zs.length cap ∧ lb ≠ b ∧ 0 < zs.length ∧ zs.length ≤ 1000 ∧ ∀ j, j < zs.length → w.cell? ⟨lb, j, none⟩ = some (.int .i64 (zs.getD j 0))
theorem IntsAt.grown {w w' : World} {b : Nat} {lv : Value} {zs : List Int} (h : IntsAt w b lv zs) (hg : w.grownBy w' (some b)) : IntsAt w' b lv zs := by
  obtain ⟨lb, cap, rfl, hne, h0, h1, hc⟩ := h
  exact ⟨lb, cap, rfl, hne, h0, h1, fun j hj => hg.cell (hc j hj) (by simpa using hne)⟩

set_option maxRecDepth 100000 in
set_option maxHeartbeats 2000000 in
theorem Cur.pickInt (b : Nat) (av : Value) (len : Nat) (lv : Value) (zs : List Int) (w : World) (hc : CurAt w b av len) (hs : SrcAt w b av len) (hl : IntsAt w b lv zs) :
    Calls Try.prog 66 #[.pointer (some ⟨b, 0, none⟩), lv] w (CurOut (fun x => ∃ j, j < zs.length ∧ x = zs.getD j 0) b av len w) := by
  have HI := Lib.hid hl
  obtain ⟨lb, cap, rfl, hne, h0, h1, hcl⟩ := hl
  have H := Lib.hid (Cur.below b av len (zs.length : Int) (by omega) w hc hs)
  clear hc hs hcl
  go_enter Try.func66, Try.ntmps66
  go_wp2_with fail
  refine H.out.mono ?_
  rintro e w1 ⟨x, rfl, ⟨hx0, hx1, _⟩, hc1, hg1⟩
  obtain ⟨j, rfl⟩ := Int.eq_ofNat_of_zero_le hx0
  have hjl : j < zs.length := by have := hx1 (by omega); omega
  obtain ⟨lb', cap', he, _, _, _, hcl1⟩ := HI.out.grown hg1
  simp only [Value.slice.injEq, Option.some.injEq, Addr.mk.injEq, and_true, true_and] at he
  obtain ⟨rfl, rfl⟩ := he
  have hcell := hcl1 j hjl
  have HC1 := Lib.hid hc1
  have HG1 := Lib.hid hg1
  clear hc1 hg1 hcl1 hx1
  go_wp2
  go_ret
  exact ⟨_, rfl, ⟨j, hjl, by simp [List.getD, hjl]⟩, HC1.out, HG1.out⟩
end Go.Proofs.Ytlmhdocfdpbhmaa
