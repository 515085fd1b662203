/-
  Any string that the model draws, of up to 120 bytes: spoiled, picked from a list.
-/
import Derived.Test.YtphjaggiddjhgaaGreatDoorDrawI
namespace Go.Proofs.YtphjaggiddjhgaaGreatDoor
open Go.RowKit Plain
set_option linter.unusedVariables false
attribute [local go_sem ↓] Go.wp_at_zero Go.wp_at_succ

/-- Some string of at most so many bytes, the cursor moved on. -/
def StrOut (b : Nat) (av : Value) (len : Nat) (w : World) (e : Ending) (w' : World) : Prop :=
  ∃ t : ByteArray, e = .returned (.string t) ∧ (t.size : Int) ≤ 360 ∧ CurAt w' b av len ∧ w.grownBy w' (some b)

theorem cutTo (s : ByteArray) (k : Nat) (hk : (k : Int) ≤ (s.size : Int)) (hs : (s.size : Int) ≤ 120) :
    ∃ p : ByteArray, (p.size : Int) ≤ 120 ∧ ∀ w : World, (Instr.slice 9 (.string s) none (some (.int .i64 (k : Int))) none).run Tryz.prog w = .ok (.string p) w :=
  ⟨s.extract 0 k, by rw [ByteArray.size_extract]; omega, fun w => by rw [run_slice_string_to_if (h := Tryz.underlying9), if_pos (by omega)]; rfl⟩
theorem cutFrom (s : ByteArray) (k : Int) (hk : 0 ≤ k ∧ k ≤ (s.size : Int)) (hs : (s.size : Int) ≤ 120) :
    ∃ p : ByteArray, (p.size : Int) ≤ 120 ∧ ∀ w : World, (Instr.slice 9 (.string s) (some (.int .i64 k)) none none).run Tryz.prog w = .ok (.string p) w :=
  ⟨s.extract k.toNat s.size, by rw [ByteArray.size_extract]; omega, fun w => by rw [run_slice_string_from_if (h := Tryz.underlying9), if_pos hk]⟩

theorem joinS (a b : ByteArray) (h : (a.size : Int) + (b.size : Int) ≤ 360) :
    ∃ t : ByteArray, (t.size : Int) = (a.size : Int) + (b.size : Int) ∧ ∀ w : World, (Op.stringOp .add a b).run Tryz.prog w = .ok (.string t) w :=
  ⟨a ++ b, by rw [ByteArray.size_append]; omega, fun w => run_string_add_sum w a b (by omega)⟩

def byteS (x : Int) : ByteArray := ⟨#[UInt8.ofNat x.toNat]⟩
theorem byteS_size (x : Int) : ((byteS x).size : Int) ≤ 120 := show ((1 : Nat) : Int) ≤ 120 by decide
def jn (p : ByteArray) (z : Int) : ByteArray := p ++ byteS z
def jq (p : ByteArray) (z : Int) (q : ByteArray) : ByteArray := jn p z ++ q
theorem jn_run (p : ByteArray) (hp : (p.size : Int) ≤ 120) (z : Int) (w : World) : (Op.stringOp .add p (byteS z)).run Tryz.prog w = .ok (.string (jn p z)) w :=
  run_string_add_sum w _ _ (by have := byteS_size z; omega)
theorem jn_size (p : ByteArray) (hp : (p.size : Int) ≤ 120) (z : Int) : ((jn p z).size : Int) ≤ 240 := by unfold jn; rw [ByteArray.size_append]; have := byteS_size z; omega
theorem jq_run (p : ByteArray) (hp : (p.size : Int) ≤ 120) (q : ByteArray) (hq : (q.size : Int) ≤ 120) (z : Int) (w : World) : (Op.stringOp .add (jn p z) q).run Tryz.prog w = .ok (.string (jq p z q)) w :=
  run_string_add_sum w _ _ (by have := jn_size p hp z; omega)
theorem jq_size (p : ByteArray) (hp : (p.size : Int) ≤ 120) (q : ByteArray) (hq : (q.size : Int) ≤ 120) (z : Int) : ((jq p z q).size : Int) ≤ 360 := by unfold jq; rw [ByteArray.size_append]; have := jn_size p hp z; omega
theorem u8_in (z : Int) : 0 ≤ IntKind.u8.wrap z ∧ IntKind.u8.wrap z ≤ 255 := by rw [IntKind.wrap_u8]; omega
theorem byteStr (z : Int) (w : World) :
    (convert 22 9 (.slice (some ⟨w.heap.size, 0, none⟩) 1 1)).run Tryz.prog (w.alloc (.cells #[.int .u8 (IntKind.u8.wrap z)] 5)) = .ok (.string (byteS (IntKind.u8.wrap z))) (w.alloc (.cells #[.int .u8 (IntKind.u8.wrap z)] 5)) := by
  have hx := u8_in z
  generalize IntKind.u8.wrap z = x at hx
  refine run_convert_bytes_back (P := Tryz.prog) (w.alloc (.cells #[.int .u8 x] 5)) 22 9 5 ⟨w.heap.size, 0, none⟩ 1 [UInt8.ofNat x.toNat] Tryz.underlying22 Tryz.underlying5 Tryz.underlying9 ?_
  intro j hj
  have hj0 : j = 0 := by simpa using hj
  subst hj0
  have hn : x.toNat % 256 = x.toNat := Nat.mod_eq_of_lt (by omega)
  have h : (((UInt8.ofNat x.toNat).toNat : Nat) : Int) = x := by rw [UInt8.toNat_ofNat', hn]; omega
  show _ = some (Value.int .u8 (((UInt8.ofNat x.toNat).toNat : Nat) : Int))
  rw [h]
  exact World.cell?_alloc_mark w _ _ _ 0

set_option maxRecDepth 100000 in
set_option maxHeartbeats 4000000 in
theorem Draw.spoil (b : Nat) (av : Value) (len : Nat) (s : ByteArray) (hsz : (s.size : Int) ≤ 120) (w : World) (hc : CurAt w b av len) (hs : SrcAt w b av len) :
    Calls Tryz.prog 57 #[.pointer (some ⟨b, 0, none⟩), .string s] w (StrOut b av len w) := by
  have HS := Lib.hid hs
  have HC := Lib.hid hc
  have HB := Lib.hid hc.lt
  clear hc hs
  by_cases h0 : s.size = 0
  · have hz : (s.size : Int) = 0 := by omega
    go_enter Tryz.func57, Tryz.ntmps57
    go_wp2_with fail
    refine (Draw.text b av len 3 (by omega) _ HC.out HS.out).mono ?_
    rintro e w1 ⟨l, rfl, hl, hc1, hg1⟩
    have HC1 := Lib.hid hc1
    have HG1 := Lib.hid hg1
    have HLT : Hid (((⟨l.toArray⟩ : ByteArray).size : Int) ≤ 360) := Lib.hid (by
      show ((l.toArray.size : Nat) : Int) ≤ 360
      simp; omega)
    generalize (⟨l.toArray⟩ : ByteArray) = t at HLT ⊢
    clear hc1 hg1
    go_wp2
    go_ret
    exact ⟨t, rfl, HLT.out, HC1.out, HG1.out⟩
  · have hz : ((s.size : Int) == 0) = false := by rw [beq_eq_false_iff_ne]; omega
    have hpos : (1 : Int) ≤ (s.size : Int) := by omega
    clear h0
    go_enter Tryz.func57, Tryz.ntmps57
    go_wp2_with fail
    refine (Cur.below b av len (s.size : Int) (by omega) _ HC.out HS.out).mono ?_
    rintro e w1 ⟨i, rfl, ⟨hi0, hi1, _⟩, hc1, hg1⟩
    obtain ⟨k, rfl⟩ := Int.eq_ofNat_of_zero_le hi0
    have hk : (k : Int) < (s.size : Int) := hi1 hpos
    have HC1 := Lib.hid hc1
    have HS1 := Lib.hid (HS.out.grown hg1)
    have HG1 := Lib.hid hg1
    clear hc1 hg1 hi0 hi1
    go_wp2_with fail
    refine (Cur.below b av len 4 (by omega) _ HC1.out HS1.out).mono ?_
    rintro e w2 ⟨x, rfl, ⟨hx0, hx4, _⟩, hc2, hg2⟩
    have hx : x < 4 := hx4 (by omega)
    have HC2 := Lib.hid hc2
    have HS2 := Lib.hid (HS1.out.grown hg2)
    have HG2 := Lib.hid (grownTrans HG1.out hg2)
    obtain ⟨p, hp, f1⟩ := cutTo s k (by omega) hsz
    obtain ⟨q, hq, f2⟩ := cutFrom s ((k : Int) + 1) (by omega) hsz
    obtain ⟨r, hr, f3⟩ := cutFrom s (k : Int) (by omega) hsz
    have g1 : (k : Int) + 1 ≤ (s.size : Int) := by omega
    have g2 : (0 : Int) ≤ (k : Int) + 1 := by omega
    have g3 : (k : Int) ≤ (s.size : Int) := by omega
    have g4 : IntKind.i64.wrap ((k : Int) + 1) = (k : Int) + 1 := IntWalk.i64_in _ ⟨by omega, by omega⟩
    clear hc2 hg2 hx4
    by_cases hx' : x = 0
    · subst hx'
      go_wp2
      go_region_with (fail)
      all_goals
        go_wp2
        go_ret
        exact ⟨_, rfl, by rw [ByteArray.size_append]; omega, HC2.out, grownDrew HG2.out 1⟩
    · have t0 : (x == 0) = false := by rw [beq_eq_false_iff_ne]; exact hx'
      by_cases hx1 : x = 1
      · subst hx1
        have HF5 := Lib.hid byteStr
        go_wp2
        have f5 := HF5.out
        (go_region_with (first | (go_at_call 73; refine (Cur.byte b av len _ (by exact HC2.out) (by exact HS2.out)).mono ?_; rintro e w3 ⟨y, rfl, hyy, hc3, hg3⟩; have hby := byteS_size (IntKind.u8.wrap y); obtain ⟨T1, hT1, f6⟩ := joinS p (byteS (IntKind.u8.wrap y)) (by omega); obtain ⟨T2, hT2, f7⟩ := joinS T1 r (by omega))))
        all_goals
          go_wp2
          go_ret
          refine ⟨_, rfl, by omega, by exact hc3.alloc _, ?_⟩
          repeat (first | (with_reducible refine grownDrew ?_ 1) | (with_reducible refine grownAlloc ?_ _) | exact grownTrans (grownDrew HG2.out 1) hg3)
      · have t1 : (x == 1) = false := by rw [beq_eq_false_iff_ne]; exact hx1
        by_cases hx2 : x = 2
        · subst hx2
          go_wp2
          go_ret
          exact ⟨_, rfl, by omega, HC2.out, HG2.out⟩
        · have t2 : (x == 2) = false := by rw [beq_eq_false_iff_ne]; exact hx2
          have HF5 := Lib.hid byteStr
          go_wp2
          have f5 := HF5.out
          (go_region_with (first | (go_at_call 55; refine (Cur.below b av len 255 (by omega) _ (by exact HC2.out) (by exact HS2.out)).mono ?_; rintro e w3 ⟨y, rfl, hyy, hc3, hg3⟩; have hy0 := hyy.1; have hy1 := hyy.2.1 (by omega); have f6 := jn_run p hp; have f7 := jq_run p hp q hq)))
          all_goals
            go_wp2
            go_ret
            refine ⟨_, rfl, jq_size p hp q hq _, by exact hc3.alloc _, ?_⟩
            repeat (first | (with_reducible refine grownDrew ?_ 1) | (with_reducible refine grownAlloc ?_ _) | exact grownTrans (grownDrew HG2.out 1) hg3)

/-- A list of strings that can be read, in another block than b. -/
def StrsAt (w : World) (b : Nat) (lv : Value) (zs : List ByteArray) : Prop :=
  ∃ lb cap, lv = .slice (some ⟨lb, 0, none⟩) zs.length cap ∧ lb ≠ b ∧ 0 < zs.length ∧ zs.length ≤ 1000 ∧ ∀ j, j < zs.length → w.cell? ⟨lb, j, none⟩ = some (.string (zs.getD j ⟨#[]⟩))
theorem StrsAt.grown {w w' : World} {b : Nat} {lv : Value} {zs : List ByteArray} (h : StrsAt w b lv zs) (hg : w.grownBy w' (some b)) : StrsAt w' b lv zs := by
  obtain ⟨lb, cap, rfl, hne, h0, h1, hc⟩ := h
  exact ⟨lb, cap, rfl, hne, h0, h1, fun j hj => hg.cell (hc j hj) (by simpa using hne)⟩
theorem strsNew (w : World) (b : Nat) (hb : b < w.heap.size) (zs : List ByteArray) (T : TypeId) (h0 : 0 < zs.length) (h1 : zs.length ≤ 1000) :
    StrsAt (w.alloc (.cells (zs.map Value.string).toArray T)) b (.slice (some ⟨w.heap.size, 0, none⟩) zs.length zs.length) zs := by
  refine ⟨w.heap.size, zs.length, rfl, by omega, h0, h1, fun j hj => ?_⟩
  rw [World.cell?_alloc_mark]
  simp [hj, List.getD]
set_option maxRecDepth 100000 in
set_option maxHeartbeats 2000000 in
theorem Cur.pick (b : Nat) (av : Value) (len : Nat) (lv : Value) (zs : List ByteArray) (hz : ∀ j, j < zs.length → ((zs.getD j ⟨#[]⟩).size : Int) ≤ 360) (w : World) (hc : CurAt w b av len) (hs : SrcAt w b av len) (hl : StrsAt w b lv zs) :
    Calls Tryz.prog 58 #[.pointer (some ⟨b, 0, none⟩), lv] w (StrOut b av len w) := by
  have HI := Lib.hid hl
  have HZ := Lib.hid hz
  obtain ⟨lb, cap, rfl, hne, h0, h1, hcl⟩ := hl
  have H := Lib.hid (Cur.below b av len (zs.length : Int) (by omega) w hc hs)
  clear hc hs hcl hz
  go_enter Tryz.func58, Tryz.ntmps58
  go_wp2_with fail
  refine H.out.mono ?_
  rintro e w1 ⟨x, rfl, ⟨hx0, hx1, _⟩, hc1, hg1⟩
  obtain ⟨j, rfl⟩ := Int.eq_ofNat_of_zero_le hx0
  have hjl : j < zs.length := by have := hx1 (by omega); omega
  obtain ⟨lb', cap', he, _, _, _, hcl1⟩ := HI.out.grown hg1
  simp only [Value.slice.injEq, Option.some.injEq, Addr.mk.injEq, and_true, true_and] at he
  obtain ⟨rfl, rfl⟩ := he
  have hcell := hcl1 j hjl
  have HT := Lib.hid (HZ.out j hjl)
  generalize zs.getD j ⟨#[]⟩ = t at hcell HT
  have HC1 := Lib.hid hc1
  have HG1 := Lib.hid hg1
  clear hc1 hg1 hcl1 hx1
  go_wp2
  go_ret
  exact ⟨t, rfl, HT.out, HC1.out, HG1.out⟩

end Go.Proofs.YtphjaggiddjhgaaGreatDoor
