/-
  What is drawn from a code for CubeValue; two tables.
-/
import Derived.Test.YtecakbjcnabpnaaDrawF
namespace Go.Proofs.Ytecakbjcnabpnaa
open Go.RowKit Plain
set_option linter.unusedVariables false
attribute [local go_sem ↓] Go.wp_at_zero Go.wp_at_succ

set_option maxRecDepth 100000 in
set_option maxHeartbeats 2000000 in
theorem Draw.cube (av : Value) (len : Nat) (w : World) (hc : CodeIn w av len) :
    Calls Try.prog 32 #[av] w (TriOut w) := by
  have HC := Lib.hid hc
  obtain ⟨ad, cap, rfl, _, _⟩ := hc
  go_enter Try.func32, Try.ntmps32
  go_wp2_with fail
  have BA := Lib.hid ((Below.refl w.heap.size w).alloc (Nat.le_refl _) (.cells #[.int .i64 0, .int .i64 0] 25))
  refine (Cur.new _ len _ (HC.out.below BA.out)).mono ?_
  rintro e w1 ⟨b, rfl, hb, hc1, hs1, hb1⟩
  simp only [World.size_alloc] at hb
  have HBN : Hid (w.heap.size ≤ b) := Lib.hid (by omega)
  have B1 := Lib.hid (BA.out.trans (hb1.mono (by simp)))
  have X1 := Lib.hid ((hb1.block w.heap.size (by simp)).trans (heap_alloc_new w _))
  have C1 := Lib.hid hc1
  have S1 := Lib.hid hs1
  have hbne : b ≠ w.heap.size := by omega
  have HBE := Lib.hid hbne
  clear hc1 hs1 hb1 hbne
  go_wp2_with fail
  refine (Draw.any b _ len _ C1.out S1.out).mono ?_
  rintro e w2 ⟨n, a, rfl, hn, ha, hc2, hg2⟩
  have hs2 := hg2.size
  have NN := Lib.hid hn
  have AA := Lib.hid ha
  have B2 := Lib.hid ((grownNew B1.out hg2 HBN.out).alloc (by have := B1.out.size; omega) (.cells #[.int .i64 n, .int .i64 a] 25))
  have X2 := Lib.hid (blockAlloc (blockOver X1.out hg2 (by have := HBE.out; omega)) (.cells #[.int .i64 n, .int .i64 a] 25))
  have F2 := Lib.hid (heap_alloc_new w2 (.cells #[.int .i64 n, .int .i64 a] 25))
  have C2 := Lib.hid (hc2.alloc (.cells #[.int .i64 n, .int .i64 a] 25))
  have S2 := Lib.hid ((S1.out.grown hg2).alloc (.cells #[.int .i64 n, .int .i64 a] 25))
  have HBF : Hid (some w2.heap.size ≠ some b) := Lib.hid (by have := hc2.lt; simp; omega)
  have hs2' : w.heap.size < w2.heap.size := by have := lt_of_block X1.out; omega
  clear hn ha hc2 hg2
  go_wp2_with fail
  refine (Cur.below b _ len 17 (by omega) _ C2.out S2.out).mono ?_
  rintro e wm ⟨m, rfl, ⟨hm0, hm17, _⟩, hcm, hgm⟩
  have hm17' : m < 17 := hm17 (by omega)
  have hsm : w2.heap.size + 1 ≤ wm.heap.size := by have := hgm.size; simp at this; omega
  have Bm := Lib.hid (grownNew B2.out hgm HBN.out)
  have Xm := Lib.hid (blockOver X2.out hgm (by have := HBE.out; omega))
  have Fm := Lib.hid (blockOver F2.out hgm (by have := HBF.out; simp at this; omega))
  have Cm := Lib.hid hcm
  have Sm := Lib.hid (S2.out.grown hgm)
  obtain ⟨c0, c1, _, _⟩ := cells2 Fm.out
  have F0 := Lib.hid c0
  have F1 := Lib.hid c1
  have hsm' : w.heap.size < wm.heap.size := by omega
  have hsm2 : w2.heap.size < wm.heap.size := by omega
  have hsm'' : w.heap.size < wm.drew.heap.size := by simp; omega
  clear hcm hgm c0 c1 hm17
  go_wp2_with fail
  go_region_held3 (fun w' => w'.cell? ⟨w2.heap.size, 0, none⟩ = some (.int .i64 n) ∧ w'.cell? ⟨w2.heap.size, 1, none⟩ = some (.int .i64 a))
    ((first | (go_split_ands; (try dsimp only); (refine ⟨?_, ?_⟩ <;> (repeat (first | with_reducible assumption | exact F0.out | exact F1.out | exact hg3.cell F0.out HBF.out | exact hg3.cell F1.out HBF.out | ((with_reducible refine keepS ?_ ?_); (focus (dsimp only; omega)))))); done) | go_keep))
    (first | (go_at_call 73; refine (Cur.below b _ len 17 (by omega) _ (by exact Cm.out) (by exact Sm.out)).mono ?_; rintro e w3 ⟨x, rfl, ⟨hx0, hx7, _⟩, hc3, hg3⟩; have hx8 : x < 17 := hx7 (by omega); obtain ⟨z0, z1, g0, g1⟩ := cells2 (resOver Xm.out hg3 HBE.out); have hs3' : w.heap.size < w3.heap.size := Nat.lt_of_lt_of_le hsm'' hg3.size; clear hx7))
  all_goals
    go_wp2
    obtain ⟨k0, k1⟩ := keepT (Y := w3) (g := w.heap.size) (u := .int .i64 n) (v := .int .i64 a) z0 z1
    exact bodyPost_ret (v := .tuple #[.agg #[.int .i64 n, .int .i64 a], .int .i64 m, .int .i64 (Go.bits .and .i64 m x)]) (by simp [results, Try.results32, go_sem, k0, k1]) rfl ⟨n, a, m, _, rfl, NN.out, AA.out, by unfold In64; omega, bits64_and _ _, bS (Nat.le_refl _) (bS (Nat.le_refl _) (grownNew (bD Bm.out) hg3 HBN.out))⟩

/-- A draw of yes or no. -/
def OnceOut (b : Nat) (av : Value) (len : Nat) (w : World) (e : Ending) (w' : World) : Prop := ∃ r : Bool, e = .returned (.bool r) ∧ CurAt w' b av len ∧ w.grownBy w' (some b)
theorem Draw.once (b : Nat) (av : Value) (len : Nat) (n : Int) (hn : n ≤ 2000000000) (w : World) (hc : CurAt w b av len) (hs : SrcAt w b av len) :
    Calls Try.prog 74 #[.pointer (some ⟨b, 0, none⟩), .int .i64 n] w (OnceOut b av len w) := by
  have H := Lib.hid (Cur.below b av len n hn w hc hs)
  clear hc hs hn
  go_enter Try.func74, Try.ntmps74
  go_wp2_with fail
  refine H.out.mono ?_
  rintro e w1 ⟨x, rfl, _, hc1, hg1⟩
  have HC1 := Lib.hid hc1
  have HG1 := Lib.hid hg1
  clear hc1 hg1
  go_wp2
  go_ret
  exact ⟨_, rfl, HC1.out, HG1.out⟩
end Go.Proofs.Ytecakbjcnabpnaa
