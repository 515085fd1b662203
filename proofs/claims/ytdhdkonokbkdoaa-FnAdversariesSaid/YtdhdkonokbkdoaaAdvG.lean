/-
  Chapter 8: the game of the program (ask, play, PlayAgainst): a function in a struct's field.
-/
import Derived.Laws.EntriesVeiled
import Derived.Test.YtdhdkonokbkdoaaPlainM
import Derived.Test.YtdhdkonokbkdoaaRowB
import Derived.Test.YtdhdkonokbkdoaaResIM
namespace Go.Proofs.Ytdhdkonokbkdoaa
open Go.RowKit Plain
set_option linter.unusedVariables false

/-- The cells of a game. -/
def gameC (n a : Int) : Array Value := #[.int .i64 n, .int .i64 a, .func (.func 32) #[] #[]]
theorem tri_cells {w : World} {b : Nat} {x0 x1 x2 : Value} {T : TypeId} (h : w.heap[b]? = some (.cells #[x0, x1, x2] T (0, 0))) :
    w.cell? ⟨b, 0, none⟩ = some x0 ∧ w.cell? ⟨b, 1, none⟩ = some x1 ∧ w.cell? ⟨b, 2, none⟩ = some x2 := by
  refine ⟨?_, ?_, ?_⟩ <;> (rw [cell_of_row w b _ _ _ (0, 0) h]; rfl)
theorem tri_put {w : World} {b : Nat} {x0 x1 x2 : Value} {T : TypeId} (h : w.heap[b]? = some (.cells #[x0, x1, x2] T (0, 0))) (y0 y1 : Value) :
    ((w.setCell ⟨b, 0, none⟩ y0).setCell ⟨b, 1, none⟩ y1).heap[b]? = some (.cells #[y0, y1, x2] T (0, 0)) := by
  have h0 : (w.setCell ⟨b, 0, none⟩ y0).heap[b]? = some (.cells #[y0, x1, x2] T (0, 0)) := by rw [heap_setCell_same w b 0 _ _ y0 h]; rfl
  rw [heap_setCell_same _ b 1 _ _ y1 h0]; rfl
theorem shl_all : ∀ r < 2, ∀ i < 4, IntKind.i64.wrap (((r : Nat) : Int) * 2 ^ i) = ((r * 2 ^ i : Nat) : Int) := by decide +kernel
theorem one_shl : ∀ i < 4, IntKind.i64.wrap ((2 : Int) ^ i) = ((2 ^ i : Nat) : Int) := by decide +kernel

set_option maxRecDepth 100000 in
set_option maxHeartbeats 4000000 in
/-- ask. -/
theorem Game.ask (n a i b : Nat) (hn : n + 1 ≤ 4) (ha : a ≤ fullN (n + 1)) (hi : i < n + 1) (w : World) (hx : w.heap[b]? = some (.cells (gameC ((n + 1 : Nat) : Int) a) 50 (0, 0))) :
    Calls Try.prog 56 #[.pointer (some ⟨b, 0, none⟩), .int .i64 (i : Int)] w fun e w' => e = .returned (.tuple #[]) ∧ w'.heap[b]? = some (.cells (gameC ((n + 1 : Nat) : Int) (keptW (n + 1) a (2 ^ i) (hardN n a i * 2 ^ i) : Nat)) 50 (0, 0)) ∧ Below b w w' := by
  have hr2 : hardN n a i < 2 := by unfold Plain.hardN; split <;> decide
  obtain ⟨o1, o2, o3⟩ := one_place hn hi hr2
  have HH := Lib.hid (Hard.any n a i hn ha hi)
  have HL := Lib.hid (Left.any (n + 1) a (2 ^ i) (hardN n a i * 2 ^ i) hn (table_word hn ha) o1 o2)
  have HS := Lib.hid (one_shl i (by omega))
  have HR := Lib.hid (shl_all (hardN n a i) hr2 i (by omega))
  have hi4 : (i : Int) < 4 := by omega
  have hr2z : (hardN n a i : Int) < 2 := by omega
  generalize hardN n a i = r at *
  generalize keptW (n + 1) a (2 ^ i) (r * 2 ^ i) = x at *
  generalize ((r * 2 ^ i : Nat) : Int) = vi at *
  generalize ((2 ^ i : Nat) : Int) = mi at *
  generalize ((n + 1 : Nat) : Int) = q at *
  have HX := Lib.hid hx
  have hbl : b < w.heap.size := lt_of_block hx
  unfold gameC at hx
  obtain ⟨c0, c1, c2⟩ := tri_cells hx
  have f0 := frozen_of_row w b 0 _ _ hx
  have f1 := frozen_of_row w b 1 _ _ hx
  clear hn ha hi hr2 o1 o2 o3 hx
  go_enter Try.func56, Try.ntmps56
  go_wp2_with fail
  go_region_with (first
    | (with_reducible refine (HH.out _).mono ?_; rintro e w3 ⟨rfl, hb3⟩; have X3 := blockB hb3 HX.out; obtain ⟨d0, d1, d2⟩ := tri_cells X3; have g0 := frozen_of_row w3 b 0 _ _ X3; have g1 := frozen_of_row w3 b 1 _ _ X3; have HX3 := Lib.hid X3; have HB3 := Lib.hid hb3; clear X3 hb3)
    | ((try rw [HS.out]); (try rw [HR.out]); with_reducible refine (HL.out _).mono ?_; rintro e w4 ⟨rfl, hb4⟩; have X4 := blockB hb4 HX3.out; obtain ⟨k0, k1, k2⟩ := tri_cells X4; have l0 := frozen_of_row w4 b 0 _ _ X4; have l1 := frozen_of_row w4 b 1 _ _ X4; have HX4 := Lib.hid X4; have HB4 := Lib.hid hb4; clear X4 hb4))
  all_goals
    have hs3 := HB3.out.size
    have hs4 := HB4.out.size
    try simp only [World.size_drew] at hs3 hs4
    go_wp2
    exact bodyPost_end (v := .tuple #[]) (by simp [results, Try.results56, go_sem]) rfl ⟨rfl, tri_put HX4.out _ _, by repeat (first | (with_reducible exact Below.refl _ _) | ((with_reducible refine bS ?_ ?_); (focus (dsimp only; omega))) | (with_reducible refine bD ?_) | ((with_reducible refine bB HB4.out ?_ ?_); (focus (first | omega | (simp; omega)))) | ((with_reducible refine bB HB3.out ?_ ?_); (focus (first | omega | (simp; omega)))))⟩

theorem Game.ask2 (n a i b : Nat) (hn : n ≤ 4) (ha : a ≤ fullN n) (hi : i < n) (w : World) (hx : w.heap[b]? = some (.cells (gameC (n : Int) a) 50 (0, 0))) :
    Calls Try.prog 56 #[.pointer (some ⟨b, 0, none⟩), .int .i64 (i : Int)] w fun e w' => e = .returned (.tuple #[]) ∧ w'.heap[b]? = some (.cells (gameC (n : Int) (keptW n a (2 ^ i) (hardN (n - 1) a i * 2 ^ i) : Nat)) 50 (0, 0)) ∧ Below b w w' := by
  obtain ⟨k, rfl⟩ : ∃ k, n = k + 1 := ⟨n - 1, by omega⟩
  exact Game.ask k a i b hn ha hi w hx

/-- A round of the game. -/
theorem Game.next (n a b : Nat) (l : List Int) (t : Nat) (hn : n ≤ 4) (hp : permB l n = true) (ht : t ≤ n) (hlt : ¬ cubV n a (gm n a l t).1 (gm n a l t).2 < 2) (w : World)
    (hx : w.heap[b]? = some (.cells (gameC (n : Int) (keptW n a (gm n a l t).1 (gm n a l t).2 : Nat)) 50 (0, 0))) :
    Calls Try.prog 56 #[.pointer (some ⟨b, 0, none⟩), .int .i64 (l.getD t 0)] w fun e w' => e = .returned (.tuple #[]) ∧ w'.heap[b]? = some (.cells (gameC (n : Int) (keptW n a (gm n a l (t + 1)).1 (gm n a l (t + 1)).2 : Nat)) 50 (0, 0)) ∧ Below b w w' := by
  obtain ⟨h1, h2, h3, h4, h5, _⟩ := gm_step hn hp ht hlt
  have ok := gm_ok (a := a) hn hp t ht
  have := Game.ask2 n (keptW n a (gm n a l t).1 (gm n a l t).2) (pAt l t) b hn (kept_full _ _ _ _) h2 w hx
  have hd : hardN (n - 1) (keptW n a (gm n a l t).1 (gm n a l t).2) (pAt l t) = advN n a (gm n a l t).1 (gm n a l t).2 (pAt l t) := by
    obtain ⟨k, rfl⟩ : ∃ k, n = k + 1 := ⟨n - 1, by omega⟩
    exact hard_kept hn ok.lt ok.sub h2 h4
  rw [hd, kept_step hn h2 (advN_lt _ _ _ _ _) h5, h3] at this
  exact this

set_option maxRecDepth 100000 in
set_option maxHeartbeats 2000000 in
/-- play. -/
theorem Game.play (n a b : Nat) (l : List Int) (v : Value) (hn : n ≤ 4) (ha : a ≤ fullN n) (hp : permB l n = true) (w0 w : World) (hv : IntsIn w0 v l) (h0 : w0.heap.size ≤ b) (hbw : Below w0.heap.size w0 w)
    (hx : w.heap[b]? = some (.cells (gameC (n : Int) a) 50 (0, 0))) :
    Calls Try.prog 33 #[.pointer (some ⟨b, 0, none⟩), v] w fun e w' => e = .returned (.int .i64 (played n a l : Int)) ∧ Below b w w' := by
  have hll := (permB_iff.1 hp).1
  obtain ⟨ad, cap, rfl, hl2, hbd, hrd⟩ := hv
  have HRD := Lib.hid hrd
  have HSTEP := Lib.hid (fun t ht hlt => gm_step (a := a) (t := t) hn hp ht hlt)
  have HEND := Lib.hid (fun t hlt => gm_end (n := n) (a := a) (l := l) (t := t) hlt)
  have HNEXT := Lib.hid (fun t ht hlt w => Game.next n a b l t hn hp ht hlt w)
  have HCON := Lib.hid (fun t (ht : t ≤ n) w => (Tab.conI n (keptW n a (gm n a l t).1 (gm n a l t).2) (by have := table_word hn (kept_full n a (gm n a l t).1 (gm n a l t).2); omega) w))
  have HCK : Hid (∀ t, t ≤ n → conT n (keptW n a (gm n a l t).1 (gm n a l t).2) = decide (cubV n a (gm n a l t).1 (gm n a l t).2 < 2)) := Lib.hid (fun t ht => con_kept hn (gm_ok hn hp t ht).lt (gm_ok hn hp t ht).sub)
  have HST : Hid (w.heap[b]? = some (.cells (gameC (n : Int) (keptW n a (gm n a l 0).1 (gm n a l 0).2 : Nat)) 50 (0, 0))) := Lib.hid (by rw [show keptW n a (gm n a l 0).1 (gm n a l 0).2 = a from kept_zero ha]; exact hx)
  have HBW := Lib.hid hbw
  have hbsz : b < w.heap.size := lt_of_block hx
  have hn4 : (n : Int) ≤ 4 := by omega
  have HLL := Lib.hid hll
  clear hll hbd hrd ha hp hx hbw
  go_enter Try.func33, Try.ntmps33
  go_wp2
  go_loopw [5] (fun x wr => ∃ t : Nat, x = .int .i64 (t : Int) ∧ t ≤ n ∧ plN n a l (n - t) t = played n a l ∧ wr.heap[b]? = some (.cells (gameC (n : Int) (keptW n a (gm n a l t).1 (gm n a l t).2 : Nat)) 50 (0, 0)) ∧ Below b w wr) (fun x _ => n - (intOf x).toNat)
  case atStart => exact ⟨0, rfl, Nat.zero_le _, rfl, HST.out, Below.refl _ _⟩
  case round =>
    obtain ⟨t, rfl, ht, hpl, hx, hbel⟩ := hrel
    have HX := Lib.hid hx
    have HB := Lib.hid hbel
    have hbr : b < wr.heap.size := lt_of_block hx
    have HC := Lib.hid (HCON.out t ht)
    rw [HCK.out t ht] at HC
    have htz : (t : Int) ≤ (n : Int) := by omega
    unfold gameC at hx
    obtain ⟨c0, c1, c2⟩ := tri_cells hx
    clear hx hbel
    by_cases hlt : cubV n a (gm n a l t).1 (gm n a l t).2 < 2
    · rw [decide_eq_true hlt] at HC
      have HE : Hid (t = played n a l) := Lib.hid (by rw [← hpl, HEND.out t hlt])
      clear hlt hpl
      generalize keptW n a (gm n a l t).1 (gm n a l t).2 = x at *
      go_wp2_with fail
      refine (HC.out _).mono ?_
      rintro e w1 ⟨rfl, hb1⟩
      go_wp2
      go_ret
      exact ⟨by rw [← HE.out]; rfl, bB hb1 (by omega) HB.out⟩
    · rw [decide_eq_false hlt] at HC
      obtain ⟨htn, _, _, _, _, hp6⟩ := HSTEP.out t ht (by omega)
      have HP6 : Hid (plN n a l (n - (t + 1)) (t + 1) = played n a l) := Lib.hid (by rw [← hp6, hpl])
      have HN := Lib.hid (fun w => HNEXT.out t ht (by omega) w)
      have htl : t < l.length := by rw [HLL.out]; exact htn
      have hlz : (l.length : Int) = (n : Int) := by rw [HLL.out]
      obtain ⟨bo, off, rfl, hbo, hcl⟩ := HRD.out (by omega)
      have hce := hcl t htl
      have hcw : wr.cell? ⟨bo, off + t, none⟩ = some (.int .i64 (l.getD t 0)) := (HB.out.cell (p := ⟨bo, off + t, none⟩) (show bo < b by omega)).trans ((HBW.out.cell (p := ⟨bo, off + t, none⟩) hbo).trans hce)
      have hbob : bo < wr.heap.size := by omega
      have htnz : (t : Int) < (l.length : Int) := by omega
      have HT1 : Hid (t + 1 ≤ n) := Lib.hid (by omega)
      clear hp6 hpl hlt hce hcl
      have HXN := HN
      generalize l.getD t 0 = xi at *
      go_wp2_with fail
      refine (HC.out _).mono ?_
      rintro e w1 ⟨rfl, hb1⟩
      have hce1 : w1.cell? ⟨bo, off + t, none⟩ = some (.int .i64 xi) := (hb1.cell (p := ⟨bo, off + t, none⟩) hbob).trans hcw
      have HX1 := Lib.hid (blockB hb1 HX.out)
      have HB1 : Hid (Below b w w1) := Lib.hid (bB hb1 (by omega) HB.out)
      clear hb1 hcw c0 c1 c2
      go_wp2_with fail
      refine (HN.out _ HX1.out).mono ?_
      rintro e w2 ⟨rfl, hx2, hb2⟩
      have HX2 := Lib.hid hx2
      have HB2 : Hid (Below b w w2) := Lib.hid (HB1.out.trans hb2)
      clear hx2 hb2
      go_wp2
      go_roundw
      case rel => exact ⟨t + 1, by go_num, HT1.out, HP6.out, HX2.out, HB2.out⟩
      case measure => simp [intOf]; omega

/-- What PlayAgainst answers. -/
def Plain.plaT (n a : Int) (l : List Int) : Int := if btB n a = true ∧ permB l n.toNat = true then (played n.toNat a.toNat l : Int) else -1
theorem plaT_yes {n a : Nat} {l : List Int} (h : btB n a = true) (hp : permB l n = true) : plaT n a l = (played n a l : Int) := if_pos ⟨h, hp⟩
theorem plaT_no {n a : Int} {l : List Int} (h : ¬ (btB n a = true ∧ permB l n.toNat = true)) : plaT n a l = -1 := if_neg h

set_option maxRecDepth 100000 in
set_option maxHeartbeats 1000000 in
/-- PlayAgainst of the program. -/
theorem Pla.impl (n a : Int) (ad : Option Addr) (cl cap : Nat) (l : List Int) (hb : -9223372036854775808 ≤ a ∧ a ≤ 9223372036854775807) (w : World) (hv : IntsIn w (.slice ad cl cap) l) :
    Calls Try.prog 11 #[.agg #[.int .i64 n, .int .i64 a], .slice ad cl cap] w fun e w' => e = .returned (.int .i64 (plaT n a l)) ∧ Below w.heap.size w w' := by
  have HH := Lib.hid (Hb.any n a hb)
  cases hc : btB n a with
  | false =>
    rw [plaT_no (by rw [hc]; simp)]
    rw [hc] at HH
    clear hc hb hv
    go_enter Try.func11, Try.ntmps11
    go_wp2_with fail
    refine (HH.out _).mono ?_
    rintro e w1 ⟨rfl, hb1⟩
    obtain ⟨hc1, hf1⟩ := bcell hb1
    go_wp2
    go_ret
    exact ⟨rfl, bB hb1 (by simp) (bA (Nat.le_refl _) (Below.refl _ _))⟩
  | true =>
    rw [hc] at HH
    obtain ⟨m, x, rfl, rfl, hm, hx, _⟩ := btB_yes hc
    have HV := Lib.hid hv
    have HO := Lib.hid (fun w h => Tab.ord m (by omega) (.slice ad cl cap) l w h)
    cases hp : permB l m with
    | false =>
      rw [plaT_no (by rw [Int.toNat_natCast, hp]; simp)]
      rw [hp] at HO
      clear hp hc hb hv hx
      go_enter Try.func11, Try.ntmps11
      go_wp2_with fail
      refine (HH.out _).mono ?_
      rintro e w1 ⟨rfl, hb1⟩
      obtain ⟨c0, c1, f0, f1⟩ := cells2 (blockB hb1 (heap_alloc_new w _))
      have HB1 : Hid (Below w.heap.size w w1) := Lib.hid (bB hb1 (by simp) (bA (Nat.le_refl _) (Below.refl _ _)))
      clear hb1
      go_wp2_with fail
      refine (HO.out _ (HV.out.below HB1.out)).mono ?_
      rintro e w2 ⟨rfl, hb2⟩
      have hs1 := HB1.out.size
      go_wp2
      go_ret
      exact ⟨rfl, bB hb2 (by omega) HB1.out⟩
    | true =>
      rw [plaT_yes hc hp]
      rw [hp] at HO
      have HP := Lib.hid (fun b w0 w hv h0 hbw hx2 => Game.play m x b l (.slice ad cl cap) hm hx hp w0 w hv h0 hbw hx2)
      clear hp hc hb hv hx
      go_enter Try.func11, Try.ntmps11
      go_wp2_with fail
      refine (HH.out _).mono ?_
      rintro e w1 ⟨rfl, hb1⟩
      have HX1 := Lib.hid (blockB hb1 (heap_alloc_new w _))
      obtain ⟨c0, c1, f0, f1⟩ := cells2 HX1.out
      have HB1 : Hid (Below w.heap.size w w1) := Lib.hid (bB hb1 (by simp) (bA (Nat.le_refl _) (Below.refl _ _)))
      clear hb1
      go_wp2_with fail
      refine (HO.out _ (HV.out.below HB1.out)).mono ?_
      rintro e w2 ⟨rfl, hb2⟩
      have hs1 := HB1.out.size
      obtain ⟨d0, d1, g0, g1⟩ := cells2 (blockB hb2 HX1.out)
      have HB2 : Hid (Below w.heap.size w w2) := Lib.hid (bB hb2 (by omega) HB1.out)
      have hs2 := HB2.out.size
      clear hb2
      go_wp2_with fail
      refine (HP.out w2.heap.size w2 _ (HV.out.below HB2.out) (Nat.le_refl _) (bA (Nat.le_refl _) (Below.refl _ _)) (heap_alloc_new w2 _)).mono ?_
      rintro e w3 ⟨rfl, hb3⟩
      go_wp2
      go_ret
      exact ⟨rfl, bA (by omega) HB2.out |>.trans (hb3.mono (by omega))⟩

end Go.Proofs.Ytdhdkonokbkdoaa
