/-
  countWays and waysFrom of the program.
-/
import Derived.Test.YtecakbjcnabpnaaClsN
import Derived.Test.YtecakbjcnabpnaaClsT
import Derived.Test.YtecakbjcnabpnaaTabI
namespace Go.Proofs.Ytecakbjcnabpnaa
open Go.RowKit Plain
set_option linter.unusedVariables false

theorem grow_below {a b c : World} {m : Nat} (h : a.grownBy b (some m)) (hb : Below b.heap.size b c) : a.grownBy c (some m) := h.andThen (grownNone hb) (fun j hj => by cases hj)
theorem grow_alloc {a b : World} {m : Nat} (h : a.grownBy b (some m)) (o : Obj) : a.grownBy (b.alloc o) (some m) := h.andThen (World.grownBy_alloc b o none) (fun j hj => by cases hj)
theorem grow_map {a b c : World} {m : Nat} (h : a.grownBy b (some m)) (h2 : b.grownBy c (some m)) : a.grownBy c (some m) := h.andThen h2 (fun j hj => .inr hj)
theorem grow_refl (a : World) (r : Option Nat) : a.grownBy a r := ⟨rfl, rfl, rfl, Nat.le_refl _, fun _ _ _ => rfl⟩
theorem grow_none {a c : World} {m : Nat} (h : a.grownBy c none) : a.grownBy c (some m) := ⟨h.os, h.tape, h.output, h.size, fun i hi _ => h.block i hi (by simp)⟩

/-- clear(ways). -/
theorem wp_clear {ops : Array Oper} {rest : List Oper} {o : Oper} {a : Act} {Q : Exit → Act → World → Prop} (hg : o.guard = none) (m : Operand)
    (hop : o.op = Op.call { callee := Callee.builtin Builtin.clear, args := #[m], argTypes := #[85] })
    (w : World) (b n : Nat) (l : List Nat) (hm : a.eval m = .map (some b)) (h : MapIs w b n l)
    (hK : ∀ w', MapIs w' b 0 [] → w.grownBy w' (some b) → wpList Try.prog ops Q rest (a.put o.dst (.tuple #[])) w') : wpList Try.prog ops Q (o :: rest) a w := by
  obtain ⟨D, h1, h2⟩ := h
  exact wpList_clear_own w hg m 85 hop 62 3 Try.underlying85 _ b n D hm h1 (fun w' h3 h4 => hK w' ⟨_, h3, counts_nil⟩ h4)

theorem way_le (n : Nat) (hn : n ≤ 4) (i s : Nat) (p : List Int) (a : Nat) (hi : i < (permsL n).length) (hs : s < 2 ^ n) : (waysK n a i ++ wayP n a p s).length + 2 ≤ 768 := by
  have h4 : 2 ^ n ≤ 2 ^ 4 := Nat.pow_le_pow_right (by decide) hn
  have h24 := perms_le n hn
  have h1 : i * (2 * 2 ^ n) ≤ 23 * (2 * 2 ^ n) := Nat.mul_le_mul_right _ (by omega)
  rw [List.length_append, waysK_len n a i (by omega), wayP_len]
  omega

set_option maxRecDepth 100000 in
set_option maxHeartbeats 2000000 in
theorem Map.count (n a b N : Nat) (l : List Nat) (hn : n ≤ 4) (ha : a ≤ fullN n) (w : World) (h : MapIs w b N l) :
    Calls Try.prog 96 #[.map (some b), .agg #[.int .i64 n, .int .i64 a]] w fun e w' => e = .returned (.tuple #[]) ∧ MapIs w' b (waysL n a).length (waysL n a) ∧ w.grownBy w' (some b) := by
  have HB := Lib.hid h.lt
  have hne : some w.heap.size ≠ some b := by have := HB.out; simp; omega
  have HNE := Lib.hid hne
  have HN := Lib.hid hn
  have HFA := Lib.hid ha
  have hf5 := fullN_le n (by omega)
  have hnz : (n : Int) ≤ 4 := by omega
  have haz : (a : Int) ≤ 4294967295 := by omega
  have HM0 := Lib.hid (h.alloc (.cells #[.int .i64 n, .int .i64 a] 25))
  have HG0 : Hid (w.grownBy (w.alloc (.cells #[.int .i64 n, .int .i64 a] 25)) (some b)) := Lib.hid (grow_alloc (grow_refl w _) _)
  clear h hn ha hf5 hne
  go_enter Try.func96, Try.ntmps96
  have k0 : (w.alloc (.cells #[.int .i64 n, .int .i64 a] 25)).cell? ⟨w.heap.size, 0, none⟩ = some (.int .i64 (n : Int)) := keepN rfl rfl
  have k1 : (w.alloc (.cells #[.int .i64 n, .int .i64 a] 25)).cell? ⟨w.heap.size, 1, none⟩ = some (.int .i64 (a : Int)) := keepN rfl rfl
  go_wp2_with (first
    | (refine wp_clear rfl _ rfl _ b N l rfl HM0.out ?_; intro w1 hm1 hg1; have c0 := hg1.cell k0 HNE.out; have c1 := hg1.cell k1 HNE.out)
    | fail)
  have HM1 := Lib.hid hm1
  have HG1 := Lib.hid (grow_map HG0.out hg1)
  have hsz1 : w.heap.size < w1.heap.size := by have := hg1.size; simp at this; omega
  clear hm1 hg1 k0 k1 HM0 HG0
  refine (Tab.full n (by have := HN.out; omega) _).mono ?_
  rintro e w2 ⟨rfl, rfl⟩
  go_wp2_with fail
  refine (Perm.impl_in n HN.out _).mono ?_
  rintro e w2 ⟨⟨v, rfl, hown⟩, hb2⟩
  obtain ⟨a2, cap2, rfl, _, _⟩ := hown.rd (perms_small n HN.out)
  have HOWN := Lib.hid hown
  have d0 := keepB hb2 c0
  have d1 := keepB hb2 c1
  have HM2 := Lib.hid (HM1.out.below hb2)
  have HG2 := Lib.hid (grow_below HG1.out hb2)
  have hsz2 := hb2.size
  have hl24 := perms_le n HN.out
  have HL24 := Lib.hid hl24
  have hlz : ((permsL n).length : Int) ≤ 24 := by omega
  clear hown hb2 c0 c1 hl24 HM1 HG1
  go_wp2
  go_loopw [8, 9, 10, 11, 12, 13, 14, 27, 40] (fun _ _ _ _ _ _ _ x _ wr => ∃ i : Nat, x = .int .i64 (i : Int) ∧ i ≤ (permsL n).length ∧ MapIs wr b (waysK n a i).length (waysK n a i) ∧ w2.grownBy wr (some b)) (fun _ _ _ _ _ _ _ x _ _ => (permsL n).length - (intOf x).toNat)
  case atStart => exact ⟨0, rfl, by omega, HM2.out, grow_refl _ _⟩
  case round =>
    obtain ⟨i, rfl, hi, hm, hg⟩ := hrel
    have HM := Lib.hid hm
    have HG := Lib.hid hg
    by_cases hlt : i < (permsL n).length
    · have HI := Lib.hid hlt
      have HOWNr := HOWN.out.kept hg (by have := HB.out; omega)
      obtain ⟨a3, cap3, he, _, hr⟩ := HOWNr.rd (perms_small n HN.out)
      simp only [Value.slice.injEq, true_and] at he
      obtain ⟨rfl, rfl⟩ := he
      obtain ⟨rb, off, rfl, hbw, hcl⟩ := hr (by omega)
      obtain ⟨u, hu, hin⟩ := hcl i hlt
      have hpp := perms_ok n HN.out _ (getD_mem' (d := []) hlt)
      obtain ⟨ad, cp, rfl, _⟩ := id hin
      have HIN := Lib.hid hin
      have HPP := Lib.hid hpp
      have HSU := Lib.hid (waysK_succ n a i hlt)
      have e0 := hg.cell d0 HNE.out
      have e1 := hg.cell d1 HNE.out
      have hiz : (i : Int) < ((permsL n).length : Int) := by omega
      have HWL := Lib.hid (fun s => way_le n HN.out i s ((permsL n).getD i []) a hlt)
      have hszr := hg.size
      clear HOWNr hr hcl hin hpp hlt hi hm hg
      obtain ⟨p, hp⟩ : ∃ p, p = (permsL n).getD i [] := ⟨_, rfl⟩
      rw [← hp] at HIN HPP HSU HWL hu
      have HP := Lib.hid hp
      clear hp
      go_wp2_with fail
      refine (Tab.perI_yes n a ad p.length cp p (isT_yes (by have := HN.out; omega) HFA.out) (by have := HN.out; omega) haz HPP.out _ HIN.out).mono ?_
      rintro e w3 ⟨rfl, hb3⟩
      have q0 := keepA (o := .cells #[.int .i64 (n : Int), .int .i64 (perW n a p : Int)] 25) (keepB hb3 e0)
      have q1 := keepA (o := .cells #[.int .i64 (n : Int), .int .i64 (perW n a p : Int)] 25) (keepB hb3 e1)
      have r0 : (w3.alloc (.cells #[.int .i64 (n : Int), .int .i64 (perW n a p : Int)] 25)).cell? ⟨w3.heap.size, 0, none⟩ = some (.int .i64 (n : Int)) := keepN rfl rfl
      have r1 : (w3.alloc (.cells #[.int .i64 (n : Int), .int .i64 (perW n a p : Int)] 25)).cell? ⟨w3.heap.size, 1, none⟩ = some (.int .i64 (perW n a p : Int)) := keepN rfl rfl
      have HM3 := Lib.hid ((HM.out.below hb3).alloc (.cells #[.int .i64 (n : Int), .int .i64 (perW n a p : Int)] 25))
      have HG3 := Lib.hid (grow_alloc (grow_below HG.out hb3) (.cells #[.int .i64 (n : Int), .int .i64 (perW n a p : Int)] 25))
      have hsz3 := hb3.size
      have HNE3 : Hid (some w3.heap.size ≠ some b) := Lib.hid (by have := HB.out; simp; omega)
      obtain ⟨hp1, hp2⟩ := two_pow_int n (by have := HN.out; omega)
      have HPF := Lib.hid (tabN_full (perV a p n) n)
      have HPB := Lib.hid (tabN_bound (perV a p n) (2 ^ n) (Nat.pow_le_pow_right (n := 2) (by decide) (by have := HN.out; omega : n ≤ 5)))
      clear hb3 e0 e1 HM HG hu HIN
      go_wp2_with fail
      refine (Tab.count n (by have := HN.out; omega) _).mono ?_
      rintro e w4 ⟨rfl, rfl⟩
      go_wp2
      generalize (w3.alloc (.cells #[.int .i64 (n : Int), .int .i64 (perW n a p : Int)] 25)) = w4 at q0 q1 r0 r1 HM3 HG3 ⊢
      go_loopw [11, 12, 13, 14, 40] (fun _ _ _ _ x wr => ∃ s : Nat, x = .int .i64 (s : Int) ∧ (s : Int) ≤ 2 ^ n ∧ MapIs wr b (waysK n a i ++ wayP n a p s).length (waysK n a i ++ wayP n a p s) ∧ w4.grownBy wr (some b)) (fun _ _ _ _ x _ => 32 - (intOf x).toNat)
      case atStart => exact ⟨0, rfl, by omega, by rw [wayP_zero, List.append_nil]; exact HM3.out, grow_refl _ _⟩
      case round =>
        obtain ⟨s, rfl, hs, hm, hg⟩ := hrel
        by_cases hlt2 : (s : Int) < 2 ^ n
        · have hsn : s < 2 ^ n := by rw [up2] at hlt2; omega
          have y0 := hg.cell r0 HNE3.out
          have y1 := hg.cell r1 HNE3.out
          have HSH := Lib.hid (fun W => Tab.shiI_yes n (perW n a p) s (isT_yes (by have := HN.out; omega) HPF.out) (by have := HN.out; omega) HPB.out hlt2 W)
          have HWS := Lib.hid (wayP_succ n a p s)
          have HWL2 := Lib.hid (HWL.out s hsn)
          have hqf := way_full n a p s
          have hand := andnot_full n (wayW n a p s) (by have := HN.out; omega) hqf
          have hf5 := fullN_le n (by have := HN.out; omega)
          have hqz : ((wayW n a p s : Nat) : Int) ≤ 4294967295 := by omega
          have hpair : pairW n a p s = [wayW n a p s, fullN n - wayW n a p s] := rfl
          have hq2z : ((fullN n - wayW n a p s : Nat) : Int) ≤ 4294967295 := by omega
          rw [show shiW n (perW n a p) s = wayW n a p s from rfl] at HSH
          rw [hpair] at HWS
          have HM4 := Lib.hid hm
          have HG4 := Lib.hid hg
          clear hm hg hs hsn hqf hpair hf5
          obtain ⟨pre, hpre⟩ : ∃ pre, pre = waysK n a i ++ wayP n a p s := ⟨_, rfl⟩
          rw [← hpre] at HM4 HWL2
          have HPRE := Lib.hid hpre
          clear hpre
          generalize fullN n - wayW n a p s = q2 at hand hq2z HWS
          generalize wayW n a p s = q at HSH hand hq2z hqz HWS
          have hc1 : ((pre.count q : Nat) : Int) ≤ 768 := by have := HWL2.out; have := List.count_le_length (a := q) (l := pre); omega
          have hc2 : (((pre ++ [q]).count q2 : Nat) : Int) ≤ 769 := by have := HWL2.out; have := List.count_le_length (a := q2) (l := pre ++ [q]); simp only [List.length_append, List.length_singleton] at this; omega
          obtain ⟨pre2, hpre2⟩ : ∃ pre2, pre ++ [q] = pre2 := ⟨_, rfl⟩
          have hlen2 : pre2.length = pre.length + 1 := by rw [← hpre2]; simp
          have HLEN2 := Lib.hid hlen2
          rw [hpre2] at hc2
          have HP2 := Lib.hid hpre2
          clear hpre2 hlen2
          go_wp2_with fail
          refine (HSH.out _).mono ?_
          rintro e w5 ⟨rfl, hb5⟩
          have z0 : (w5.alloc (.cells #[.int .i64 (n : Int), .int .i64 (q : Int)] 25)).cell? ⟨w5.heap.size, 0, none⟩ = some (.int .i64 (n : Int)) := keepN rfl rfl
          have z1 : (w5.alloc (.cells #[.int .i64 (n : Int), .int .i64 (q : Int)] 25)).cell? ⟨w5.heap.size, 1, none⟩ = some (.int .i64 (q : Int)) := keepN rfl rfl
          have HM5 := Lib.hid ((HM4.out.below hb5).alloc (.cells #[.int .i64 (n : Int), .int .i64 (q : Int)] 25))
          have HG5 := Lib.hid (grow_alloc (grow_below HG4.out hb5) (.cells #[.int .i64 (n : Int), .int .i64 (q : Int)] 25))
          clear hb5 HM4 HG4
          go_wp2_with (first
            | (refine wp_look rfl _ _ rfl _ b _ pre rfl HM5.out q rfl hqz ?_)
            | (refine wp_upd rfl _ _ _ rfl _ b _ pre rfl HM5.out q rfl hqz rfl (by have := HWL2.out; omega) (by have := HWL2.out; omega) ?_; intro w6 hm6 hg6; rw [HP2.out] at hm6)
            | (refine wp_look rfl _ _ rfl _ b _ pre2 rfl hm6 q2 rfl hq2z ?_)
            | (refine wp_upd rfl _ _ _ rfl _ b _ pre2 rfl hm6 q2 rfl hq2z rfl (by have := HWL2.out; omega) (by have := HWL2.out; have := HLEN2.out; omega) ?_; intro w7 hm7 hg7)
            | fail)
          go_roundw
          case rel =>
            refine ⟨s + 1, by go_num, by omega, ?_, grow_map (grow_map HG5.out hg6) hg7⟩
            have e1 : pre2 ++ [q2] = waysK n a i ++ wayP n a p (s + 1) := by rw [HWS.out, ← List.append_assoc, ← HPRE.out, ← HP2.out]; simp
            rw [← e1, List.length_append, HLEN2.out]
            exact hm7
          case measure => simp [intOf] <;> omega
        · have he : s = 2 ^ n := by rw [up2] at hs hlt2; omega
          rw [he, ← HSU.out] at hm
          have HM4 := Lib.hid hm
          have HG4 := Lib.hid (grow_map HG3.out hg)
          clear hm hg he
          go_wp2
          go_roundw
          case rel => exact ⟨i + 1, by go_num, by have := HI.out; omega, HM4.out, HG4.out⟩
          case measure => simp [intOf] <;> omega
    · obtain rfl : i = (permsL n).length := by omega
      rw [waysK_all] at HM
      have HG3 := Lib.hid (grow_map HG2.out HG.out)
      clear hm hg
      go_wp2
      go_end0
      exact ⟨rfl, HM.out, HG3.out⟩
end Go.Proofs.Ytecakbjcnabpnaa
