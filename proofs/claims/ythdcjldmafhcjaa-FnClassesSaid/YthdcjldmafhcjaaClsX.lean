/-
  countWays and waysFrom of the program.
  waysFrom, hasClass, SymmetriesOf and ClassSize of the program.
-/
import Derived.Test.YthdcjldmafhcjaaClsN
import Derived.Test.YthdcjldmafhcjaaClsT
import Derived.Test.YthdcjldmafhcjaaTabI
import Derived.Deep.RegionHeld3
import Derived.Deep.DrawnRows

namespace Go.Proofs.Ythdcjldmafhcjaa
open Go.RowKit Plain
set_option linter.unusedVariables false

theorem grow_below {a b c : World} {m : Nat} (h : a.grownBy b (some m)) (hb : Below b.heap.size b c) : a.grownBy c (some m) := h.andThen (grownNone hb) (fun j hj => by cases hj)
theorem grow_alloc {a b : World} {m : Nat} (h : a.grownBy b (some m)) (o : Obj) : a.grownBy (b.alloc o) (some m) := h.andThen (World.grownBy_alloc b o none) (fun j hj => by cases hj)
theorem grow_map {a b c : World} {m : Nat} (h : a.grownBy b (some m)) (h2 : b.grownBy c (some m)) : a.grownBy c (some m) := h.andThen h2 (fun j hj => .inr hj)
theorem grow_refl (a : World) (r : Option Nat) : a.grownBy a r := ⟨rfl, rfl, rfl, Nat.le_refl _, fun _ _ _ => rfl⟩
theorem grow_none {a c : World} {m : Nat} (h : a.grownBy c none) : a.grownBy c (some m) := ⟨h.os, h.tape, h.output, h.size, fun i hi _ => h.block i hi (by simp)⟩

/-- clear(ways). -/
theorem wp_clear {ops : Array Oper} {rest : List Oper} {o : Oper} {a : Act} {Q : Exit → Act → World → Prop} (hg : o.guard = none) (m : Operand)
    (hop : o.op = Op.call { callee := Callee.builtin Builtin.clear, args := #[m], argTypes := #[58] })
    (w : World) (b n : Nat) (l : List Nat) (hm : a.eval m = .map (some b)) (h : MapIs w b n l)
    (hK : ∀ w', MapIs w' b 0 [] → w.grownBy w' (some b) → wpList Try.prog ops Q rest (a.put o.dst (.tuple #[])) w') : wpList Try.prog ops Q (o :: rest) a w := by
  obtain ⟨D, h1, h2⟩ := h
  exact wpList_clear_own w hg m 58 hop 56 3 Try.underlying58 _ b n D hm h1 (fun w' h3 h4 => hK w' ⟨_, h3, counts_nil⟩ h4)

theorem way_le (n : Nat) (hn : n ≤ 4) (i s : Nat) (p : List Int) (a : Nat) (hi : i < (permsL n).length) (hs : s < 2 ^ n) : (waysK n a i ++ wayP n a p s).length + 2 ≤ 768 := by
  have h4 : 2 ^ n ≤ 2 ^ 4 := Nat.pow_le_pow_right (by decide) hn
  have h24 := perms_le n hn
  have h1 : i * (2 * 2 ^ n) ≤ 23 * (2 * 2 ^ n) := Nat.mul_le_mul_right _ (by omega)
  rw [List.length_append, waysK_len n a i (by omega), wayP_len]
  omega

set_option maxRecDepth 100000 in
set_option maxHeartbeats 2000000 in
theorem Map.count (n a b N : Nat) (l : List Nat) (hn : n ≤ 4) (ha : a ≤ fullN n) (w : World) (h : MapIs w b N l) :
    Calls Try.prog 71 #[.map (some b), .agg #[.int .i64 n, .int .i64 a]] w fun e w' => e = .returned (.tuple #[]) ∧ MapIs w' b (waysL n a).length (waysL n a) ∧ w.grownBy w' (some b) := by
  have HB := Lib.hid h.lt
  have hne : some w.heap.size ≠ some b := by have := HB.out; simp; omega
  have HNE := Lib.hid hne
  have HN := Lib.hid hn
  have HFA := Lib.hid ha
  have hf5 := fullN_le n (by omega)
  have hnz : (n : Int) ≤ 4 := by omega
  have haz : (a : Int) ≤ 4294967295 := by omega
  have HM0 := Lib.hid (h.alloc (.cells #[.int .i64 n, .int .i64 a] 25))
  have HG0 : Hid (w.grownBy (w.alloc (.cells #[.int .i64 n, .int .i64 a] 25)) (some b)) := Lib.hid (grow_alloc (grow_refl w _) _)
  clear h hn ha hf5 hne
  go_enter Try.func71, Try.ntmps71
  have k0 : (w.alloc (.cells #[.int .i64 n, .int .i64 a] 25)).cell? ⟨w.heap.size, 0, none⟩ = some (.int .i64 (n : Int)) := keepN rfl rfl
  have k1 : (w.alloc (.cells #[.int .i64 n, .int .i64 a] 25)).cell? ⟨w.heap.size, 1, none⟩ = some (.int .i64 (a : Int)) := keepN rfl rfl
  go_wp2_with (first
    | (refine wp_clear rfl _ rfl _ b N l rfl HM0.out ?_; intro w1 hm1 hg1; have c0 := hg1.cell k0 HNE.out; have c1 := hg1.cell k1 HNE.out)
    | fail)
  have HM1 := Lib.hid hm1
  have HG1 := Lib.hid (grow_map HG0.out hg1)
  have hsz1 : w.heap.size < w1.heap.size := by have := hg1.size; simp at this; omega
  clear hm1 hg1 k0 k1 HM0 HG0
  refine (Tab.full n (by have := HN.out; omega) _).mono ?_
  rintro e w2 ⟨rfl, rfl⟩
  go_wp2_with fail
  refine (Perm.impl_in n HN.out _).mono ?_
  rintro e w2 ⟨⟨v, rfl, hown⟩, hb2⟩
  obtain ⟨a2, cap2, rfl, _, _⟩ := hown.rd (perms_small n HN.out)
  have HOWN := Lib.hid hown
  have d0 := keepB hb2 c0
  have d1 := keepB hb2 c1
  have HM2 := Lib.hid (HM1.out.below hb2)
  have HG2 := Lib.hid (grow_below HG1.out hb2)
  have hsz2 := hb2.size
  have hl24 := perms_le n HN.out
  have HL24 := Lib.hid hl24
  have hlz : ((permsL n).length : Int) ≤ 24 := by omega
  clear hown hb2 c0 c1 hl24 HM1 HG1
  go_wp2
  go_loopw [8, 9, 10, 11, 12, 13, 14, 27, 40] (fun _ _ _ _ _ _ _ x _ wr => ∃ i : Nat, x = .int .i64 (i : Int) ∧ i ≤ (permsL n).length ∧ MapIs wr b (waysK n a i).length (waysK n a i) ∧ w2.grownBy wr (some b)) (fun _ _ _ _ _ _ _ x _ _ => (permsL n).length - (intOf x).toNat)
  case atStart => exact ⟨0, rfl, by omega, HM2.out, grow_refl _ _⟩
  case round =>
    obtain ⟨i, rfl, hi, hm, hg⟩ := hrel
    have HM := Lib.hid hm
    have HG := Lib.hid hg
    by_cases hlt : i < (permsL n).length
    · have HI := Lib.hid hlt
      have HOWNr := HOWN.out.kept hg (by have := HB.out; omega)
      obtain ⟨a3, cap3, he, _, hr⟩ := HOWNr.rd (perms_small n HN.out)
      simp only [Value.slice.injEq, true_and] at he
      obtain ⟨rfl, rfl⟩ := he
      obtain ⟨rb, off, rfl, hbw, hcl⟩ := hr (by omega)
      obtain ⟨u, hu, hin⟩ := hcl i hlt
      have hpp := perms_ok n HN.out _ (getD_mem' (d := []) hlt)
      obtain ⟨ad, cp, rfl, _⟩ := id hin
      have HIN := Lib.hid hin
      have HPP := Lib.hid hpp
      have HSU := Lib.hid (waysK_succ n a i hlt)
      have e0 := hg.cell d0 HNE.out
      have e1 := hg.cell d1 HNE.out
      have hiz : (i : Int) < ((permsL n).length : Int) := by omega
      have HWL := Lib.hid (fun s => way_le n HN.out i s ((permsL n).getD i []) a hlt)
      have hszr := hg.size
      clear HOWNr hr hcl hin hpp hlt hi hm hg
      obtain ⟨p, hp⟩ : ∃ p, p = (permsL n).getD i [] := ⟨_, rfl⟩
      rw [← hp] at HIN HPP HSU HWL hu
      have HP := Lib.hid hp
      clear hp
      go_wp2_with fail
      refine (Tab.perI_yes n a ad p.length cp p (isT_yes (by have := HN.out; omega) HFA.out) (by have := HN.out; omega) haz HPP.out _ HIN.out).mono ?_
      rintro e w3 ⟨rfl, hb3⟩
      have q0 := keepA (o := .cells #[.int .i64 (n : Int), .int .i64 (perW n a p : Int)] 25) (keepB hb3 e0)
      have q1 := keepA (o := .cells #[.int .i64 (n : Int), .int .i64 (perW n a p : Int)] 25) (keepB hb3 e1)
      have r0 : (w3.alloc (.cells #[.int .i64 (n : Int), .int .i64 (perW n a p : Int)] 25)).cell? ⟨w3.heap.size, 0, none⟩ = some (.int .i64 (n : Int)) := keepN rfl rfl
      have r1 : (w3.alloc (.cells #[.int .i64 (n : Int), .int .i64 (perW n a p : Int)] 25)).cell? ⟨w3.heap.size, 1, none⟩ = some (.int .i64 (perW n a p : Int)) := keepN rfl rfl
      have HM3 := Lib.hid ((HM.out.below hb3).alloc (.cells #[.int .i64 (n : Int), .int .i64 (perW n a p : Int)] 25))
      have HG3 := Lib.hid (grow_alloc (grow_below HG.out hb3) (.cells #[.int .i64 (n : Int), .int .i64 (perW n a p : Int)] 25))
      have hsz3 := hb3.size
      have HNE3 : Hid (some w3.heap.size ≠ some b) := Lib.hid (by have := HB.out; simp; omega)
      obtain ⟨hp1, hp2⟩ := two_pow_int n (by have := HN.out; omega)
      have HPF := Lib.hid (tabN_full (perV a p n) n)
      have HPB := Lib.hid (tabN_bound (perV a p n) (2 ^ n) (Nat.pow_le_pow_right (n := 2) (by decide) (by have := HN.out; omega : n ≤ 5)))
      clear hb3 e0 e1 HM HG hu HIN
      go_wp2_with fail
      refine (Tab.count n (by have := HN.out; omega) _).mono ?_
      rintro e w4 ⟨rfl, rfl⟩
      go_wp2
      generalize (w3.alloc (.cells #[.int .i64 (n : Int), .int .i64 (perW n a p : Int)] 25)) = w4 at q0 q1 r0 r1 HM3 HG3 ⊢
      go_loopw [11, 12, 13, 14, 40] (fun _ _ _ _ x wr => ∃ s : Nat, x = .int .i64 (s : Int) ∧ (s : Int) ≤ 2 ^ n ∧ MapIs wr b (waysK n a i ++ wayP n a p s).length (waysK n a i ++ wayP n a p s) ∧ w4.grownBy wr (some b)) (fun _ _ _ _ x _ => 32 - (intOf x).toNat)
      case atStart => exact ⟨0, rfl, by omega, by rw [wayP_zero, List.append_nil]; exact HM3.out, grow_refl _ _⟩
      case round =>
        obtain ⟨s, rfl, hs, hm, hg⟩ := hrel
        by_cases hlt2 : (s : Int) < 2 ^ n
        · have hsn : s < 2 ^ n := by rw [up2] at hlt2; omega
          have y0 := hg.cell r0 HNE3.out
          have y1 := hg.cell r1 HNE3.out
          have HSH := Lib.hid (fun W => Tab.shiI_yes n (perW n a p) s (isT_yes (by have := HN.out; omega) HPF.out) (by have := HN.out; omega) HPB.out hlt2 W)
          have HWS := Lib.hid (wayP_succ n a p s)
          have HWL2 := Lib.hid (HWL.out s hsn)
          have hqf := way_full n a p s
          have hand := andnot_full n (wayW n a p s) (by have := HN.out; omega) hqf
          have hf5 := fullN_le n (by have := HN.out; omega)
          have hqz : ((wayW n a p s : Nat) : Int) ≤ 4294967295 := by omega
          have hpair : pairW n a p s = [wayW n a p s, fullN n - wayW n a p s] := rfl
          have hq2z : ((fullN n - wayW n a p s : Nat) : Int) ≤ 4294967295 := by omega
          rw [show shiW n (perW n a p) s = wayW n a p s from rfl] at HSH
          rw [hpair] at HWS
          have HM4 := Lib.hid hm
          have HG4 := Lib.hid hg
          clear hm hg hs hsn hqf hpair hf5
          obtain ⟨pre, hpre⟩ : ∃ pre, pre = waysK n a i ++ wayP n a p s := ⟨_, rfl⟩
          rw [← hpre] at HM4 HWL2
          have HPRE := Lib.hid hpre
          clear hpre
          generalize fullN n - wayW n a p s = q2 at hand hq2z HWS
          generalize wayW n a p s = q at HSH hand hq2z hqz HWS
          have hc1 : ((pre.count q : Nat) : Int) ≤ 768 := by have := HWL2.out; have := List.count_le_length (a := q) (l := pre); omega
          have hc2 : (((pre ++ [q]).count q2 : Nat) : Int) ≤ 769 := by have := HWL2.out; have := List.count_le_length (a := q2) (l := pre ++ [q]); simp only [List.length_append, List.length_singleton] at this; omega
          obtain ⟨pre2, hpre2⟩ : ∃ pre2, pre ++ [q] = pre2 := ⟨_, rfl⟩
          have hlen2 : pre2.length = pre.length + 1 := by rw [← hpre2]; simp
          have HLEN2 := Lib.hid hlen2
          rw [hpre2] at hc2
          have HP2 := Lib.hid hpre2
          clear hpre2 hlen2
          go_wp2_with fail
          refine (HSH.out _).mono ?_
          rintro e w5 ⟨rfl, hb5⟩
          have z0 : (w5.alloc (.cells #[.int .i64 (n : Int), .int .i64 (q : Int)] 25)).cell? ⟨w5.heap.size, 0, none⟩ = some (.int .i64 (n : Int)) := keepN rfl rfl
          have z1 : (w5.alloc (.cells #[.int .i64 (n : Int), .int .i64 (q : Int)] 25)).cell? ⟨w5.heap.size, 1, none⟩ = some (.int .i64 (q : Int)) := keepN rfl rfl
          have HM5 := Lib.hid ((HM4.out.below hb5).alloc (.cells #[.int .i64 (n : Int), .int .i64 (q : Int)] 25))
          have HG5 := Lib.hid (grow_alloc (grow_below HG4.out hb5) (.cells #[.int .i64 (n : Int), .int .i64 (q : Int)] 25))
          clear hb5 HM4 HG4
          go_wp2_with (first
            | (refine wp_look rfl _ _ rfl _ b _ pre rfl HM5.out q rfl hqz ?_)
            | (refine wp_upd rfl _ _ _ rfl _ b _ pre rfl HM5.out q rfl hqz rfl (by have := HWL2.out; omega) (by have := HWL2.out; omega) ?_; intro w6 hm6 hg6; rw [HP2.out] at hm6)
            | (refine wp_look rfl _ _ rfl _ b _ pre2 rfl hm6 q2 rfl hq2z ?_)
            | (refine wp_upd rfl _ _ _ rfl _ b _ pre2 rfl hm6 q2 rfl hq2z rfl (by have := HWL2.out; omega) (by have := HWL2.out; have := HLEN2.out; omega) ?_; intro w7 hm7 hg7)
            | fail)
          go_roundw
          case rel =>
            refine ⟨s + 1, by go_num, by omega, ?_, grow_map (grow_map HG5.out hg6) hg7⟩
            have e1 : pre2 ++ [q2] = waysK n a i ++ wayP n a p (s + 1) := by rw [HWS.out, ← List.append_assoc, ← HPRE.out, ← HP2.out]; simp
            rw [← e1, List.length_append, HLEN2.out]
            exact hm7
          case measure => simp [intOf] <;> omega
        · have he : s = 2 ^ n := by rw [up2] at hs hlt2; omega
          rw [he, ← HSU.out] at hm
          have HM4 := Lib.hid hm
          have HG4 := Lib.hid (grow_map HG3.out hg)
          clear hm hg he
          go_wp2
          go_roundw
          case rel => exact ⟨i + 1, by go_num, by have := HI.out; omega, HM4.out, HG4.out⟩
          case measure => simp [intOf] <;> omega
    · obtain rfl : i = (permsL n).length := by omega
      rw [waysK_all] at HM
      have HG3 := Lib.hid (grow_map HG2.out HG.out)
      clear hm hg
      go_wp2
      go_end0
      exact ⟨rfl, HM.out, HG3.out⟩

end Go.Proofs.Ythdcjldmafhcjaa

namespace Go.Proofs.Ythdcjldmafhcjaa
open Go.RowKit Plain
set_option linter.unusedVariables false
attribute [local go_sem ↓] Go.wp_at_zero Go.wp_at_succ

theorem mapIs_made (w : World) : MapIs (w.alloc (.map #[] 0)) w.heap.size 0 [] := ⟨_, World.ownsMap_made w _ _ _, counts_nil⟩

theorem Map.ways (n a : Nat) (hn : n ≤ 4) (ha : a ≤ fullN n) (w : World) :
    Calls Try.prog 53 #[.agg #[.int .i64 n, .int .i64 a]] w fun e w' => (∃ b, e = .returned (.map (some b)) ∧ MapIs w' b (waysL n a).length (waysL n a)) ∧ Below w.heap.size w w' := by
  have hmm := @run_makeMap Try.prog
  have HN := Lib.hid hn
  have HA := Lib.hid ha
  have HM := Lib.hid (mapIs_made (w.alloc (.cells #[.int .i64 n, .int .i64 a] 25)))
  clear hn ha
  go_enter Try.func53, Try.ntmps53
  go_wp2_with fail
  refine (Map.count n a _ 0 [] HN.out HA.out _ (by simpa using HM.out)).mono ?_
  rintro e w1 ⟨rfl, hm, hg⟩
  go_wp2
  go_ret
  exact ⟨⟨_, rfl, hm⟩, (((Below.refl _ _).alloc (Nat.le_refl _) _).alloc (by simp) _).grown hg (by simp; omega) (fun j hj => by cases hj; simp)⟩

/-- Is there a class? -/
def Plain.clsB (n a : Int) : Bool := isT n a && decide (n ≤ 4)
theorem clsB_yes {n a : Int} (h : clsB n a = true) : ∃ m c : Nat, n = m ∧ a = c ∧ m ≤ 4 ∧ c ≤ fullN m ∧ isT n a = true := by
  unfold clsB at h
  simp only [Bool.and_eq_true, decide_eq_true_eq] at h
  obtain ⟨m, c, rfl, rfl, hm, hc⟩ := isT_nat h.1
  exact ⟨m, c, rfl, rfl, by omega, hc, h.1⟩
theorem clsB_no {n a : Int} (h : clsB n a = false) : ¬ (isT n a = true ∧ n ≤ 4) := by
  rintro ⟨h1, h2⟩
  unfold clsB at h
  rw [h1] at h
  simp at h
  omega

theorem Cls.has (n a : Int) (hb : -9223372036854775808 ≤ a ∧ a ≤ 9223372036854775807) (w : World) :
    Calls Try.prog 51 #[.agg #[.int .i64 n, .int .i64 a]] w fun e w' => e = .returned (.bool (clsB n a)) ∧ Below w.heap.size w w' := by
  have HB := Lib.hid hb
  have HC : Hid (clsB n a = (isT n a && decide (n ≤ 4))) := Lib.hid rfl
  clear hb
  go_enter Try.func51, Try.ntmps51
  go_wp2_with fail
  refine (Tab.impl _ _ HB.out _).mono ?_
  rintro e w1 ⟨rfl, hb1⟩
  have k0 : w1.cell? ⟨w.heap.size, 0, none⟩ = some (.int .i64 n) := keepB hb1 (keepN rfl rfl)
  cases ht : isT n a with
  | false =>
    rw [ht] at HC
    clear ht
    go_wp2
    go_ret
    exact ⟨by rw [HC.out]; rfl, bB hb1 (by simp) ((Below.refl _ _).alloc (Nat.le_refl _) _)⟩
  | true =>
    rw [ht] at HC
    clear ht
    go_wp2
    go_ret
    exact ⟨ret_bool (by rw [HC.out]; rfl), bB hb1 (by simp) ((Below.refl _ _).alloc (Nat.le_refl _) _)⟩

theorem Cls.sym_no (n a : Int) (hb : -9223372036854775808 ≤ a ∧ a ≤ 9223372036854775807) (h : clsB n a = false) (w : World) :
    Calls Try.prog 15 #[.agg #[.int .i64 n, .int .i64 a]] w fun e w' => e = .returned (.int .i64 (-1)) ∧ Below w.heap.size w w' := by
  have HB := Lib.hid hb
  have H := Lib.hid h
  clear hb h
  go_enter Try.func15, Try.ntmps15
  go_wp2_with fail
  refine (Cls.has _ _ HB.out _).mono ?_
  rintro e w1 ⟨rfl, hb1⟩
  rw [H.out]
  go_wp2
  go_ret
  exact ⟨rfl, bB hb1 (by simp) ((Below.refl _ _).alloc (Nat.le_refl _) _)⟩

theorem Cls.size_no (n a : Int) (hb : -9223372036854775808 ≤ a ∧ a ≤ 9223372036854775807) (h : clsB n a = false) (w : World) :
    Calls Try.prog 17 #[.agg #[.int .i64 n, .int .i64 a]] w fun e w' => e = .returned (.int .i64 (-1)) ∧ Below w.heap.size w w' := by
  have HB := Lib.hid hb
  have H := Lib.hid h
  clear hb h
  go_enter Try.func17, Try.ntmps17
  go_wp2_with fail
  refine (Cls.has _ _ HB.out _).mono ?_
  rintro e w1 ⟨rfl, hb1⟩
  rw [H.out]
  go_wp2
  go_ret
  exact ⟨rfl, bB hb1 (by simp) ((Below.refl _ _).alloc (Nat.le_refl _) _)⟩

/-- len(ways): how many different words there are. -/
theorem wp_len {ops : Array Oper} {rest : List Oper} {o : Oper} {a : Act} {Q : Exit → Act → World → Prop} (hg : o.guard = none) (m : Operand) (hop : o.op = Op.call { callee := Callee.builtin Builtin.len, args := #[m], argTypes := #[58] })
    (w : World) (b n : Nat) (l : List Nat) (hm : a.eval m = .map (some b)) (h : MapIs w b n l)
    (hK : ∀ ks : List Nat, ks.Nodup → (∀ x, x ∈ ks ↔ x ∈ l) → wpList Try.prog ops Q rest (a.put o.dst (.int .i64 (ks.length : Int))) w) : wpList Try.prog ops Q (o :: rest) a w := by
  obtain ⟨D, h1, h2⟩ := h
  obtain ⟨ks, hd, hk, hs, _⟩ := h2.keys
  refine wpList_len_own w hg m 58 hop 56 3 Try.underlying58 _ b n D hm h1 ?_
  rw [hs]
  exact hK ks hd hk

theorem Cls.size_yes (n a : Nat) (hn : n ≤ 4) (ha : a ≤ fullN n) (ht : isT n a = true) (w : World) :
    Calls Try.prog 17 #[.agg #[.int .i64 n, .int .i64 a]] w fun e w' => e = .returned (.int .i64 (sizT n a)) ∧ Below w.heap.size w w' := by
  have hf5 := fullN_le n (by omega)
  have HB : Hid (-9223372036854775808 ≤ (a : Int) ∧ (a : Int) ≤ 9223372036854775807) := Lib.hid (by omega)
  have H : Hid (clsB n a = true) := Lib.hid (by unfold clsB; rw [ht]; simp; omega)
  have HN := Lib.hid hn
  have HA := Lib.hid ha
  have HT := Lib.hid (sizT_yes ht hn)
  clear hn ha ht hf5
  go_enter Try.func17, Try.ntmps17
  go_wp2_with fail
  refine (Cls.has _ _ HB.out _).mono ?_
  rintro e w1 ⟨rfl, hb1⟩
  rw [H.out]
  have k0 : w1.cell? ⟨w.heap.size, 0, none⟩ = some (.int .i64 n) := keepB hb1 (keepN rfl rfl)
  have k1 : w1.cell? ⟨w.heap.size, 1, none⟩ = some (.int .i64 a) := keepB hb1 (keepN rfl rfl)
  have hsz : w.heap.size < w1.heap.size := by have := hb1.size; simp at this; omega
  go_wp2_with fail
  refine (Map.ways n a HN.out HA.out _).mono ?_
  rintro e w2 ⟨⟨b, rfl, hm⟩, hb2⟩
  have HM := Lib.hid hm
  have HB2 := Lib.hid hb2
  clear hm hb2
  go_wp2_with (first | (refine wp_len rfl _ rfl _ b _ _ rfl HM.out ?_; intro ks hd hk; have HK := Lib.hid (ways_size HN.out (fullN_lt a HA.out) ks hd hk); clear hd hk) | fail)
  go_ret
  refine ⟨?_, bstep (bB hb1 (by simp) ((Below.refl _ _).alloc (Nat.le_refl _) _)) HB2.out⟩
  rw [HT.out, HK.out, Nat.mul_div_cancel _ (count_pos HN.out (fullN_lt a HA.out))]
  rfl

/-- ways[x], as an equation. -/
theorem look_run {w : World} {b n : Nat} {l : List Nat} (h : MapIs w b n l) (c : Nat) (hc : (c : Int) ≤ 4294967295) :
    (Instr.lookup 58 (.map (some b)) (.int .u64 (c : Int)) false).run Try.prog w = .ok (.int .i64 (l.count c : Int)) w := by
  obtain ⟨D, h1, h2⟩ := h
  obtain ⟨c', hrun, hat, _⟩ := h1.lookup_int lawW Try.underlying58 Try.underlying3 (zeroI w) (key_word hc)
  rw [h2.at' c] at hat
  cases hat
  exact hrun

set_option maxRecDepth 100000 in
theorem Cls.sym_yes (n a : Nat) (hn : n ≤ 4) (ha : a ≤ fullN n) (ht : isT n a = true) (w : World) :
    Calls Try.prog 15 #[.agg #[.int .i64 n, .int .i64 a]] w fun e w' => e = .returned (.int .i64 (symT n a)) ∧ Below w.heap.size w w' := by
  have hf5 := fullN_le n (by omega)
  have haz : (a : Int) ≤ 4294967295 := by omega
  have HB : Hid (-9223372036854775808 ≤ (a : Int) ∧ (a : Int) ≤ 9223372036854775807) := Lib.hid (by omega)
  have H : Hid (clsB n a = true) := Lib.hid (by unfold clsB; rw [ht]; simp; omega)
  have HN := Lib.hid hn
  have HA := Lib.hid ha
  have HT := Lib.hid (symT_yes ht hn)
  have HW : Hid (IntKind.u64.wrap (a : Int) = (a : Int)) := Lib.hid (by rw [IntKind.wrap_u64]; omega)
  clear hn ha ht hf5
  go_enter Try.func15, Try.ntmps15
  go_wp2_with fail
  refine (Cls.has _ _ HB.out _).mono ?_
  rintro e w1 ⟨rfl, hb1⟩
  rw [H.out]
  have k0 : w1.cell? ⟨w.heap.size, 0, none⟩ = some (.int .i64 n) := keepB hb1 (keepN rfl rfl)
  have k1 : w1.cell? ⟨w.heap.size, 1, none⟩ = some (.int .i64 a) := keepB hb1 (keepN rfl rfl)
  have hsz : w.heap.size < w1.heap.size := by have := hb1.size; simp at this; omega
  have HB1 := Lib.hid (bB hb1 (by simp) ((Below.refl w.heap.size w).alloc (Nat.le_refl _) (.cells #[.int .i64 (n : Int), .int .i64 (a : Int)] 25)))
  clear hb1
  go_wp2_with fail
  go_region_held3 (fun w' => w'.cell? ⟨w.heap.size, 0, none⟩ = some (.int .i64 n) ∧ w'.cell? ⟨w.heap.size, 1, none⟩ = some (.int .i64 a)) ((first | (go_split_ands; (try dsimp only); (refine ⟨?_, ?_⟩ <;> (repeat (first | with_reducible assumption | (with_reducible refine keepD ?_) | (with_reducible refine keepB hb2 ?_)))); done) | go_keep))
    (first
      | (go_at_call 53; refine (Map.ways n a HN.out HA.out _).mono ?_; rintro e w2 ⟨⟨b, rfl, hm⟩, hb2⟩; have hlk : (Instr.lookup 58 (.map (some b)) (.int .u64 (IntKind.u64.wrap (a : Int))) false).run Try.prog w2 = .ok (.int .i64 ((waysL n a).count a : Int)) w2 := (by rw [HW.out]; exact look_run hm a haz); clear hm))
  all_goals
    go_wp2
    go_ret
    exact ⟨by rw [HT.out]; rfl, bB hb2 (by simp; omega) (bD HB1.out)⟩

theorem keepF {X w' : World} {b o : Nat} (hb : Below X.heap.size X w') (hlt : b < X.heap.size) (h : X.frozen? ⟨b, o, none⟩ = false) : w'.frozen? ⟨b, o, none⟩ = false := ((bcell hb).2 b o hlt).trans h

theorem Cls.can_no (n a : Int) (hb : -9223372036854775808 ≤ a ∧ a ≤ 9223372036854775807) (h : clsB n a = false) (w : World) :
    Calls Try.prog 13 #[.agg #[.int .i64 n, .int .i64 a]] w fun e w' => e = .returned (.tuple #[.agg #[.int .i64 0, .int .i64 0], .bool false]) ∧ Below w.heap.size w w' := by
  have HB := Lib.hid hb
  have H := Lib.hid h
  clear hb h
  go_enter Try.func13, Try.ntmps13
  go_wp2_with fail
  refine (Cls.has _ _ HB.out _).mono ?_
  rintro e w1 ⟨rfl, hb1⟩
  obtain ⟨hc1, hf1⟩ := bcell hb1
  have hz : w.heap.size + 1 < w1.heap.size := by have := hb1.size; simp at this; omega
  rw [H.out]
  go_wp2
  exact bodyPost_ret (v := .tuple #[.agg #[.int .i64 0, .int .i64 0], .bool false]) (by simp [results, Try.results13, go_sem, hc1]) rfl ⟨rfl, by exact (((((Below.refl _ _).alloc (Nat.le_refl _) _).alloc (by simp) _).trans (hb1.mono (by simp; omega))).setCell (by simp) _).setCell (by simp) _⟩

set_option maxRecDepth 100000 in
theorem Cls.can_yes (n a : Nat) (hn : n ≤ 4) (ha : a ≤ fullN n) (ht : isT n a = true) (w : World) :
    Calls Try.prog 13 #[.agg #[.int .i64 n, .int .i64 a]] w fun e w' => e = .returned (.tuple #[.agg #[.int .i64 n, .int .i64 (leastW n a : Int)], .bool true]) ∧ Below w.heap.size w w' := by
  have hf5 := fullN_le n (by omega)
  have hlw := least_full n a ha
  have haz : (a : Int) ≤ 4294967295 := by omega
  have hlz : (leastW n a : Int) ≤ 4294967295 := by omega
  have HB : Hid (-9223372036854775808 ≤ (a : Int) ∧ (a : Int) ≤ 9223372036854775807) := Lib.hid (by omega)
  have H : Hid (clsB n a = true) := Lib.hid (by unfold clsB; rw [ht]; simp; omega)
  have HN := Lib.hid hn
  have HA := Lib.hid ha
  clear hn ha ht hf5 hlw
  go_enter Try.func13, Try.ntmps13
  go_wp2_with fail
  refine (Cls.has _ _ HB.out _).mono ?_
  rintro e w1 ⟨rfl, hb1⟩
  rw [H.out]
  have k0 : w1.cell? ⟨w.heap.size, 0, none⟩ = some (.int .i64 n) := keepB hb1 (keepA (keepN rfl rfl))
  have k1 : w1.cell? ⟨w.heap.size, 1, none⟩ = some (.int .i64 a) := keepB hb1 (keepA (keepN rfl rfl))
  have z0 : w1.cell? ⟨w.heap.size + 1, 0, none⟩ = some (.int .i64 0) := keepB hb1 (keepN (by simp) rfl)
  have z1 : w1.cell? ⟨w.heap.size + 1, 1, none⟩ = some (.int .i64 0) := keepB hb1 (keepN (by simp) rfl)
  have hsz : w.heap.size + 1 < w1.heap.size := by have := hb1.size; simp at this; omega
  have HB1 := Lib.hid (bB hb1 (by simp; omega) (((Below.refl w.heap.size w).alloc (Nat.le_refl _) (.cells #[.int .i64 (n : Int), .int .i64 (a : Int)] 25)).alloc (by simp) (.cells #[.int .i64 0, .int .i64 0] 25)))
  have g0 : w1.frozen? ⟨w.heap.size + 1, 0, none⟩ = false := keepF hb1 (by simp) (frozen_of_row _ _ 0 _ _ (heap_alloc2_new w _ _))
  have g1 : w1.frozen? ⟨w.heap.size + 1, 1, none⟩ = false := keepF hb1 (by simp) (frozen_of_row _ _ 1 _ _ (heap_alloc2_new w _ _))
  have HZ0 := Lib.hid z0
  have HZ1 := Lib.hid z1
  have HG0 := Lib.hid g0
  have HG1 := Lib.hid g1
  clear hb1 g0 g1 z0 z1
  go_wp2_with fail
  go_region_held3 (fun w' => w'.cell? ⟨w.heap.size, 0, none⟩ = some (.int .i64 n) ∧ w'.cell? ⟨w.heap.size, 1, none⟩ = some (.int .i64 a))
    ((first | (go_split_ands; (try dsimp only); (refine ⟨?_, ?_⟩ <;> (repeat (first | with_reducible assumption | (with_reducible refine keepS (by simp) ?_) | (with_reducible refine keepD ?_) | (with_reducible refine keepB hb4 ?_) | (with_reducible refine keepB hb3 ?_) | (with_reducible refine keepB hb2 ?_)))); done) | go_keep))
    (first
      | (go_at_call 53; refine (Map.ways n a HN.out HA.out _).mono ?_; rintro e w2 ⟨⟨b, rfl, hm⟩, hb2⟩; have HM := Lib.hid hm; clear hm; have hs2 : w.heap.size + 1 < w2.heap.size := Nat.lt_of_lt_of_le hsz hb2.size)
      | (go_at_call 52; refine (Map.least n (by have := HN.out; omega) b _ _ (fun x hx => ways_full n a x hx) _ HM.out).mono ?_; rintro e w3 ⟨⟨k, rfl, hk1, hk2, hk3⟩, hb3⟩; obtain rfl := least_is HN.out HA.out hk2 hk3; clear hk1 hk2 hk3; have hs3 : w.heap.size + 1 < w3.heap.size := Nat.lt_of_lt_of_le hs2 hb3.size)
      | (go_at_call 54; refine (Tab.table n (leastW n a) (by omega) _).mono ?_; rintro e w4 ⟨rfl, hb4⟩; have y0 := keepB hb4 (keepB hb3 (keepB hb2 HZ0.out)); have y1 := keepB hb4 (keepB hb3 (keepB hb2 HZ1.out)); have g0 := keepF hb4 hs3 (keepF hb3 hs2 (keepF hb2 hsz HG0.out)); have g1 := keepF hb4 hs3 (keepF hb3 hs2 (keepF hb2 hsz HG1.out))))
  all_goals
    go_wp2
    obtain ⟨r0, r1⟩ := keepT (u := .int .i64 (n : Int)) (v := .int .i64 (leastW n a : Int)) y0 y1
    exact bodyPost_ret (v := .tuple #[.agg #[.int .i64 n, .int .i64 (leastW n a : Int)], .bool true]) (by simp [results, Try.results13, go_sem, r0, r1]) rfl ⟨rfl, bS (by simp) (bS (by simp) (bB hb4 (by omega) (bB hb3 (by omega) (bB hb2 (by simp; omega) (bD HB1.out)))))⟩

/-! All tables and what is none -/
theorem Cls.symI (n a : Int) (hb : -9223372036854775808 ≤ a ∧ a ≤ 9223372036854775807) (w : World) :
    Calls Try.prog 15 #[.agg #[.int .i64 n, .int .i64 a]] w fun e w' => e = .returned (.int .i64 (symT n a)) ∧ Below w.heap.size w w' := by
  cases h : clsB n a with
  | true =>
    obtain ⟨m, c, rfl, rfl, hm, hc, ht⟩ := clsB_yes h
    exact Cls.sym_yes m c hm hc ht w
  | false => rw [symT_no (clsB_no h)]; exact Cls.sym_no n a hb h w
theorem Cls.sizI (n a : Int) (hb : -9223372036854775808 ≤ a ∧ a ≤ 9223372036854775807) (w : World) :
    Calls Try.prog 17 #[.agg #[.int .i64 n, .int .i64 a]] w fun e w' => e = .returned (.int .i64 (sizT n a)) ∧ Below w.heap.size w w' := by
  cases h : clsB n a with
  | true =>
    obtain ⟨m, c, rfl, rfl, hm, hc, ht⟩ := clsB_yes h
    exact Cls.size_yes m c hm hc ht w
  | false => rw [sizT_no (clsB_no h)]; exact Cls.size_no n a hb h w
theorem Cls.canI (n a : Int) (hb : -9223372036854775808 ≤ a ∧ a ≤ 9223372036854775807) (w : World) :
    Calls Try.prog 13 #[.agg #[.int .i64 n, .int .i64 a]] w fun e w' => e = .returned (.tuple #[.agg #[.int .i64 (canT n a).1, .int .i64 (canT n a).2.1], .bool (canT n a).2.2]) ∧ Below w.heap.size w w' := by
  cases h : clsB n a with
  | true =>
    obtain ⟨m, c, rfl, rfl, hm, hc, ht⟩ := clsB_yes h
    rw [canT_yes ht hm]
    exact Cls.can_yes m c hm hc ht w
  | false => rw [canT_no (clsB_no h)]; exact Cls.can_no n a hb h w

end Go.Proofs.Ythdcjldmafhcjaa
