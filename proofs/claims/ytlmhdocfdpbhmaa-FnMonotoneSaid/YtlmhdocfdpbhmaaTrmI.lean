/-
  All prime terms, by the program: the iterator over terms, and the loop over it.
-/
import Derived.Test.YtlmhdocfdpbhmaaTrmP
import Derived.RangeFuncNested
import Derived.RangeFuncBox
import Derived.RangeFuncBound
import Derived.RangeFuncCalls
import Derived.RangeFuncLeaves
import Derived.Shelf.Abstract
import Derived.Shelf.RegionOpen
import Derived.WalkKit
import Derived.OwnWalkIn
import Derived.TacticsInMore
import Derived.LoopNIn
import Derived.LoopIn
import Derived.Maps.AppendAt

namespace Go.Proofs.Ytlmhdocfdpbhmaa
open Go.RowKit Go.Shelf Plain
set_option linter.unusedVariables false
attribute [local go_sem] Oper.semAt_some

/-- termsOf: its argument is boxed, the function value captures the box. -/
theorem Prm.terms (k : Int) (w : World) :
    Calls Try.prog 95 #[.int .i64 k] w fun e w' => e = .returned (.func (.func 112) #[] #[.pointer (some ⟨w.heap.size, 0, none⟩)]) ∧ w' = w.alloc (.cells #[.int .i64 k] 3) := by
  go_enter Try.func95, Try.ntmps95
  go_wp2
  go_ret
  exact ⟨rfl, rfl⟩

/-- A term as it is handed to a round (cut to five bits: a round may be asked at every pair of numbers). -/
def encT (x : Tm) : Array Value := #[.agg #[.int .i64 ((x.1 % 32 : Nat) : Int), .int .i64 ((x.2 % 32 : Nat) : Int)]]

theorem grownNone' {w w' : World} (hb : Below w.heap.size w w') : w.grownBy w' none := grownNone hb

theorem upT_more {n m v : Nat} (hm : m < 2 ^ n) (hv : v ≤ m) (hvm : v &&& m = v) : (upT m v).length < (termsL n).length ∧ (upT m v ++ [(m, v)]) <+: termsL n := by
  obtain ⟨r, hr⟩ := upT_prefix n m (v + 1) hm (by omega)
  rw [upT_yes hvm] at hr
  refine ⟨?_, r, hr.symm⟩
  rw [hr, List.length_append, List.length_append, List.length_singleton]; omega

/-- What a round keeps for the iterator: its captured number. -/
def KpN (Bn : Nat) (W W' : World) : Prop := W.heap.size ≤ W'.heap.size ∧ ∀ v, W.cell? ⟨Bn, 0, none⟩ = some v → W'.cell? ⟨Bn, 0, none⟩ = some v
theorem KpN.trans {Bn : Nat} {A B C : World} (h : KpN Bn A B) (k : KpN Bn B C) : KpN Bn A C := ⟨Nat.le_trans h.1 k.1, fun v hv => k.2 v (h.2 v hv)⟩
theorem KpN.put {Bn : Nat} {w : World} (W : World) (l : Nat) (o o' : Obj) (_ : w.heap.size ≤ l) (h : W.heap[l]? = some o) (ho : o.isCells = false) (_ : o.isWalk = false) : KpN Bn W (W.putObj l o') :=
  ⟨(grownBy_putObj' W l o').size, fun v hv => cell_kept hv (grownBy_putObj' W l o') (fun r e => by cases e; exact ⟨o, h, ho⟩)⟩
theorem KpN.boxed {Bn : Nat} {W W' : World} {t : TypeId} {v : Value} (h : Boxed W Bn t v) (h' : Boxed W' Bn t v) (hs : W.heap.size ≤ W'.heap.size) : KpN Bn W W' :=
  ⟨hs, fun u hu => by rw [h.cell] at hu; rw [h'.cell]; exact hu⟩

set_option maxRecDepth 100000 in
set_option maxHeartbeats 2000000 in
theorem Prm.iter (N : Nat) (hN : 1 ≤ N) (l Bn n : Nat) (hn : n ≤ 5) (J Jx : List Tm → World → Prop) (W : World) (hJ : AbidesFrom W.heap.size J)
    (hY : ∀ pre x W1, J pre W1 → pre.length < (termsL n).length → YieldAt Fence.wide (N - 1) Try.prog l (encT x) W1 fun e W' =>
      (e = .returned (.bool true) ∧ J (pre ++ [x]) W' ∧ KpN Bn W1 W') ∨ (e = .returned (.bool false) ∧ Jx (pre ++ [x]) W'))
    (hBn : W.cell? ⟨Bn, 0, none⟩ = some (.int .i64 n)) (h0 : J [] W) :
    CallsIn Fence.wide N Try.prog 112 #[.func (.yield l) #[] #[], .pointer (some ⟨Bn, 0, none⟩)] W fun e W' => (∃ v, e = .returned v) ∧
      ((∃ ys, ys = termsL n ∧ J ys W') ∨ (∃ pre, pre <+: termsL n ∧ Jx pre W')) := by
  obtain ⟨hp1, hp2⟩ := two_pow_int n hn
  have HN := Lib.hid hn
  have hn5 : (n : Int) ≤ 5 := by omega
  clear hn
  refine callsIn_of_wp Try.func112 rfl trivial ?_ rfl
  simp only [Try.ntmps112, List.size_toArray, List.length_cons, List.length_nil, Nat.reduceAdd, Nat.reduceSub, Array.replicate_succ, Array.replicate_zero, List.push_toArray, List.append_toArray, List.nil_append, List.cons_append]
  gi_wp2_with ((refine ⟨trivial, ?_⟩); gi_at_call 88; refine (callsIn_wide.2 (Tab.count n HN.out _)).mono ?_; rintro e w' ⟨rfl, rfl⟩)
  gi_loopw [3, 4, 5, 8, 13] (fun _ _ _ i _ wr => ∃ m : Nat, i = .int .i64 (m : Int) ∧ (m : Int) ≤ 2 ^ n ∧ J (upT m 0) wr ∧ wr.cell? ⟨Bn, 0, none⟩ = some (.int .i64 n) ∧ W.heap.size ≤ wr.heap.size) (fun _ _ _ i _ _ => 32 - (intOf i).toNat)
  case atStart => exact ⟨0, rfl, by omega, h0, hBn, Nat.le_refl _⟩
  case round =>
    obtain ⟨m, rfl, hm, hj, hcb, hsz⟩ := hrel
    have HJ0 := Lib.hid hj
    clear hj
    by_cases hltm : (m : Int) < 2 ^ n
    · have hmn : m < 2 ^ n := by rw [up2] at hltm; omega
      have HMN := Lib.hid hmn
      clear hmn
      gi_wp2
      obtain ⟨wo, rfl⟩ : ∃ wo : World, wo = wr := ⟨_, rfl⟩
      gi_loopw [4, 5, 13] (fun _ _ i wr => ∃ v : Nat, i = .int .i64 (v : Int) ∧ (v : Int) ≤ (m : Int) + 1 ∧ J (upT m v) wr ∧ wr.cell? ⟨Bn, 0, none⟩ = some (.int .i64 n) ∧ W.heap.size ≤ wr.heap.size) (fun _ _ i _ => 33 - (intOf i).toNat)
      case atStart => exact ⟨0, rfl, by omega, HJ0.out, hcb, hsz⟩
      case round =>
        clear HJ0 hcb hsz
        obtain ⟨v, rfl, hv, hj, hcb, hsz⟩ := hrel
        have HJ1 := Lib.hid hj
        clear hj
        by_cases hle : (v : Int) < (m : Int) + 1
        · have HVB : Hid (-9223372036854775808 ≤ (v : Int) ∧ (v : Int) ≤ 9223372036854775807) := Lib.hid (by omega)
          have HVL : Hid (v ≤ m) := Lib.hid (by omega)
          have HM32 : Hid (m % 32 = m) := Lib.hid (by omega)
          have HV32 : Hid (v % 32 = v) := Lib.hid (by omega)
          have hcb2 : (wr.alloc (.cells #[.int .i64 m, .int .i64 v] 46)).cell? ⟨Bn, 0, none⟩ = some (.int .i64 n) := keepA hcb
          have HJA := Lib.hid (hJ _ _ _ _ HJ1.out (World.grownBy_alloc wr (.cells #[.int .i64 (m : Int), .int .i64 (v : Int)] 46) none) (fun r e => by cases e))
          cases ht : isTm (n : Int) m v with
          | true =>
            have hvm : v &&& m = v := by have := (isTm_iff.1 ht).2.2.2; simpa using this
            have HVM := Lib.hid hvm
            have HT := Lib.hid ht
            have HMORE := Lib.hid (upT_more HMN.out HVL.out hvm)
            have HUP := Lib.hid (upT_yes hvm)
            clear ht hvm
            gi_wp2_with ((refine ⟨trivial, ?_⟩); gi_at_call 113; refine (callsIn_wide.2 (Trm.isI n m v HVB.out _)).mono ?_; rintro e w2 ⟨rfl, hb2⟩; rw [HT.out]; have hcb3 := keepB hb2 hcb2; have hd0 := keepB hb2 (keepN (Y := wr) (C := #[.int .i64 (m : Int), .int .i64 (v : Int)]) (t := 46) (j := 0) rfl rfl); have hd1 := keepB hb2 (keepN (Y := wr) (C := #[.int .i64 (m : Int), .int .i64 (v : Int)]) (t := 46) (j := 1) rfl rfl); obtain ⟨fn, tmps, assign, body, hy, hR⟩ := hY (upT m v) (m, v) w2 (hJ _ _ _ _ HJA.out (grownNone' hb2) (fun r e => by cases e)) HMORE.out.1; dsimp only [encT] at hy; rw [HM32.out, HV32.out] at hy)
            refine hR.mono ?_
            have hs2 := hb2.size
            simp only [World.size_alloc] at hs2
            rintro e W3 (⟨rfl, hJ3, hk3⟩ | ⟨rfl, hJx3⟩)
            · have hcb4 := hk3.2 _ hcb3
              have hs3 := hk3.1
              have HJ3 := Lib.hid hJ3
              clear hJ3 hk3 hy hR hb2
              gi_wp2
              go_roundw
              case rel => exact ⟨v + 1, by go_num, by omega, by rw [HUP.out]; exact HJ3.out, hcb4, by omega⟩
              case measure => simp [intOf] <;> omega
            · have HJ3 := Lib.hid hJx3
              clear hJx3 hy hR hb2
              gi_wp2
              refine bodyPost_ret (results_none rfl _ _ _) rfl ?_
              exact ⟨⟨_, rfl⟩, .inr ⟨_, HMORE.out.2, HJ3.out⟩⟩
          | false =>
            have HT := Lib.hid ht
            have HUP : Hid (upT m (v + 1) = upT m v) := Lib.hid (upT_no (fun h => by rw [isTm_yes HN.out HMN.out h] at ht; exact absurd ht (by decide)))
            clear ht
            gi_wp2_with ((refine ⟨trivial, ?_⟩); gi_at_call 113; refine (callsIn_wide.2 (Trm.isI n m v HVB.out _)).mono ?_; rintro e w2 ⟨rfl, hb2⟩; rw [HT.out]; have hcb3 := keepB hb2 hcb2; have HJ2 := Lib.hid (hJ _ _ _ _ HJA.out (grownNone' hb2) (fun r e => by cases e)); have hs2 := hb2.size; simp only [World.size_alloc] at hs2; clear hb2)
            refine ⟨fun _ h => (by cases h), ?_⟩
            gi_wp2
            go_roundw
            case rel => exact ⟨v + 1, by go_num, by omega, by rw [HUP.out]; exact HJ2.out, hcb3, by omega⟩
            case measure => simp [intOf] <;> omega
        · obtain rfl : v = m + 1 := by omega
          have HUP := Lib.hid (upT_next m)
          gi_wp2
          go_roundw
          case rel => exact ⟨m + 1, by go_num, by omega, by rw [HUP.out]; exact HJ1.out, hcb, hsz⟩
          case measure => simp [intOf] <;> omega
    · have he : m = 2 ^ n := by rw [up2] at hm hltm; omega
      have HE : Hid (upT m 0 = termsL n) := Lib.hid (by rw [he, upT_end])
      clear he
      gi_wp2
      go_end0
      exact ⟨⟨_, rfl⟩, .inl (by rw [← HE.out]; exact HJ0.out)⟩

/-- The box of a term. -/
def Boxed2 (W : World) (B : Nat) (x : Tm) : Prop := W.heap[B]? = some (.cells #[.int .i64 ((x.1 % 32 : Nat) : Int), .int .i64 ((x.2 % 32 : Nat) : Int)] 46 (0, 0))
theorem Boxed2.lt {W : World} {B : Nat} {x : Tm} (h : Boxed2 W B x) : B < W.heap.size := (Array.getElem?_eq_some_iff.1 h).1
theorem Boxed2.cell0 {W : World} {B : Nat} {x : Tm} (h : Boxed2 W B x) : W.cell? ⟨B, 0, none⟩ = some (.int .i64 ((x.1 % 32 : Nat) : Int)) := by simp [World.cell?, show W.heap[B]? = _ from h]
theorem Boxed2.cell1 {W : World} {B : Nat} {x : Tm} (h : Boxed2 W B x) : W.cell? ⟨B, 1, none⟩ = some (.int .i64 ((x.2 % 32 : Nat) : Int)) := by simp [World.cell?, show W.heap[B]? = _ from h]
theorem Boxed2.new (W : World) (x : Tm) : Boxed2 (W.alloc (.cells #[.int .i64 ((x.1 % 32 : Nat) : Int), .int .i64 ((x.2 % 32 : Nat) : Int)] 46)) W.heap.size x := World.alloc_heap_new W _
theorem Boxed2.kept {W W' : World} {row : Option Nat} {B : Nat} {x : Tm} (h : Boxed2 W B x) (hg : W.grownBy W' row) (hne : some B ≠ row) : Boxed2 W' B x := (hg.block B h.lt hne).trans h
theorem Boxed2.alloc {W : World} {B : Nat} {x : Tm} (h : Boxed2 W B x) (o : Obj) : Boxed2 (W.alloc o) B x := h.kept (World.grownBy_alloc W o none) (by simp)
theorem Boxed2.own (B : Nat) (x : Tm) : Own (fun (_ : Unit) W => Boxed2 W B x) := fun s X Y row hs hg hrow =>
  hs.kept hg (fun e => by
    obtain ⟨o, ho, hc⟩ := hrow B e.symm
    rw [show X.heap[B]? = _ from hs] at ho
    cases ho; exact absurd hc (by simp [Obj.isCells]))
theorem boxed_below {W W' : World} {B : Nat} {t : TypeId} {v : Value} (h : Boxed W B t v) (hb : Below W.heap.size W W') : Boxed W' B t v := h.kept (grownNone hb) (by simp)
theorem Boxed2.below {W W' : World} {B : Nat} {x : Tm} (h : Boxed2 W B x) (hb : Below W.heap.size W W') : Boxed2 W' B x := h.kept (grownNone hb) (by simp)
theorem keepsFrom_below {B : Nat} {W W' : World} (hb : Below W.heap.size W W') : KeepsFrom B W W' := KeepsFrom.of_grownBy (grownNone hb) (fun j e => by cases e)

def hitB (n a : Nat) (x : Tm) : Bool := prmT (n : Int) a ((x.1 % 32 : Nat) : Int) ((x.2 % 32 : Nat) : Int)
def primesF (n a : Nat) (pre : List Tm) : List Ti := (pre.filter (hitB n a)).map fun x => (((x.1 % 32 : Nat) : Int), ((x.2 % 32 : Nat) : Int))
theorem primesF_yes {n a : Nat} (pre : List Tm) {x : Tm} (h : hitB n a x = true) : primesF n a (pre ++ [x]) = primesF n a pre ++ [(((x.1 % 32 : Nat) : Int), ((x.2 % 32 : Nat) : Int))] := by
  unfold primesF; rw [List.filter_append, List.map_append]; simp [h]
theorem primesF_no {n a : Nat} (pre : List Tm) {x : Tm} (h : hitB n a x = false) : primesF n a (pre ++ [x]) = primesF n a pre := by
  unfold primesF; rw [List.filter_append, List.map_append]; simp [h]
theorem primesF_len (n a : Nat) (pre : List Tm) : (primesF n a pre).length ≤ pre.length := by
  unfold primesF; rw [List.length_map]; exact List.length_filter_le _ _
theorem primesF_all {n a : Nat} (ht : isT n a = true) (hn : n ≤ 5) : primesF n a (termsL n) = tiL (primesL n a) := by
  unfold primesF tiL primesL
  have hx : ∀ x ∈ termsL n, x.1 % 32 = x.1 ∧ x.2 % 32 = x.2 := fun x hx => by
    have h := mem_terms.1 hx
    have := tm_le hn h.1 h.2
    omega
  have e : (termsL n).filter (hitB n a) = (termsL n).filter (primeP n a) := List.filter_congr fun x h => by
    unfold hitB
    rw [(hx x h).1, (hx x h).2]
    exact prmT_nat ht (isTm_yes hn (mem_terms.1 h).1 (mem_terms.1 h).2)
  rw [e]
  refine List.map_congr_left fun x h => ?_
  have h' := hx x (List.mem_filter.1 h).1
  rw [h'.1, h'.2]

set_option maxRecDepth 100000 in
set_option maxHeartbeats 4000000 in
theorem Prm.listI (n a : Nat) (hn : n ≤ 5) (ha : (a : Int) ≤ 4294967295) (ht : isT n a = true) (w : World) :
    Calls Try.prog 49 #[.agg #[.int .i64 n, .int .i64 a]] w fun e w' => (∃ v, e = .returned (.tuple #[v, .bool true]) ∧ TmRow w' w.heap.size v (tiL (primesL n a))) ∧ Below w.heap.size w w' := by
  have HA : Hid (-9223372036854775808 ≤ (a : Int) ∧ (a : Int) ≤ 9223372036854775807) := Lib.hid (by omega)
  have HT := Lib.hid ht
  have HN := Lib.hid hn
  clear hn ha ht
  obtain ⟨i0, hi, hz0, hz1, hz2⟩ := info_parts Try.infoTerm
  refine (callsIn_wide (n := 3)).1 ?_
  refine callsIn_of_wp_marks Try.func49 rfl trivial ?_ rfl
  simp only [Try.ntmps49, List.size_toArray, List.length_cons, List.length_nil, Nat.reduceAdd, Nat.reduceSub, Array.replicate_succ, Array.replicate_zero, List.push_toArray, List.append_toArray, List.nil_append, List.cons_append]
  gi_wp2_with (first
    | ((refine ⟨trivial, ?_⟩); gi_at_call 79; refine (callsIn_wide.2 (Tab.impl n a HA.out _)).mono ?_; rintro e w1 ⟨rfl, hb1⟩; rw [HT.out]; have k0 : w1.cell? ⟨w.heap.size, 0, none⟩ = some (.int .i64 n) := keepB hb1 (keepN rfl rfl); have k1 : w1.cell? ⟨w.heap.size, 1, none⟩ = some (.int .i64 a) := keepB hb1 (keepN rfl rfl); have hsz1 : w.heap.size < w1.heap.size := (by have := hb1.size; simp at this; omega))
    | ((refine ⟨trivial, ?_⟩); gi_at_call 95; refine (callsIn_wide.2 (Prm.terms n _)).mono ?_; rintro e w2 ⟨rfl, rfl⟩))
  have bO := (Boxed.new w1 42 (.slice none 0 0)).alloc (.cells #[.int .i64 n] 3)
  have bN := Boxed.new (w1.alloc (.cells #[.slice none 0 0] 42)) 3 (.int .i64 n)
  rw [World.size_alloc] at bN
  have hB0 : Below w1.heap.size w1 ((w1.alloc (.cells #[.slice none 0 0] 42)).alloc (.cells #[.int .i64 n] 3)) := ((Below.refl _ w1).alloc (Nat.le_refl _) _).alloc (by simp) _
  have hsz : ((w1.alloc (.cells #[.slice none 0 0] 42)).alloc (.cells #[.int .i64 n] 3)).heap.size = w1.heap.size + 2 := by simp
  have HB1 : Hid (Below w.heap.size w w1) := Lib.hid (bB hb1 (by simp) (bA (Nat.le_refl _) (Below.refl _ _)))
  clear hb1
  obtain ⟨W0, hW0⟩ : ∃ W0, (w1.alloc (.cells #[.slice none 0 0] 42)).alloc (.cells #[.int .i64 n] 3) = W0 := ⟨_, rfl⟩
  rw [hW0] at bO bN hB0 hsz ⊢
  clear hW0
  refine wpIn_rangeFunc_ownH rfl (by decide) (gf := 112) (lb := #[.pointer (some ⟨w1.heap.size + 1, 0, none⟩)]) rfl trivial (enters_of Try.func112 (by kernel_rfl) rfl)
    (encs := encT) (Kp := KpN (w1.heap.size + 1)) (S := fun ys => ys = termsL n) (Sp := fun pre => pre <+: termsL n) (N := (termsL n).length) (w0 := W0)
    (fun l J Jx W hW hJ _ hY h0 => Prm.iter _ (by decide) l (w1.heap.size + 1) n HN.out J Jx W hJ hY ((hW.cell (p := ⟨w1.heap.size + 1, 0, none⟩) (by dsimp only; omega)).trans bN.cell) h0)
    KpN.trans (KpN.put (w := W0)) (Below.refl _ _) (fun _ => rfl)
    (fun pre W => ((∃ v, Boxed W w1.heap.size 42 v ∧ W.ownsRow w1.heap.size 46 2 v (primesF n a pre).length (tmsV (primesF n a pre)) ∧ True) ∧ Boxed W (w1.heap.size + 1) 3 (.int .i64 n)) ∧ Below w1.heap.size w1 W)
    (fun _ _ _ => False)
    (OwnFrom.and (OwnFrom.and (Own.from (holdsRow_own w1.heap.size w1.heap.size 42 46 2 (fun pre => (primesF n a pre).length) (fun pre => tmsV (primesF n a pre)) (fun _ _ => True)) _) (Own.from (boxed_own _ _ _) _)) (ownFrom_below (Nat.le_refl _) (by omega)))
    (fun _ _ _ _ _ hs _ _ => hs)
    ⟨⟨⟨_, bO, World.ownsRow_nil _ _ _ _, trivial⟩, bN⟩, hB0⟩
    (fun x a' W => ∃ Bx, w1.heap.size + 1 < Bx ∧ Boxed2 W Bx x ∧ a' = { tmps := #[.agg #[.int .i64 n, .int .i64 a], .pointer (some ⟨w.heap.size, 0, none⟩), .slice none 0 0, .bool false, .pointer (some ⟨w1.heap.size, 0, none⟩), .pointer (some ⟨Bx, 0, none⟩), .agg #[.int .i64 n, .int .i64 a], .bool true, .bool false, .pointer (some ⟨w.heap.size, 0, none⟩), .int .i64 n, .func (.func 112) #[] #[.pointer (some ⟨w1.heap.size + 1, 0, none⟩)], .agg #[.int .i64 ((x.1 % 32 : Nat) : Int), .int .i64 ((x.2 % 32 : Nat) : Int)], undef, undef, undef, undef, undef, undef, undef, undef], defers := [] })
    (fun x a' _ X Y row hs hg hr => by obtain ⟨Bx, h1, h2, h3⟩ := hs; exact ⟨Bx, h1, Boxed2.own Bx x () X Y row h2 hg (fun r e => (hr r e).2), h3⟩)
    ?assign ?body ?done ?stop
  case assign =>
    rintro l pre x W K ⟨⟨⟨v, bO1, hrow, _⟩, bN1⟩, hB1⟩ hK
    dsimp only [encT]
    gi_wp2
    exact hK _ _ ((KeepsOthers.alloc _ _).from _) (KpN.boxed bN1 (bN1.alloc _) (by simp)) ⟨⟨⟨v, bO1.alloc _, World.ownsRow.alloc hrow _, trivial⟩, bN1.alloc _⟩, hB1.alloc hB1.size _⟩ ⟨W.heap.size, bN1.lt, Boxed2.new W x, rfl⟩
  case body =>
    rintro l pre x a' W hl ⟨r, hr⟩ ⟨⟨⟨v, bO1, hrow, _⟩, bN1⟩, hB1⟩ ⟨Bx, hBx, bX, rfl⟩ hlt
    have HLEN : Hid ((primesF n a pre).length ≤ 243) := Lib.hid (by
      have h1 := primesF_len n a pre
      have h2 := terms_len n (by have := HN.out; omega)
      omega)
    have hx1 : (((x.1 % 32 : Nat)) : Int) ≤ 31 := by omega
    have hx2 : (((x.2 % 32 : Nat)) : Int) ≤ 31 := by omega
    have HV : Hid (-9223372036854775808 ≤ (((x.2 % 32 : Nat)) : Int) ∧ (((x.2 % 32 : Nat)) : Int) ≤ 9223372036854775807) := Lib.hid (by omega)
    have HF : Hid (∀ b, hitB n a x = b → ∀ w, Calls Try.prog 96 #[.agg #[.int .i64 n, .int .i64 a], .agg #[.int .i64 ((x.1 % 32 : Nat) : Int), .int .i64 ((x.2 % 32 : Nat) : Int)]] w fun e w' => e = .returned (.bool b) ∧ Below w.heap.size w w') := Lib.hid (fun b hb w => by
      rw [← hb]; exact Trm.prmI n a _ _ HA.out HV.out w)
    have HX1 := Lib.hid (bX.cell0)
    have q0 := bX.cell0
    have q1 := bX.cell1
    have c0 : W.cell? ⟨w.heap.size, 0, none⟩ = some (.int .i64 n) := (hB1.cell (p := ⟨w.heap.size, 0, none⟩) hsz1).trans k0
    have c1 : W.cell? ⟨w.heap.size, 1, none⟩ = some (.int .i64 a) := (hB1.cell (p := ⟨w.heap.size, 1, none⟩) hsz1).trans k1
    have hBs := hB1.size
    have hXs := bX.lt
    cases hb : hitB n a x with
    | false =>
      have HP := Lib.hid (primesF_no pre hb)
      have HC := Lib.hid (HF.out false hb)
      clear hb HF
      generalize ((x.1 % 32 : Nat) : Int) = p1 at *
      generalize ((x.2 % 32 : Nat) : Int) = p2 at *
      gi_wp2_with (first
        | ((refine ⟨trivial, ?_⟩); gi_at_call 96; refine (CallsIn.inRound l (callsIn_wide.2 (HC.out _))).mono ?_; rintro e w2 ⟨rfl, hb2⟩))
      exact ⟨keepsFrom_below hb2, KpN.boxed bN1 (boxed_below bN1 hb2) hb2.size, ⟨⟨⟨v, boxed_below bO1 hb2, by rw [HP.out]; exact World.ownsRow.kept hrow (grownNone hb2) (by cases v.ownBlock <;> simp), trivial⟩, boxed_below bN1 hb2⟩, hB1.trans (hb2.mono hBs)⟩⟩
    | true =>
      have HP := Lib.hid (primesF_yes pre hb)
      have HC := Lib.hid (HF.out true hb)
      clear hb HF
      generalize ((x.1 % 32 : Nat) : Int) = p1 at *
      generalize ((x.2 % 32 : Nat) : Int) = p2 at *
      have hlen := HLEN.out
      have HTWO : Hid (∀ (Y : World) (j : Nat) (u : Value), [Value.int .i64 p1, Value.int .i64 p2][j]? = some u → (Y.alloc (.cells #[.int .i64 p1, .int .i64 p2] 46)).cell? ((⟨Y.heap.size, 0, none⟩ : Addr).add j) = some u) := Lib.hid (fun Y j u hj => by
        match j, hj with
        | 0, hj => simp at hj; subst hj; exact World.cell?_alloc_mark Y _ _ _ 0
        | 1, hj => simp at hj; subst hj; exact World.cell?_alloc_mark Y _ _ _ 1
        | j + 2, hj => simp at hj)
      gi_wp2_with (first
        | ((refine ⟨trivial, ?_⟩); gi_at_call 96; refine (CallsIn.inRound l (callsIn_wide.2 (HC.out _))).mono ?_; rintro e w2 ⟨rfl, hb2⟩; have bO2 := boxed_below bO1 hb2; have c2 := bO2.cell; have q20 := keepB hb2 q0; have q21 := keepB hb2 q1; have hrow2 := World.ownsRow.kept hrow (grownNone hb2) (by cases v.ownBlock <;> simp); have hs2 := hb2.size)
        | (gi_at_builtin; refine wpListIn_append_own _ rfl _ _ 42 rfl w1.heap.size 46 i0 (.agg #[.int .i64 0, .int .i64 0]) 2 16 Try.underlying42 hi hz0 hz1 hz2 rfl (by decide) _ _ _ rfl (World.ownsRow.alloc hrow2 _) ⟨w2.heap.size, 0, none⟩ 1 1 [.int .i64 p1, .int .i64 p2] rfl rfl (HTWO.out w2) (by simp [Value.oneCell']) (by unfold maxLen; omega) (by omega) (by simp; omega) ?_; intro v' w3 hown' hgrow _; obtain ⟨g', cap', rfl⟩ := ownsRow_succ hown'; obtain ⟨hv1, hv2, hr2, hk2, hbe2⟩ := bO2.appended (by decide) hrow2 (by omega) (Nat.le_refl _) hown' hgrow; have hc1 := hv1.cell; have hf1 := hv1.frozen))
      have bN2 := boxed_below bN1 hb2
      have bN3 : Boxed w3 (w1.heap.size + 1) 3 (.int .i64 n) := (bN2.alloc _).kept hgrow (bN2.not_row (by decide) hrow2)
      have bN4 := bN3.kept (grownBy_setCell' w3 w1.heap.size (.slice (some ⟨g', 0, none⟩) ((primesF n a pre).length + 1) cap')) (by simp)
      exact ⟨(keepsFrom_below hb2).trans (hk2.from _), KpN.boxed bN1 bN4 (Nat.le_trans hb2.size hk2.size), ⟨⟨⟨_, hv2, by rw [HP.out, tmsV_snoc, List.length_append]; exact hr2, trivial⟩, bN4⟩, (hB1.trans (hb2.mono hBs)).trans hbe2⟩⟩
  case done =>
    rintro D ys W hD rfl ⟨⟨⟨v, hv, hrow, _⟩, bN1⟩, hB⟩ hK
    have hc := hv.cell
    have HF := Lib.hid (primesF_all HT.out HN.out)
    gi_wp2
    refine ⟨by simp, .inl ⟨_, _, rfl, run_takeDeferred hK, ?_⟩⟩
    have h1 := ownsRow_putObj hrow (.deferred none) hK rfl
    rw [HF.out] at h1
    exact ⟨_, results_tmp2 rfl _ _ _, ⟨_, rfl, TmRow.base h1 (by omega)⟩, HB1.out.trans ((hB.trans (belowK_b (w := W0) (by omega) W D _ _ hD hK rfl rfl)).mono (by omega))⟩
  case stop =>
    rintro D c pre W _ _ h _
    exact h.elim

theorem Prm.listI_no (n a : Int) (h64 : -9223372036854775808 ≤ a ∧ a ≤ 9223372036854775807) (ht : isT n a = false) (w : World) :
    Calls Try.prog 49 #[.agg #[.int .i64 n, .int .i64 a]] w fun e w' => e = .returned (.tuple #[.slice none 0 0, .bool false]) ∧ Below w.heap.size w w' := by
  have H := Lib.hid ht
  have HB := Lib.hid h64
  clear ht h64
  go_enter Try.func49, Try.ntmps49
  go_wp2_with fail
  refine (Tab.impl _ _ HB.out _).mono ?_
  rintro e w1 ⟨rfl, hb1⟩
  rw [H.out]
  go_wp2
  go_ret2
  exact ⟨rfl, bB hb1 (by simp) (bA (Nat.le_refl _) (Below.refl _ _))⟩

/-- What PrimesOf answers. -/
def Plain.primesT (n a : Int) : List Ti := if isT n a = true then tiL (primesL n.toNat a.toNat) else []
theorem primesT_yes {n a : Nat} (h : isT n a = true) : primesT n a = tiL (primesL n a) := by unfold primesT; rw [if_pos h]; rfl
theorem primesT_no {n a : Int} (h : isT n a = false) : primesT n a = [] := if_neg (by rw [h]; decide)
theorem primesT_ok (n a : Int) : (primesT n a).length ≤ 243 ∧ Small2 (primesT n a) := by
  cases ht : isT n a with
  | false => rw [primesT_no ht]; exact ⟨by decide, fun t h => absurd h (by simp)⟩
  | true =>
    obtain ⟨k, x, rfl, rfl, hk, hx⟩ := isT_nat ht
    rw [primesT_yes ht, tiL_len]
    exact ⟨primes_len hk, tiL_small (prime_small hk)⟩
/-- A list of terms and a bool, in new memory. -/
def TmOut (l : List Ti) (b : Bool) (w : World) (e : Ending) (w' : World) : Prop := (∃ v, e = .returned (.tuple #[v, .bool b]) ∧ TmRow w' w.heap.size v l) ∧ Below w.heap.size w w'

/-- PrimesOf of the program. -/
theorem Prm.ofI (n a : Int) (h64 : -9223372036854775808 ≤ a ∧ a ≤ 9223372036854775807) (w : World) :
    Calls Try.prog 49 #[.agg #[.int .i64 n, .int .i64 a]] w (TmOut (primesT n a) (isT n a) w) := by
  cases ht : isT n a with
  | false =>
    rw [primesT_no ht]
    exact (Prm.listI_no n a h64 ht w).mono fun e w' ⟨h1, h2⟩ => ⟨⟨_, h1, tmNil _ _⟩, h2⟩
  | true =>
    obtain ⟨k, x, rfl, rfl, hk, hx⟩ := isT_nat ht
    rw [primesT_yes ht]
    exact Prm.listI k x hk (by have := fullN_le k hk; omega) ht w

end Go.Proofs.Ytlmhdocfdpbhmaa
