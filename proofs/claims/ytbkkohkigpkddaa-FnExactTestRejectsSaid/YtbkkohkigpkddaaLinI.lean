/-
  Chapter 14, the program: parity, the values of sums, distances between whatever has values, AffineTable, DistanceBetween.
-/
import Derived.Test.YtbkkohkigpkddaaLinM
import Derived.Test.YtbkkohkigpkddaaLinR
import Derived.Test.YtbkkohkigpkddaaSetS
import Derived.Test.YtbkkohkigpkddaaSpcP
import Derived.Test.YtbkkohkigpkddaaResB
import Derived.BigQuiet
import Derived.Deep.QuietTactic
import Derived.Shelf.Abstract
namespace Go.Proofs.Ytbkkohkigpkddaa
open Go.RowKit Plain Go.Shelf
set_option linter.unusedVariables false
set_option linter.unusedSimpArgs false
attribute [local go_sem ↓] Go.wp_at_zero Go.wp_at_succ

theorem Prt.any (m : Nat) (hm : (m : Int) ≤ 4294967295) (w : World) :
    Calls Try.prog 45 #[.int .i64 m] w fun e w' => e = .returned (.int .i64 ((popN m % 2 : Nat) : Int)) ∧ w' = w := by
  have HS := Lib.hid (SetSize.any m hm)
  have hl := popN_lim m hm
  have H1 := Lib.hid (and1_i64 (popN m) (by omega))
  generalize popN m = p at *
  go_enter Try.func45, Try.ntmps45
  go_wp2_with fail
  refine (HS.out _).mono ?_
  rintro e w' ⟨rfl, rfl⟩
  go_wp2
  go_ret
  exact ⟨ret_int H1.out, rfl⟩

theorem affB_xor (u b x : Nat) (hb : b < 2) : b ^^^ (popN (u &&& x) % 2) = affB u b x := by
  rw [xor_bits hb (Nat.mod_lt _ (by decide))]
  unfold Plain.affB
  omega

set_option maxRecDepth 100000 in
theorem Sum.at (u b x : Nat) (hu : u < 32) (hb : b < 2) (hx : x < 32) (w : World) :
    Calls Try.prog 29 #[.agg #[.int .i64 u, .int .i64 b], .int .i64 x] w fun e w' => e = .returned (.int .i64 (affB u b x : Int)) ∧ Below w.heap.size w w' := by
  have hand := and64 u x (by omega) (by omega)
  have hal : u &&& x ≤ u := Nat.and_le_left
  have HP := Lib.hid (Prt.any (u &&& x) (by omega))
  have hpm : popN (u &&& x) % 2 < 2 := Nat.mod_lt _ (by decide)
  have hxor := xor64 b (popN (u &&& x) % 2) (by omega) (by omega)
  rw [affB_xor u b x hb] at hxor
  generalize affB u b x = z at *
  generalize popN (u &&& x) % 2 = p at *
  generalize u &&& x = ux at *
  go_enter Try.func29, Try.ntmps29
  go_wp2_with fail
  go_quiet ((go_at_call 45; (try rw [hand]); exact Calls.quiet_of_same (HP.out _)))
  go_wp2
  go_ret
  exact ⟨by simp [hxor], below_drewN ((Below.refl _ _).alloc (Nat.le_refl _) _) _⟩

/-- What has a value at each input: a table's word, or a sum. -/
inductive Vld where
  | wrd (a : Nat)
  | sm (u b : Nat)
def vTy : Vld → TypeId
  | .wrd _ => 48
  | .sm _ _ => 43
def vRaw : Vld → Value
  | .wrd a => .int .u64 a
  | .sm u b => .agg #[.int .i64 u, .int .i64 b]
def vFn : Vld → FuncId
  | .wrd _ => 38
  | .sm _ _ => 29
def vVal : Vld → Nat → Nat
  | .wrd a => bitN a
  | .sm u b => affB u b
def vOk : Vld → Prop
  | .wrd a => (a : Int) ≤ 18446744073709551615
  | .sm u b => u < 32 ∧ b < 2
theorem vVal_lt (f : Vld) (x : Nat) : vVal f x < 2 := by
  cases f with
  | wrd a => exact bitN_lt a x
  | sm u b => exact affB_lt u b x
theorem inv_at (f : Vld) : ∀ (n : Nat) (w : World), (method (n + 1) (vTy f) (vRaw f) "loop.example/g03403/impl.at").run Try.prog w = .ok (vFn f, vRaw f) w := by
  cases f <;> (intro n w; kernel_rfl)
theorem ent_at (f : Vld) : ∀ args w, (callFunc (vFn f) args).run Try.prog w = .ok (.enter (vFn f) args) w := by
  cases f with
  | wrd a => exact enters_of Try.func38 (by kernel_rfl) rfl
  | sm u b => exact enters_of Try.func29 (by kernel_rfl) rfl
theorem Vld.at (f : Vld) (hf : vOk f) (x : Nat) (hx : x < 32) (w : World) :
    Calls Try.prog (vFn f) #[vRaw f, .int .i64 x] w fun e w' => e = .returned (.int .i64 (vVal f x : Int)) ∧ Below w.heap.size w w' := by
  cases f with
  | wrd a => exact (Tab.at a x hf (by omega) w).mono fun e w' h => ⟨h.1, h.2 ▸ Below.refl _ _⟩
  | sm u b => exact Sum.at u b x hf.1 hf.2 hx w

set_option maxRecDepth 100000 in
set_option maxHeartbeats 2000000 in
theorem Dst.any (n : Nat) (hn : n ≤ 5) (f g : Vld) (hf : vOk f) (hg : vOk g) (w : World) :
    Calls Try.prog 34 #[.int .i64 n, .iface (vTy f) (vRaw f), .iface (vTy g) (vRaw g)] w fun e w' => e = .returned (.int .i64 (disN (vVal f) (vVal g) (2 ^ n) : Int)) ∧ Below w.heap.size w w' := by
  have h32 := two_pow_le n hn
  have HC := Lib.hid (Tab.count n hn)
  have HF := Lib.hid (fun (x : Nat) (hx : x < 32) => Vld.at f hf x hx)
  have HG := Lib.hid (fun (x : Nat) (hx : x < 32) => Vld.at g hg x hx)
  have hmf := inv_at f
  have hef := ent_at f
  have hmg := inv_at g
  have heg := ent_at g
  have HLF := Lib.hid (vVal_lt f)
  have HLG := Lib.hid (vVal_lt g)
  generalize vVal f = vf at *
  generalize vVal g = vg at *
  generalize hM : 2 ^ n = M at *
  go_enter Try.func34, Try.ntmps34
  go_wp2_with fail
  refine (HC.out _).mono ?_
  rintro e w1 ⟨rfl, rfl⟩
  go_wp2_with fail
  go_loopw [7, 11] (fun s x wr => ∃ k : Nat, x = .int .i64 (k : Int) ∧ s = .int .i64 (disN vf vg k : Int) ∧ k ≤ M ∧ Below w.heap.size w wr) (fun _ x _ => M - (intOf x).toNat)
  case atStart => exact ⟨0, rfl, rfl, by omega, Below.refl _ _⟩
  case round =>
    obtain ⟨k, rfl, rfl, hk, hbel⟩ := hrel
    have hsz := hbel.size
    have HB := Lib.hid hbel
    clear hbel
    have hdl := disN_le vf vg k
    by_cases hlt : k < M
    · have hlz : (k : Int) < (M : Int) := by omega
      have HFk := Lib.hid (HF.out k (by omega))
      have HGk := Lib.hid (HG.out k (by omega))
      have HON := Lib.hid (disN_on (HLF.out k) (HLG.out k))
      have HOFF := Lib.hid (disN_off (f := vf) (g := vg) (k := k))
      generalize hD1 : disN vf vg (k + 1) = D1 at *
      generalize disN vf vg k = D at *
      generalize vf k = p at *
      generalize vg k = q at *
      by_cases hpq : p = q
      · have HE := Lib.hid (HOFF.out hpq)
        subst hpq
        go_wp2_with fail
        refine (HFk.out _).mono ?_
        rintro e w2 ⟨rfl, hb2⟩
        go_wp2_with fail
        refine (HGk.out _).mono ?_
        rintro e w3 ⟨rfl, hb3⟩
        have HB3 := Lib.hid ((HB.out.trans (hb2.mono hsz)).trans (hb3.mono (Nat.le_trans hsz hb2.size)))
        clear hb2 hb3
        go_wp2_with fail
        exact ⟨⟨k + 1, by go_num, by rw [hD1, HE.out], by omega, HB3.out⟩, by simp [intOf] <;> omega⟩
      · have HE := Lib.hid (HON.out hpq)
        have hpz : ((p : Int) != (q : Int)) = true := by simp; omega
        go_wp2_with fail
        refine (HFk.out _).mono ?_
        rintro e w2 ⟨rfl, hb2⟩
        go_wp2_with fail
        refine (HGk.out _).mono ?_
        rintro e w3 ⟨rfl, hb3⟩
        have HB3 := Lib.hid ((HB.out.trans (hb2.mono hsz)).trans (hb3.mono (Nat.le_trans hsz hb2.size)))
        clear hb2 hb3
        go_wp2_with fail
        exact ⟨⟨k + 1, by go_num, by rw [hD1, HE.out]; congr 1, by omega, HB3.out⟩, by simp [intOf] <;> omega⟩
    · obtain rfl : k = M := by omega
      have hlz : ¬ (k : Int) < (k : Int) := by omega
      generalize hG : disN vf vg k = G at *
      go_wp2
      go_ret
      exact ⟨by simp [hG], HB.out⟩
end Go.Proofs.Ytbkkohkigpkddaa
