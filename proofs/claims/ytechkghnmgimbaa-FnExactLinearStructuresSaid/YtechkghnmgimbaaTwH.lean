/-
  Over the twin: LinearStructures of both.
-/
import Derived.Test.YtechkghnmgimbaaTwG
import Derived.Test.YtechkghnmgimbaaQSpcH
namespace Go.Proofs.Ytechkghnmgimbaa.Q
open Go.RowKit Go.Proofs.Ytechkghnmgimbaa.Plain Go.Proofs.Ytechkghnmgimbaa.Q.Plain
set_option linter.unusedVariables false
set_option linter.unusedSimpArgs false
attribute [local go_sem ↓] Go.wp_at_zero Go.wp_at_succ
attribute [local go_sem] undef

theorem Lin.nil (w : World) (B : Nat) : IntRow w B (.slice none 0 0) [] := ⟨by simp [intsV], .inl ⟨rfl, rfl⟩⟩

set_option maxRecDepth 100000 in
theorem Lin.impl_no (n a : Int) (HR : -9223372036854775808 ≤ a ∧ a ≤ 9223372036854775807) (ht : isT n a = false) (w : World) :
    Calls Tq.prog 34 #[.agg #[.int .i64 n, .int .i64 a]] w (Spc.Out2 [] false w) := by
  have HT := Lib.hid (Tab.implX n a HR)
  have H := Lib.hid ht
  clear ht
  go_enter Tq.func34, Tq.ntmps34
  go_wp2_with fail
  refine (HT.out _).mono ?_
  rintro e w1 ⟨rfl, rfl⟩
  rw [H.out]
  go_wp2
  exact bodyPost_ret (v := .tuple #[.slice none 0 0, .bool false]) (by simp [results, Tq.results34, go_sem]) rfl ⟨_, rfl, Lin.nil _ _, ((Below.refl _ _).alloc (Nat.le_refl _) _).alloc (by simp) _⟩

set_option maxRecDepth 100000 in
set_option maxHeartbeats 4000000 in
theorem Lin.impl_yes (n a : Nat) (hn : n ≤ 5) (ht : isT (n : Int) (a : Int) = true) (ha : (a : Int) ≤ 4294967295) (w : World) :
    Calls Tq.prog 34 #[.agg #[.int .i64 n, .int .i64 a]] w (Spc.Out2 (linL a (2 ^ n) (2 ^ n)) true w) := by
  have HT := Lib.hid (Tab.implX n a (by omega))
  have H := Lib.hid ht
  have HS := Lib.hid (Aut.impl_yes n a hn ht ha)
  have h32 := two_pow_le n hn
  have hpos : 0 < 2 ^ n := Nat.two_pow_pos n
  have HN := Lib.hid (fun w => (Tab.count n hn w).mono (R' := fun e w' => e = .returned (.int .i64 ((2 ^ n : Nat) : Int)) ∧ w' = w) fun e w' h => ⟨h.1, h.2.symm⟩)
  have HM := Lib.hid (fun (x : Int) (hx : -64 ≤ x ∧ x ≤ 64) => Mag.any x hx)
  clear ht
  generalize 2 ^ n = M at *
  go_enter Tq.func34, Tq.ntmps34
  go_wp2_with fail
  refine (HT.out _).mono ?_
  rintro e w1 ⟨rfl, rfl⟩
  rw [H.out]
  go_wp2_with fail
  refine (HS.out _).mono ?_
  intro e w3 hout
  obtain ⟨g, cap, rfl, hg0, hg1, hcell, hb⟩ := Aut.open_yes hout hpos
  clear hout
  have hsz := hb.size
  simp only [World.size_alloc] at hsz
  have c0 : w3.cell? ⟨w.heap.size, 0, none⟩ = some (.int .i64 n) := (hb.cell (by simp; omega)).trans (keepA (keepN rfl rfl))
  have HB : Hid (Below w.heap.size w w3) := Lib.hid ((((Below.refl _ _).alloc (Nat.le_refl _) _).alloc (by simp) _).trans (hb.mono (by simp; omega)))
  have HC := Lib.hid hcell
  have hMz : (M : Int) ≤ 32 := by omega
  have hMp : 0 < (M : Int) := by omega
  clear hb hcell HS
  go_wp2_with fail
  go_loopw [4, 13] (fun o i wr => ∃ (k : Nat) (v : Value), i = .int .i64 (k : Int) ∧ v = o ∧ k ≤ M ∧ IntRow wr w3.heap.size v (linL a M k) ∧ Below w3.heap.size w3 wr) (fun _ i _ => M - (intOf i).toNat)
  case atStart => exact ⟨0, _, rfl, rfl, by omega, Lin.nil _ _, Below.refl _ _⟩
  case round =>
    obtain ⟨k, v, rfl, rfl, hk, hrow, hbel⟩ := hrel
    have hsr := hbel.size
    have HROW := Lib.hid hrow
    have HBEL := Lib.hid hbel
    by_cases hlt : k < M
    · have hlz : (k : Int) < (M : Int) := by omega
      have e1 : wr.cell? ⟨g, k, none⟩ = some (.int .i64 (autN a M k)) := (hbel.cell (p := ⟨g, k, none⟩) hg1).trans (HC.out k hlt)
      have d0 : wr.cell? ⟨w.heap.size, 0, none⟩ = some (.int .i64 n) := (hbel.cell (p := ⟨w.heap.size, 0, none⟩) (by simp only; omega)).trans c0
      have l1 := autN_lim a M k
      have hll := linL_len a M k
      have HON := Lib.hid (linL_on (a := a) (M := M) (k := k))
      have HOFF := Lib.hid (linL_off (a := a) (M := M) (k := k))
      generalize hG1 : linL a M (k + 1) = G1 at *
      generalize linL a M k = G0 at *
      generalize autN a M k = x at *
      have K1 := Lib.hid (HM.out x (by omega))
      clear hrow hbel
      go_wp2
      go_quiet (first
        | (go_at_call 43; exact Calls.quiet_of_same (K1.out _))
        | (go_at_call 44; exact Calls.quiet_of_same (HN.out _)))
      by_cases hx : x.natAbs = M
      · have HE := Lib.hid (HON.out hx)
        have hxz : ((x.natAbs : Int) == (M : Int)) = true := by rw [hx]; simp
        have hd := below_drewN HBEL.out nq
        have hr := HROW.out.below (below_drewN (Below.refl _ _) nq)
        go_wp2_with (at_builtin; go_must (refine wp_int rfl _ _ rfl w3.heap.size _ _ _ _ (k : Int) _ hr hd (by simpa using hsr) (by omega) rfl rfl rfl ?_; intro v1 w4 k1 k2 k3))
        exact ⟨⟨k + 1, _, by go_num, rfl, by omega, by rw [hG1, HE.out]; exact k1, k2⟩, by simp [intOf] <;> omega⟩
      · have HE := Lib.hid (HOFF.out hx)
        have hxz : ((x.natAbs : Int) == (M : Int)) = false := by rw [beq_eq_false_iff_ne]; omega
        go_wp2
        exact ⟨⟨k + 1, _, by go_num, rfl, by omega, by rw [hG1, HE.out]; exact HROW.out.below (below_drewN (Below.refl _ _) nq), below_drewN HBEL.out nq⟩, by simp [intOf] <;> omega⟩
    · obtain rfl : k = M := by omega
      have hlz : ¬ (k : Int) < (k : Int) := by omega
      generalize linL a k k = G0 at *
      clear hrow hbel
      go_wp2
      exact bodyPost_ret (v := .tuple #[v, .bool true]) (by simp [results, Tq.results34, go_sem]) rfl ⟨_, rfl, HROW.out.base (by omega), HB.out.trans (HBEL.out.mono (by omega))⟩

def Plain.linZ (n a : Int) : List Int := if isT n a = true then linL a.toNat (2 ^ n.toNat) (2 ^ n.toNat) else []
theorem linZ_len (n a : Int) : (linZ n a).length ≤ 32 := by
  unfold Plain.linZ
  split
  · next ht =>
    obtain ⟨n, a, rfl, rfl, hn, ha⟩ := isT_nat ht
    have h2 := two_pow_le n hn
    have := linL_len a (2 ^ n) (2 ^ n)
    simp only [Int.toNat_natCast]
    omega
  · simp
theorem linZ_lim (n a : Int) : ∀ x ∈ linZ n a, -9223372036854775808 ≤ x ∧ x ≤ 9223372036854775807 := by
  intro x hx
  unfold Plain.linZ at hx
  split at hx
  · next ht =>
    obtain ⟨n, a, rfl, rfl, hn, ha⟩ := isT_nat ht
    have h2 := two_pow_le n hn
    have := linL_mem a (2 ^ n) (2 ^ n) x hx
    omega
  · simp at hx
theorem Lin.modelZ (n a : Int) (w : World) :
    Calls Tq.prog 33 #[.agg #[.int .i64 n, .int .i64 a]] w (Spc.Out2 (linZ n a) (isT n a) w) := by
  cases ht : isT n a with
  | false => rw [show linZ n a = [] by simp [Plain.linZ, ht]]; exact Lin.model_no n a ht w
  | true =>
    obtain ⟨n, a, rfl, rfl, hn, ha⟩ := isT_nat ht
    rw [show linZ n a = linL a (2 ^ n) (2 ^ n) by simp [Plain.linZ, ht]]
    exact Lin.model_yes n a hn ht (full_lim hn ha) w
theorem Lin.implZ (n a : Int) (HR : -9223372036854775808 ≤ a ∧ a ≤ 9223372036854775807) (w : World) :
    Calls Tq.prog 34 #[.agg #[.int .i64 n, .int .i64 a]] w (Spc.Out2 (linZ n a) (isT n a) w) := by
  cases ht : isT n a with
  | false => rw [show linZ n a = [] by simp [Plain.linZ, ht]]; exact Lin.impl_no n a HR ht w
  | true =>
    obtain ⟨n, a, rfl, rfl, hn, ha⟩ := isT_nat ht
    rw [show linZ n a = linL a (2 ^ n) (2 ^ n) by simp [Plain.linZ, ht]]
    exact Lin.impl_yes n a hn ht (full_lim hn ha) w
end Go.Proofs.Ytechkghnmgimbaa.Q
