/-
  Chapter 11: TableOfCoefficients, what both answer; the model's.
-/
import Derived.Test.YtphjaggiddjhgaaGreatDoorDegP
import Derived.Test.YtphjaggiddjhgaaGreatDoorPar
import Derived.Test.YtphjaggiddjhgaaGreatDoorRowB
namespace Go.Proofs.YtphjaggiddjhgaaGreatDoor
open Go.RowKit Plain
set_option linter.unusedVariables false

def Plain.atL (l : List Int) (j : Nat) : Int := l.getD j 0
/-- The sum of the parts' numbers. -/
def Plain.toS (l : List Int) (x k : Nat) : Int := sumF 1 (atL l) x k
theorem toS_yes {l : List Int} {x k : Nat} (h : k &&& x = k) : toS l x (k + 1) = toS l x k + l.getD k 0 := by
  unfold toS
  rw [sumF_yes h]
  have : sgn 1 x k = 1 := by unfold sgn; split <;> rfl
  rw [this, Int.one_mul]; rfl
theorem toS_no {l : List Int} {x k : Nat} (h : ¬ k &&& x = k) : toS l x (k + 1) = toS l x k := sumF_no h
def Plain.toV (l : List Int) (x : Nat) : Int := toS l x (x + 1)
def Plain.inR (l : List Int) (x : Nat) : Prop := -1000 ≤ l.getD x 0 ∧ l.getD x 0 ≤ 1000
/-- Is there a table with these coefficients? -/
def Plain.toG (l : List Int) (N : Nat) : Prop := (∀ j, j < N → inR l j) ∧ ∀ x, x < N → 0 ≤ toV l x ∧ toV l x ≤ 1
def Plain.toN (l : List Int) (x : Nat) : Nat := (toV l x).toNat
theorem toS_bound {l : List Int} {x : Nat} : ∀ k, (∀ j, j < k → j &&& x = j → inR l j) → -(1000 * (k : Int)) ≤ toS l x k ∧ toS l x k ≤ 1000 * (k : Int) := by
  intro k
  induction k with
  | zero => intro _; exact ⟨Int.le_refl _, Int.le_refl _⟩
  | succ k ih =>
    intro h
    have h1 := ih fun j hj => h j (by omega)
    by_cases hx : k &&& x = k
    · have h2 := h k (by omega) hx
      unfold inR at h2
      rw [toS_yes hx]; omega
    · rw [toS_no hx]; omega
theorem toV_par {m : Nat} (hm : m ≤ 5) (l : List Int) {x : Nat} (hx : x < 2 ^ m) : parF 1 m (atL l) x = toV l x := parF_sum (by decide) m hm _ x hx

/-- What both answer: the table, if there is one. -/
structure TocIs (l : List Int) (m : Nat) (r : Int × Int × Bool) : Prop where
  good : toG l (2 ^ m) → r = ((m : Int), (tabN (toN l) (2 ^ m) : Int), true)
  bad : ¬ toG l (2 ^ m) → r = (0, 0, false)

theorem Toc.M_none (l : List Int) (a : Option Addr) (cap : Nat) (hz : ∀ m, m ≤ 5 → l.length ≠ 2 ^ m) (w : World) :
    Calls Tryz.prog 22 #[.slice a l.length cap] w fun e w' => e = .returned (.tuple #[.agg #[.int .i64 0, .int .i64 0], .bool false]) ∧ Below w.heap.size w w' := by
  have HZ := Lib.hid (not_pow l.length hz)
  clear hz
  go_enter Tryz.func22, Tryz.ntmps22
  go_wp2
  go_loop [4] (fun i => ∃ n : Nat, i = .int .i64 (n : Int) ∧ n ≤ 6) (fun i => 6 - (intOf i).toNat)
  case atStart => exact ⟨0, rfl, by omega⟩
  case round =>
    obtain ⟨n, rfl, hn⟩ := hrel
    by_cases h5 : n ≤ 5
    · obtain ⟨t1, t2⟩ := HZ.out n h5
      obtain ⟨hp1, hp2⟩ := two_pow_int n h5
      go_wp2
      go_round
      case rel => exact ⟨n + 1, by go_num, by omega⟩
      case measure => simp [intOf]; omega
    · obtain rfl : n = 6 := by omega
      go_wp2
      exact bodyPost_ret (v := .tuple #[.agg #[.int .i64 0, .int .i64 0], .bool false]) (by simp [results, Tryz.results22, go_sem]) rfl ⟨rfl, (Below.refl _ _).alloc (Nat.le_refl _) _⟩

set_option maxRecDepth 100000 in
set_option maxHeartbeats 4000000 in
theorem Toc.M_pow (l : List Int) (b off cap m : Nat) (hm : m ≤ 5) (hl : l.length = 2 ^ m) (r : Int × Int × Bool) (hr : TocIs l m r) (w : World) (hbw : b < w.heap.size)
    (hcl : ∀ j, j < l.length → w.cell? ⟨b, off + j, none⟩ = some (.int .i64 (l.getD j 0))) :
    Calls Tryz.prog 22 #[.slice (some ⟨b, off, none⟩) l.length cap] w fun e w' => e = .returned (.tuple #[.agg #[.int .i64 r.1, .int .i64 r.2.1], .bool r.2.2]) ∧ Below w.heap.size w w' := by
  have HR := Lib.hid hr
  have HL := Lib.hid hl
  have HM := Lib.hid hm
  have h32 : (l.length : Int) ≤ 32 := by have := two_pow_le m hm; omega
  have HTEST : Hid (∀ n, n < m → ((l.length : Int) == (2 : Int) ^ n) = false ∧ ((l.length : Int) != (2 : Int) ^ n) = true) := Lib.hid (fun n hn => len_test l.length n m hl hn hm)
  have HSAME := Lib.hid (len_same l.length m hl)
  have HCL : Hid (∀ o j, j < l.length → (w.alloc o).cell? ⟨b, off + j, none⟩ = some (.int .i64 (l.getD j 0))) := Lib.hid (fun o j hj => keepA (hcl j hj))
  have hmz : (m : Int) ≤ 5 := by omega
  clear hr hl hcl hm
  go_enter Tryz.func22, Tryz.ntmps22
  go_wp2
  have HC1 := Lib.hid (HCL.out (.cells #[.int .i64 0, .int .i64 0] 25))
  go_loop [4] (fun i => ∃ n : Nat, i = .int .i64 (n : Int) ∧ n ≤ m) (fun i => 6 - (intOf i).toNat)
  case atStart => exact ⟨0, rfl, by omega⟩
  case round =>
    obtain ⟨n, rfl, hn⟩ := hrel
    obtain ⟨hp1, hp2⟩ := two_pow_int n (by omega)
    have hn5 : (n : Int) ≤ 5 := by omega
    by_cases hlt : n < m
    · obtain ⟨t1, t2⟩ := HTEST.out n hlt
      go_wp2
      go_round
      case rel => exact ⟨n + 1, by go_num, by omega⟩
      case measure => simp [intOf]; omega
    · obtain rfl : n = m := by omega
      obtain ⟨t1, t2⟩ := HSAME.out
      go_wp2
      go_loop [5, 6] (fun v i => ∃ x : Nat, i = .int .i64 (x : Int) ∧ v = .int .i64 (tabN (toN l) x : Int) ∧ x ≤ l.length ∧ Hid (∀ y, y < x → inR l y ∧ 0 ≤ toV l y ∧ toV l y ≤ 1)) (fun _ i => 33 - (intOf i).toNat)
      case atStart => exact ⟨0, rfl, rfl, by omega, Lib.hid (fun y hy => absurd hy (by omega))⟩
      case round =>
        obtain ⟨x, rfl, rfl, hx, HOK⟩ := hrel
        have htb := tabN_bound (toN l) x (by omega)
        by_cases hxl : x < l.length
        · have hxz : (x : Int) < (l.length : Int) := by omega
          generalize hT : tabN (toN l) x = T at *
          have HT := Lib.hid hT
          clear hT
          go_wp2
          go_loop [7, 8] (fun s i => ∃ k : Nat, i = .int .i64 (k : Int) ∧ s = .int .i64 (toS l x k) ∧ (k : Int) ≤ (x : Int) + 1 ∧ Hid (∀ j, j < k → j &&& x = j → inR l j)) (fun _ i => x + 1 - (intOf i).toNat)
          case atStart => exact ⟨0, rfl, rfl, by omega, Lib.hid (fun y hy => absurd hy (by omega))⟩
          case round =>
            obtain ⟨k, rfl, rfl, hk, HIN⟩ := hrel
            have hsb := toS_bound k HIN.out
            by_cases hkx : (k : Int) ≤ (x : Int)
            · have hand := and64 k x (by omega) (by omega)
              have hkl : k < l.length := by omega
              have hkz : (k : Int) < (l.length : Int) := by omega
              by_cases hs : k &&& x = k
              · have hne : (((k &&& x : Nat) : Int) != (k : Int)) = false := by rw [hs]; simp
                have ck := HC1.out k hkl
                by_cases hr : inR l k
                · have HS := Lib.hid (toS_yes (l := l) hs)
                  have HIN2 : Hid (∀ j, j < k + 1 → j &&& x = j → inR l j) := Lib.hid (fun j hj h => by
                    rcases (show j < k ∨ j = k by omega) with h1 | rfl
                    · exact HIN.out j h1 h
                    · exact hr)
                  have hr2 : -1000 ≤ l.getD k 0 ∧ l.getD k 0 ≤ 1000 := hr
                  have HI := Lib.hid (Widths.in_yes _ _ _ hr2)
                  generalize toS l x k = s at *
                  generalize l.getD k 0 = y at *
                  generalize k &&& x = z at *
                  clear hs hr
                  go_wp2_with fail
                  refine (HI.out _).mono ?_
                  rintro e w1 ⟨rfl, rfl⟩
                  go_wp2_with fail
                  go_round
                  case rel => exact ⟨k + 1, by go_num, by rw [HS.out], by omega, HIN2⟩
                  case measure => simp [intOf] <;> omega
                · have HBAD : Hid (r = (0, 0, false)) := Lib.hid (HR.out.bad fun hg => hr (hg.1 k (by rw [← HL.out]; exact hkl)))
                  have HI := Lib.hid (Widths.in_no _ _ _ hr)
                  generalize toS l x k = s at *
                  generalize l.getD k 0 = y at *
                  generalize k &&& x = z at *
                  clear hs hr
                  go_wp2_with fail
                  refine (HI.out _).mono ?_
                  rintro e w1 ⟨rfl, rfl⟩
                  go_wp2_with fail
                  exact bodyPost_ret (v := .tuple #[.agg #[.int .i64 0, .int .i64 0], .bool false]) (by simp [results, Tryz.results22, go_sem]) rfl ⟨by rw [HBAD.out], (Below.refl _ _).alloc (Nat.le_refl _) _⟩
              · have hne : (((k &&& x : Nat) : Int) != (k : Int)) = true := by rw [bne_iff_ne]; omega
                have HS := Lib.hid (toS_no (l := l) hs)
                have HIN2 : Hid (∀ j, j < k + 1 → j &&& x = j → inR l j) := Lib.hid (fun j hj h => by
                  rcases (show j < k ∨ j = k by omega) with h1 | rfl
                  · exact HIN.out j h1 h
                  · exact absurd h hs)
                generalize toS l x k = s at *
                generalize k &&& x = z at *
                clear hs
                go_wp2_with fail
                go_round
                case rel => exact ⟨k + 1, by go_num, by rw [HS.out], by omega, HIN2⟩
                case measure => simp [intOf] <;> omega
            · obtain rfl : k = x + 1 := by omega
              have HV : Hid (toV l x = toS l x (x + 1)) := Lib.hid rfl
              have HINX : Hid (inR l x) := Lib.hid (HIN.out x (by omega) (Nat.and_self x))
              generalize toS l x (x + 1) = s at *
              by_cases hs01 : 0 ≤ s ∧ s ≤ 1
              · have HI := Lib.hid (Widths.in_yes _ _ _ hs01)
                have HOK2 : Hid (∀ y, y < x + 1 → inR l y ∧ 0 ≤ toV l y ∧ toV l y ≤ 1) := Lib.hid (fun y hy => by
                  rcases (show y < x ∨ y = x by omega) with h1 | rfl
                  · exact HOK.out y h1
                  · exact ⟨HINX.out, by rw [HV.out]; exact hs01⟩)
                have HTN : Hid (toN l x = s.toNat) := Lib.hid (by unfold toN; rw [HV.out])
                rcases (show s = 0 ∨ s = 1 by omega) with rfl | rfl
                · have hor := or0_i64 T htb
                  have HX : Hid (tabN (toN l) (x + 1) = T) := Lib.hid (by rw [tabN_no (by rw [HTN.out]; decide), HT.out])
                  clear hs01
                  go_wp2_with fail
                  refine (HI.out _).mono ?_
                  rintro e w1 ⟨rfl, rfl⟩
                  go_wp2_with fail
                  go_round
                  case rel => exact ⟨x + 1, by go_num, by rw [HX.out], by omega, HOK2⟩
                  case measure => simp [intOf] <;> omega
                · have hor := orbit_i64 T x htb (by omega)
                  have HX : Hid (tabN (toN l) (x + 1) = T ||| 2 ^ x) := Lib.hid (by rw [tabN_yes (by rw [HTN.out]; decide), HT.out])
                  clear hs01
                  go_wp2_with fail
                  refine (HI.out _).mono ?_
                  rintro e w1 ⟨rfl, rfl⟩
                  go_wp2_with fail
                  go_round
                  case rel => exact ⟨x + 1, by go_num, by rw [HX.out], by omega, HOK2⟩
                  case measure => simp [intOf] <;> omega
              · have HBAD : Hid (r = (0, 0, false)) := Lib.hid (HR.out.bad fun hg => hs01 (by have := hg.2 x (by rw [← HL.out]; exact hxl); rwa [HV.out] at this))
                have HI := Lib.hid (Widths.in_no _ _ _ hs01)
                clear hs01
                go_wp2_with fail
                refine (HI.out _).mono ?_
                rintro e w1 ⟨rfl, rfl⟩
                go_wp2_with fail
                exact bodyPost_ret (v := .tuple #[.agg #[.int .i64 0, .int .i64 0], .bool false]) (by simp [results, Tryz.results22, go_sem]) rfl ⟨by rw [HBAD.out], (Below.refl _ _).alloc (Nat.le_refl _) _⟩
        · obtain rfl : x = l.length := by omega
          have HG : Hid (r = ((n : Int), (tabN (toN l) l.length : Int), true)) := Lib.hid (by
            rw [HL.out]
            exact HR.out.good ⟨fun j hj => (HOK.out j (by rw [HL.out]; exact hj)).1, fun y hy => (HOK.out y (by rw [HL.out]; exact hy)).2⟩)
          generalize tabN (toN l) l.length = T at *
          go_wp2_with fail
          exact bodyPost_ret (v := .tuple #[.agg #[.int .i64 n, .int .i64 T], .bool true]) (by simp [results, Tryz.results22, go_sem]) rfl ⟨by rw [HG.out], by repeat (first | exact (Below.refl _ _).alloc (Nat.le_refl _) _ | refine bS (by simp) ?_)⟩

end Go.Proofs.YtphjaggiddjhgaaGreatDoor
