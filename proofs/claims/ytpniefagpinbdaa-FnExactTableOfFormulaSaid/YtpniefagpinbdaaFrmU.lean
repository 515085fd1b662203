/-
  Chapter 5: TableOfFormula of the model.
-/
import Derived.Test.YtpniefagpinbdaaFrmT
namespace Go.Proofs.Ytpniefagpinbdaa
open Go.RowKit Plain Go.Shelf
set_option linter.unusedVariables false


theorem bigL_let {m : Nat} {c : UInt8} (h : bigL m c = true) : ∃ i, i < 5 ∧ m ≤ i ∧ (c.toNat : Int) = 97 + (i : Int) := by
  have hall : ∀ m, m < 6 → ∀ n, n < 256 → bigL m (UInt8.ofNat n) = true → ∃ i, i < 5 ∧ m ≤ i ∧ (UInt8.ofNat n).toNat = 97 + i := by decide +kernel
  by_cases hm : m < 6
  · have := hall m hm c.toNat (UInt8.toNat_lt c)
    rw [UInt8.ofNat_toNat] at this
    obtain ⟨i, h1, h2, h3⟩ := this h
    exact ⟨i, h1, h2, by omega⟩
  · unfold bigL at h
    rw [List.drop_eq_nil_of_le (by simp; omega)] at h
    cases h
theorem bigL_not {m : Nat} {c : UInt8} (h : bigL m c = false) : (c.toNat : Int) < 97 ∨ 101 < (c.toNat : Int) ∨ ∃ i, i < 5 ∧ i < m ∧ (c.toNat : Int) = 97 + (i : Int) := by
  have hall : ∀ m, m < 6 → ∀ n, n < 256 → bigL m (UInt8.ofNat n) = false → (UInt8.ofNat n).toNat < 97 ∨ 101 < (UInt8.ofNat n).toNat ∨ ∃ i, i < 5 ∧ i < m ∧ (UInt8.ofNat n).toNat = 97 + i := by decide +kernel
  by_cases hm : m < 6
  · have := hall m hm c.toNat (UInt8.toNat_lt c)
    rw [UInt8.ofNat_toNat] at this
    rcases this h with h | h | ⟨i, h1, h2, h3⟩
    · exact .inl (by omega)
    · exact .inr (.inl (by omega))
    · exact .inr (.inr ⟨i, h1, h2, by omega⟩)
  · by_cases h1 : (c.toNat : Int) < 97
    · exact .inl h1
    · by_cases h2 : 101 < (c.toNat : Int)
      · exact .inr (.inl h2)
      · exact .inr (.inr ⟨c.toNat - 97, by omega, by omega, by omega⟩)

set_option maxRecDepth 100000 in
set_option maxHeartbeats 2000000 in
theorem Tof.model_in (s : ByteArray) (m : Nat) (hm : m ≤ 5) (f : Frm) (h : asF (lst s) = some f) (w : World) :
    Calls Try.prog 13 #[.string s, .int .i64 (m : Int)] w fun e w' => e = .returned (.tuple #[.agg #[.int .i64 (tofV s m).1, .int .i64 (tofV s m).2.1], .bool (tofV s m).2.2]) ∧ Below w.heap.size w w' := by
  obtain ⟨hp1, hp2⟩ := two_pow_int m hm
  have HI := Is.model_yes h
  have HB := Lib.hid (Widths.in_yes (m : Int) 0 5 (by omega))
  have h60 : (s.size : Int) ≤ 60 := by have := size_60 h; omega
  have HV : Hid (∀ x : Nat, x < 2 ^ m → ∀ w, Calls Try.prog 31 #[.string s, .int .i64 0, .int .i64 (x : Int)] w fun e w' => e = .returned (.bool (val x f)) ∧ w = w') :=
    Lib.hid fun x hx w => Value.model s h60 x (pow5 hm hx) f 0 w (At.all h)
  have HBIG : Hid (∀ k (hk : k < s.size), bigL m s[k] = true → tofV s m = (0, 0, false)) := Lib.hid fun k hk hc => tofV_big h (take_any_true hk hc)
  have HYES : Hid (((lst s).take s.size).any (bigL m) = false → tofV s m = ((m : Int), (tabN (vN f) (2 ^ m) : Int), true)) := Lib.hid fun hx => by
    rw [take_all] at hx
    exact tofV_yes h hm hx
  have HXS := Lib.hid (take_any (bigL m) s)
  have HTB := Lib.hid (fun y hy => tabN_bound (vN f) y hy)
  have HVN : Hid (∀ x, val x f = true → vN f x = 1) := Lib.hid fun x hx => by unfold vN; rw [hx]; rfl
  have HVN0 : Hid (∀ x, val x f = false → vN f x ≠ 1) := Lib.hid fun x hx => by unfold vN; rw [hx]; decide
  clear h
  go_enter Try.func13, Try.ntmps13
  go_wp2_with fail
  refine (HI.out _).mono ?_
  rintro e w1 ⟨rfl, rfl⟩
  go_wp2_with fail
  refine (HB.out _).mono ?_
  rintro e w1 ⟨rfl, rfl⟩
  go_wp2_with fail
  go_loop [6] (fun i => ∃ k : Nat, k ≤ s.size ∧ i = .int .i64 (k : Int) ∧ ((lst s).take k).any (bigL m) = false) (fun i => 61 - (intOf i).toNat)
  case atStart => exact ⟨0, Nat.zero_le _, rfl, rfl⟩
  case round =>
    obtain ⟨k, hk, rfl, hx⟩ := hrel
    have HX := Lib.hid hx
    clear hx
    by_cases hlt : k < s.size
    · cases hbig : bigL m s[k] with
      | true =>
        obtain ⟨i, hi5, hmi, hq⟩ := bigL_let hbig
        have HR := Lib.hid (HBIG.out k hlt hbig)
        have hmi' : (m : Int) ≤ (i : Int) := by omega
        have g1 : (97 : Int) ≤ (s[k].toNat : Int) := by omega
        have g2 : (s[k].toNat : Int) ≤ 101 := by omega
        have g3 : (m : Int) ≤ (s[k].toNat : Int) - 97 := by omega
        clear hbig hq hmi hi5 hmi'
        go_wp2_with fail
        exact bodyPost_ret (v := .tuple #[.agg #[.int .i64 0, .int .i64 0], .bool false]) (by simp [results, Try.results13, go_sem]) rfl ⟨by rw [HR.out], by repeat (first | (with_reducible exact Below.refl _ _) | ((with_reducible refine bS ?_ ?_); (focus (dsimp only; omega))) | ((with_reducible refine bA ?_ ?_); (focus (first | omega | (simp; done) | (simp; omega)))))⟩
      | false =>
        have HX' : Hid (((lst s).take (k + 1)).any (bigL m) = false) := Lib.hid (by rw [HXS.out k hlt, HX.out, hbig]; rfl)
        rcases bigL_not hbig with hq | hq | ⟨i, hi5, hmi, hq⟩
        · have d1 : decide ((97 : Int) ≤ (s[k].toNat : Int)) = false := decide_eq_false (by omega)
          clear hbig hq
          go_wp2_with fail
          go_round
          case rel => first | exact ⟨k + 1, by omega, by go_num, HX'.out⟩ | ((repeat apply Exists.intro); exact ⟨⟨k + 1, by omega, by go_num, HX'.out⟩, rfl⟩)
          case measure => simp [intOf]; omega
        · have g1 : (97 : Int) ≤ (s[k].toNat : Int) := by omega
          have d2 : decide ((s[k].toNat : Int) ≤ 101) = false := decide_eq_false (by omega)
          clear hbig hq
          go_wp2_with fail
          go_round
          case rel => first | exact ⟨k + 1, by omega, by go_num, HX'.out⟩ | ((repeat apply Exists.intro); exact ⟨⟨k + 1, by omega, by go_num, HX'.out⟩, rfl⟩)
          case measure => simp [intOf]; omega
        · have g1 : (97 : Int) ≤ (s[k].toNat : Int) := by omega
          have g2 : (s[k].toNat : Int) ≤ 101 := by omega
          have d3 : decide ((m : Int) ≤ (s[k].toNat : Int) - 97) = false := decide_eq_false (by omega)
          clear hbig hq hmi hi5
          go_wp2_with fail
          go_round
          case rel => first | exact ⟨k + 1, by omega, by go_num, HX'.out⟩ | ((repeat apply Exists.intro); exact ⟨⟨k + 1, by omega, by go_num, HX'.out⟩, rfl⟩)
          case measure => simp [intOf]; omega
    · obtain rfl : k = s.size := by omega
      have HR := Lib.hid (HYES.out HX.out)
      go_wp2_with fail
      go_loop [7, 8] (fun a x => ∃ y : Nat, x = .int .i64 (y : Int) ∧ a = .int .i64 (tabN (vN f) y : Int) ∧ (y : Int) ≤ 2 ^ m) (fun _ x => 33 - (intOf x).toNat)
      case atStart => exact ⟨0, rfl, rfl, by omega⟩
      case round =>
        obtain ⟨y, rfl, rfl, hy⟩ := hrel
        by_cases hly : (y : Int) < 2 ^ m
        · have hy2 : y < 2 ^ m := by rw [up2] at hly; omega
          have hvb := HTB.out y (by omega)
          have HO := Lib.hid (orbit_i64 (tabN (vN f) y) y hvb (by omega))
          have HC := HV.out y hy2
          cases hval : val y f with
          | true =>
            have HT := Lib.hid (tabN_yes (HVN.out y hval))
            rw [hval] at HC
            replace HC := Lib.hid HC
            clear hval hy2
            go_wp2_with fail
            refine (HC.out _).mono ?_
            rintro e w3 ⟨rfl, rfl⟩
            go_wp2_with fail
            go_round
            case rel => exact ⟨y + 1, by go_num, by rw [HT.out, HO.out], by omega⟩
            case measure => simp [intOf]; omega
          | false =>
            have HT := Lib.hid (tabN_no (HVN0.out y hval))
            rw [hval] at HC
            replace HC := Lib.hid HC
            clear hval hy2
            go_wp2_with fail
            refine (HC.out _).mono ?_
            rintro e w3 ⟨rfl, rfl⟩
            go_wp2_with fail
            go_round
            case rel => exact ⟨y + 1, by go_num, by rw [HT.out], by omega⟩
            case measure => simp [intOf]; omega
        · have he : y = 2 ^ m := by rw [up2] at hy hly; omega
          have HE : Hid (tabN (vN f) y = tabN (vN f) (2 ^ m)) := Lib.hid (by rw [he])
          clear he
          go_wp2_with fail
          exact bodyPost_ret (v := .tuple #[.agg #[.int .i64 (m : Int), .int .i64 (tabN (vN f) y : Int)], .bool true]) (by simp [results, Try.results13, go_sem]) rfl ⟨by rw [HR.out, HE.out], by repeat (first | (with_reducible exact Below.refl _ _) | ((with_reducible refine bS ?_ ?_); (focus (dsimp only; omega))) | ((with_reducible refine bA ?_ ?_); (focus (first | omega | (simp; done) | (simp; omega)))))⟩

theorem Tof.model (s : ByteArray) (n : Int) (w : World) :
    Calls Try.prog 13 #[.string s, .int .i64 n] w fun e w' => e = .returned (.tuple #[.agg #[.int .i64 (tofV s n).1, .int .i64 (tofV s n).2.1], .bool (tofV s n).2.2]) ∧ Below w.heap.size w w' := by
  cases h : asF (lst s) with
  | none =>
    have HI := Is.model_no h
    rw [tofV_none n h]
    clear h
    go_enter Try.func13, Try.ntmps13
    go_wp2_with fail
    refine (HI.out _).mono ?_
    rintro e w1 ⟨rfl, rfl⟩
    go_wp2
    exact bodyPost_ret (v := .tuple #[.agg #[.int .i64 0, .int .i64 0], .bool false]) (by simp [results, Try.results13, go_sem]) rfl ⟨rfl, by repeat (first | (with_reducible exact Below.refl _ _) | ((with_reducible refine bS ?_ ?_); (focus (dsimp only; omega))) | ((with_reducible refine bA ?_ ?_); (focus (first | omega | (simp; done) | (simp; omega)))))⟩
  | some f =>
    by_cases hn : 0 ≤ n ∧ n ≤ 5
    · obtain ⟨m, rfl⟩ := Int.eq_ofNat_of_zero_le hn.1
      exact Tof.model_in s m (by omega) f h w
    · have HI := Is.model_yes h
      have HB := Lib.hid (Widths.in_no n 0 5 hn)
      rw [tofV_out h hn]
      clear h hn
      go_enter Try.func13, Try.ntmps13
      go_wp2_with fail
      refine (HI.out _).mono ?_
      rintro e w1 ⟨rfl, rfl⟩
      go_wp2_with fail
      refine (HB.out _).mono ?_
      rintro e w1 ⟨rfl, rfl⟩
      go_wp2
      exact bodyPost_ret (v := .tuple #[.agg #[.int .i64 0, .int .i64 0], .bool false]) (by simp [results, Try.results13, go_sem]) rfl ⟨rfl, by repeat (first | (with_reducible exact Below.refl _ _) | ((with_reducible refine bS ?_ ?_); (focus (dsimp only; omega))) | ((with_reducible refine bA ?_ ?_); (focus (first | omega | (simp; done) | (simp; omega)))))⟩


end Go.Proofs.Ytpniefagpinbdaa
