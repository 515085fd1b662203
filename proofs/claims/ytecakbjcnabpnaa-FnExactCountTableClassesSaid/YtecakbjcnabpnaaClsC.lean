/-
  CountTableClasses of the program.
-/
import Derived.Test.YtecakbjcnabpnaaClsO
namespace Go.Proofs.Ytecakbjcnabpnaa
open Go.RowKit Plain
set_option linter.unusedVariables false

theorem Cls.ctcI_no (n : Int) (h : ¬ (0 ≤ n ∧ n ≤ 3)) (w : World) :
    Calls Try.prog 46 #[.int .i64 n] w fun e w' => e = .returned (.int .i64 (-1)) ∧ Below w.heap.size w w' := by
  go_enter Try.func46, Try.ntmps46
  by_cases h0 : n < 0
  · go_wp2
    go_ret
    exact ⟨rfl, Below.refl _ _⟩
  · have h4 : 3 < n := by omega
    go_wp2
    go_ret
    exact ⟨rfl, Below.refl _ _⟩

set_option maxRecDepth 100000 in
set_option maxHeartbeats 1000000 in
theorem Cls.ctcI_yes (n : Nat) (h : n ≤ 3) (w : World) :
    Calls Try.prog 46 #[.int .i64 n] w fun e w' => e = .returned (.int .i64 (clsN n (fullN n + 1) : Int)) ∧ Below w.heap.size w w' := by
  have hmm := @run_makeMap Try.prog
  have H := Lib.hid h
  have hnz : (n : Int) ≤ 3 := by omega
  have hf := full3 h
  have HF := Lib.hid hf
  have hfz : (fullN n : Int) ≤ 255 := by omega
  have HM := Lib.hid (mapIs_made w)
  clear h hf
  go_enter Try.func46, Try.ntmps46
  go_wp2_with fail
  refine (Tab.full n (by have := H.out; omega) _).mono ?_
  rintro e w1 ⟨rfl, rfl⟩
  go_wp2
  clear hmm
  go_loopw [3, 5, 16] (fun m _ x wr => ∃ (k N : Nat) (l : List Nat), x = .int .u64 (k : Int) ∧ k ≤ fullN n + 1 ∧ m = .int .i64 (clsN n k : Int) ∧ MapIs wr w.heap.size N l ∧ Below w.heap.size w wr) (fun _ _ x _ => fullN n + 1 - (intOf x).toNat)
  case atStart => exact ⟨0, 0, [], rfl, by omega, rfl, HM.out, (Below.refl _ _).alloc (Nat.le_refl _) _⟩
  case round =>
    obtain ⟨k, N, l, rfl, hk, rfl, hm, hbel⟩ := hrel
    have HB := Lib.hid hbel
    have HMP := Lib.hid hm
    have hkz : (k : Int) ≤ 256 := by omega
    have hsz := hm.lt
    by_cases hlt : k < fullN n + 1
    · have hltz : (k : Int) < (fullN n : Int) + 1 := by omega
      have hcl := clsN_le n k
      have hcz : (clsN n k : Int) ≤ 256 := by omega
      have HK : Hid (k ≤ fullN n) := Lib.hid (by omega)
      clear hcl hbel hm
      by_cases he : leastW n k = k
      · have HN := Lib.hid (clsN_yes he)
        have HE := Lib.hid he
        clear he
        go_wp2_with fail
        refine (Tab.table n k (by omega) _).mono ?_
        rintro e w2 ⟨rfl, hb2⟩
        have HM2 := Lib.hid (HMP.out.below hb2)
        have HB2 := Lib.hid (bstep HB.out hb2)
        have hs2 := hb2.size
        clear hb2
        go_wp2_with fail
        refine (Map.count n k w.heap.size N l (by have := H.out; omega) HK.out _ HM2.out).mono ?_
        rintro e w3 ⟨rfl, hm3, hg3⟩
        have HM3 := Lib.hid hm3
        have HB3 := Lib.hid (HB2.out.grown hg3 (by omega) (fun j hj => by cases hj; exact Nat.le_refl _))
        clear hm3 hg3
        go_wp2_with fail
        refine (Map.least n (by have := H.out; omega) w.heap.size _ _ (fun x hx => ways_full n k x hx) _ HM3.out).mono ?_
        rintro e w4 ⟨⟨z, rfl, hz1, hz2, hz3⟩, hb4⟩
        obtain rfl := least_is (by have := H.out; omega) HK.out hz2 hz3
        rw [HE.out]
        have HM4 := Lib.hid (HM3.out.below hb4)
        have HB4 := Lib.hid (bstep HB3.out hb4)
        clear hz1 hz2 hz3 hb4
        go_wp2
        go_roundw
        case rel => exact ⟨k + 1, _, _, by go_num, by have := HK.out; omega, by rw [HN.out]; go_num, HM4.out, HB4.out⟩
        case measure => simp [intOf] <;> omega
      · have HN := Lib.hid (clsN_no he)
        have hne : (((leastW n k : Nat) : Int) == (k : Int)) = false := by rw [beq_eq_false_iff_ne]; omega
        have hlz : ((leastW n k : Nat) : Int) ≤ 255 := by have := least_full n k HK.out; omega
        clear he
        go_wp2_with fail
        refine (Tab.table n k (by omega) _).mono ?_
        rintro e w2 ⟨rfl, hb2⟩
        have HM2 := Lib.hid (HMP.out.below hb2)
        have HB2 := Lib.hid (bstep HB.out hb2)
        have hs2 := hb2.size
        clear hb2
        go_wp2_with fail
        refine (Map.count n k w.heap.size N l (by have := H.out; omega) HK.out _ HM2.out).mono ?_
        rintro e w3 ⟨rfl, hm3, hg3⟩
        have HM3 := Lib.hid hm3
        have HB3 := Lib.hid (HB2.out.grown hg3 (by omega) (fun j hj => by cases hj; exact Nat.le_refl _))
        clear hm3 hg3
        go_wp2_with fail
        refine (Map.least n (by have := H.out; omega) w.heap.size _ _ (fun x hx => ways_full n k x hx) _ HM3.out).mono ?_
        rintro e w4 ⟨⟨z, rfl, hz1, hz2, hz3⟩, hb4⟩
        obtain rfl := least_is (by have := H.out; omega) HK.out hz2 hz3
        have HM4 := Lib.hid (HM3.out.below hb4)
        have HB4 := Lib.hid (bstep HB3.out hb4)
        clear hz1 hz2 hz3 hb4
        go_wp2
        go_roundw
        case rel => exact ⟨k + 1, _, _, by go_num, by have := HK.out; omega, by rw [HN.out], HM4.out, HB4.out⟩
        case measure => simp [intOf] <;> omega
    · have HE : Hid (k = fullN n + 1) := Lib.hid (by omega)
      have hgt : (fullN n : Int) + 1 ≤ (k : Int) := by omega
      clear hbel hm
      go_wp2
      go_ret
      exact ⟨by rw [← HE.out]; rfl, HB.out⟩
theorem Cls.ctcI (n : Int) (w : World) :
    Calls Try.prog 46 #[.int .i64 n] w fun e w' => e = .returned (.int .i64 (ctcT n)) ∧ Below w.heap.size w w' := by
  by_cases h : 0 ≤ n ∧ n ≤ 3
  · obtain ⟨m, rfl⟩ := Int.eq_ofNat_of_zero_le h.1
    have hm : m ≤ 3 := by have := h.2; omega
    have := Cls.ctcI_yes m hm w
    rw [← ctcT_yes hm] at this
    exact this
  · rw [ctcT_no h]; exact Cls.ctcI_no n h w
end Go.Proofs.Ytecakbjcnabpnaa
