/-
  Chapter 11: FormatAnf of the model.
-/
import Derived.Test.YtphjaggiddjhgaaDoorDegN
import Derived.Test.YtphjaggiddjhgaaDoorDegQ
import Derived.Test.YtphjaggiddjhgaaDoorTrmF
namespace Go.Proofs.YtphjaggiddjhgaaDoor
open Go.RowKit Plain
set_option linter.unusedVariables false

theorem isTm_self {n m : Nat} (hn : n ≤ 5) (hm : m < 2 ^ n) : isTm n m m = true := isTm_yes hn hm (Nat.and_self m)
/-- FormatTerm of a product. -/
theorem Prd.model (n m : Nat) (hn : n ≤ 5) (hm : m < 2 ^ n) (w : World) :
    Calls Tryd.prog 33 #[.int .i64 n, .agg #[.int .i64 m, .int .i64 m]] w fun e w' => e = .returned (.string ⟨(prT n m).toArray⟩) ∧ Below w.heap.size w w' := by
  have h := Trm.fmtM n m m w
  rwa [fmtTm_yes (isTm_self hn hm)] at h

theorem Fm.model_no (n a : Int) (ht : isT n a = false) (w : World) :
    Calls Tryd.prog 25 #[.agg #[.int .i64 n, .int .i64 a]] w fun e w' => e = .returned (.string ⟨(fmT n a).toArray⟩) ∧ Below w.heap.size w w' := by
  rw [fmT_no ht]
  have H := Lib.hid ht
  clear ht
  go_enter Tryd.func25, Tryd.ntmps25
  go_wp2_with fail
  refine (Tab.model _ _ _).mono ?_
  rintro e w1 ⟨rfl, hb1⟩
  rw [H.out]
  obtain ⟨hc1, hf1⟩ := bcell hb1
  go_wp2_with fail
  go_ret
  exact ⟨rfl, ((Below.refl _ _).alloc (Nat.le_refl _) _).trans (hb1.mono (by simp))⟩

theorem str_ne (l : List UInt8) (h : l ≠ []) : l.isEmpty = false := by
  cases l with
  | nil => exact absurd rfl h
  | cons _ _ => rfl

set_option maxRecDepth 100000 in
set_option maxHeartbeats 1000000 in
theorem Fm.model_yes (n a : Nat) (hn : n ≤ 5) (ha : (a : Int) ≤ 4294967295) (ht : isT n a = true) (w : World) :
    Calls Tryd.prog 25 #[.agg #[.int .i64 n, .int .i64 a]] w fun e w' => e = .returned (.string ⟨(fmT n a).toArray⟩) ∧ Below w.heap.size w w' := by
  rw [fmT_yes ht]
  have H := Lib.hid ht
  have HN := Lib.hid hn
  have HFM := Lib.hid (fmA_jn (a := a) hn)
  have HW := Lib.hid (Anf.word n a hn ha)
  have HBT : Hid (∀ m, m < 2 ^ n → bitN (anW n a) m = anN a m) := Lib.hid (fun m hm => anW_bit hm)
  have hr : (anW n a : Int) ≤ 4294967295 := by have := anW_le n a; have := fullN_le n hn; omega
  obtain ⟨hp1, hp2⟩ := two_pow_int n hn
  have hn5 : (n : Int) ≤ 5 := by omega
  generalize anW n a = r at *
  clear ht hn
  go_enter Tryd.func25, Tryd.ntmps25
  go_wp2_with fail
  refine (Tab.model _ _ _).mono ?_
  rintro e w1 ⟨rfl, hb1⟩
  rw [H.out]
  have k0 : w1.cell? ⟨w.heap.size, 0, none⟩ = some (.int .i64 n) := keepB hb1 (keepN rfl rfl)
  have k1 : w1.cell? ⟨w.heap.size, 1, none⟩ = some (.int .i64 a) := keepB hb1 (keepN rfl rfl)
  have HB1 := Lib.hid (((Below.refl w.heap.size w).alloc (Nat.le_refl _) (.cells #[.int .i64 n, .int .i64 a] 23)).trans (hb1.mono (by simp)))
  clear hb1
  go_wp2_with fail
  refine (HW.out _).mono ?_
  rintro e w2 ⟨rfl, hb2⟩
  have m0 := keepB hb2 k0
  have HM0 := Lib.hid m0
  have HB2 := Lib.hid (bB hb2 HB1.out.size HB1.out)
  clear hb2 k0 k1 m0
  go_wp2_with fail
  go_loopw [3, 5] (fun s i wr => ∃ k : Nat, i = .int .i64 (k : Int) ∧ s = .string ⟨(jnL (anP a) n k).toArray⟩ ∧ (k : Int) ≤ 2 ^ n ∧ wr.cell? ⟨w.heap.size, 0, none⟩ = some (.int .i64 n) ∧ Below w.heap.size w wr) (fun _ i _ => 32 - (intOf i).toNat)
  case atStart => exact ⟨0, rfl, rfl, by omega, HM0.out, HB2.out⟩
  case round =>
    obtain ⟨k, rfl, rfl, hk, c0, hbel⟩ := hrel
    have HC0 := Lib.hid c0
    have HBEL := Lib.hid hbel
    have hzr := hbel.size
    clear hbel
    have hkn : k ≤ 2 ^ n := by rw [up2] at hk; omega
    have hjl := jnL_len (p := anP a) HN.out hkn
    have hlz : ((jnL (anP a) n k).length : Int) ≤ 192 := by omega
    by_cases hlt : (k : Int) < 2 ^ n
    · have hk2 : k < 2 ^ n := by rw [up2] at hlt; omega
      have hbit := bit_i64 r k (by omega)
      rw [HBT.out k hk2] at hbit
      have hb2 := anN_lt a k
      have HP : Hid (anP a k = decide (anN a k = 1)) := Lib.hid rfl
      rcases (show anN a k = 0 ∨ anN a k = 1 by omega) with h0 | h0
      · have HD : Hid (jnL (anP a) n (k + 1) = jnL (anP a) n k) := Lib.hid (jnL_no (by rw [HP.out, h0]; rfl))
        rw [h0] at hbit
        generalize jnL (anP a) n k = l at *
        clear h0 hb2 hk2 hkn hjl
        go_wp2_with fail
        go_roundw
        case rel => exact ⟨k + 1, by go_num, by rw [HD.out], by omega, HC0.out, HBEL.out⟩
        case measure => simp [intOf] <;> omega
      · have hp : anP a k = true := by rw [HP.out, h0]; rfl
        have HPR := Lib.hid (Prd.model n k HN.out hk2)
        have h5 := (prT_ok HN.out hk2).2.2.1
        have h5z : ((prT n k).length : Int) ≤ 5 := by omega
        rw [h0] at hbit
        by_cases he : jnL (anP a) n k = []
        · have HD := Lib.hid (jnL_first HN.out hk2 hp he)
          rw [he] at hlz ⊢
          generalize prT n k = q at *
          clear h0 hb2 hk2 hkn hjl hp he h5
          go_wp2_with fail
          refine (HPR.out _).mono ?_
          rintro e w3 ⟨rfl, hb3⟩
          have HC3 := Lib.hid (keepB hb3 HC0.out)
          have HB3 := Lib.hid (bB hb3 hzr HBEL.out)
          clear hb3
          go_wp2_with fail
          go_roundw
          case rel => exact ⟨k + 1, by go_num, by rw [HD.out]; first | rfl | simp [ByteArray.mk_append_mk], by omega, HC3.out, HB3.out⟩
          case measure => simp [intOf] <;> omega
        · have HD := Lib.hid (jnL_next hp he)
          have hs1 := str_ne _ he
          generalize prT n k = q at *
          generalize jnL (anP a) n k = l at *
          clear h0 hb2 hk2 hkn hjl hp he h5
          go_wp2_with fail
          refine (HPR.out _).mono ?_
          rintro e w3 ⟨rfl, hb3⟩
          have HC3 := Lib.hid (keepB hb3 HC0.out)
          have HB3 := Lib.hid (bB hb3 hzr HBEL.out)
          clear hb3
          go_wp2_with fail
          go_roundw
          case rel => exact ⟨k + 1, by go_num, by rw [HD.out]; simp [ByteArray.mk_append_mk], by omega, HC3.out, HB3.out⟩
          case measure => simp [intOf] <;> omega
    · have hke : k = 2 ^ n := by rw [up2] at hlt; omega
      have HE : Hid (fmA n a = if jnL (anP a) n k = [] then [48] else jnL (anP a) n k) := Lib.hid (by rw [hke]; exact HFM.out)
      clear hke hjl hkn
      by_cases he : jnL (anP a) n k = []
      · rw [he] at HE hlz ⊢
        clear he
        go_wp2_with fail
        go_ret
        exact ⟨by rw [HE.out]; rfl, HBEL.out⟩
      · have hs1 := str_ne _ he
        have HE2 : Hid (fmA n a = jnL (anP a) n k) := Lib.hid (by rw [HE.out, if_neg he])
        generalize jnL (anP a) n k = l at *
        clear he HE
        go_wp2_with fail
        go_ret
        exact ⟨by rw [HE2.out]; rfl, HBEL.out⟩

/-- FormatAnf of the model. -/
theorem Fm.model (n a : Int) (w : World) :
    Calls Tryd.prog 25 #[.agg #[.int .i64 n, .int .i64 a]] w fun e w' => e = .returned (.string ⟨(fmT n a).toArray⟩) ∧ Below w.heap.size w w' := by
  cases ht : isT n a with
  | false => exact Fm.model_no n a ht w
  | true =>
    obtain ⟨n, a, rfl, rfl, hn, ha⟩ := isT_nat ht
    exact Fm.model_yes n a hn (by have := fullN_le n hn; omega) ht w

end Go.Proofs.YtphjaggiddjhgaaDoor
