/-
  Chapter 8: the program's functions on what is left (isKnown, whatIsLeft, harderAnswer, ForcedLeft, AdversaryAnswer, IsEvasive, AskedOf).
-/
import Derived.Test.YtdhdkonokbkdoaaPlainL
import Derived.Test.YtdhdkonokbkdoaaLdJ
import Derived.Test.YtdhdkonokbkdoaaBtN
namespace Go.Proofs.Ytdhdkonokbkdoaa
open Go.RowKit Plain
set_option linter.unusedVariables false

theorem andn_all : ∀ x < 16, ∀ m < 16, Go.bits .andNot .i64 ((x : Nat) : Int) ((m : Nat) : Int) = (((x ^^^ (x &&& m)) : Nat) : Int) := by decide +kernel
theorem mix_go {x m v : Nat} (hx : x < 16) (hm : m < 16) (hv : v < 16) : Go.bits .or .i64 (Go.bits .andNot .i64 (x : Int) (m : Int)) (v : Int) = ((mixX m v x : Nat) : Int) := by
  rw [andn_all x hx m hm, or64 _ _ (by have : x ^^^ (x &&& m) < 2 ^ 4 := Nat.xor_lt_two_pow hx (Nat.lt_of_le_of_lt Nat.and_le_left hx); omega) (by omega)]
  rfl

def Plain.knB (n a m v : Int) : Bool := decide (cubOk n a m v ∧ n ≤ 4)
theorem knB_yes {n a m v : Int} (h : knB n a m v = true) : ∃ n' a' m' v' : Nat, n = n' ∧ a = a' ∧ m = m' ∧ v = v' ∧ n' ≤ 4 ∧ a' ≤ fullN n' ∧ m' < 2 ^ n' ∧ v' &&& m' = v' := by
  unfold knB at h
  obtain ⟨⟨h1, ⟨h2, h3⟩, h4, h5⟩, h6⟩ := of_decide_eq_true h
  obtain ⟨n', a', rfl, rfl, hn, ha⟩ := isT_nat h1
  obtain ⟨m', rfl⟩ := Int.eq_ofNat_of_zero_le h2
  obtain ⟨v', rfl⟩ := Int.eq_ofNat_of_zero_le h4
  refine ⟨n', a', m', v', rfl, rfl, rfl, rfl, by omega, ha, ?_, h5⟩
  have : ((m' : Nat) : Int) < ((2 ^ n' : Nat) : Int) := by push_cast; exact h3
  omega
theorem knB_in {n a m v : Nat} (hn : n ≤ 4) (ha : a ≤ fullN n) (hm : m < 2 ^ n) (hv : v &&& m = v) : knB n a m v = true := by
  unfold knB
  refine decide_eq_true ⟨⟨isT_yes (by omega) ha, ⟨by omega, ?_⟩, by omega, hv⟩, by omega⟩
  have : ((m : Nat) : Int) < ((2 ^ n : Nat) : Int) := by omega
  push_cast at this
  exact this

set_option maxRecDepth 100000 in
/-- isKnown. -/
theorem Kn.any (n a m v : Int) (hb : -9223372036854775808 ≤ a ∧ a ≤ 9223372036854775807) (hv : -9223372036854775808 ≤ v ∧ v ≤ 9223372036854775807) (w : World) :
    Calls Try.prog 40 #[.agg #[.int .i64 n, .int .i64 a], .int .i64 m, .int .i64 v] w fun e w' => e = .returned (.bool (knB n a m v)) ∧ Below w.heap.size w w' := by
  have HH := Lib.hid (Hb.any n a hb)
  cases hc : btB n a with
  | false =>
    have HE : Hid (knB n a m v = false) := Lib.hid (decide_eq_false fun h => btB_out hc ⟨h.1.1, h.2⟩)
    rw [HE.out]
    rw [hc] at HH
    clear hc hb hv HE
    go_enter Try.func40, Try.ntmps40
    go_wp2_with fail
    refine (HH.out _).mono ?_
    rintro e w1 ⟨rfl, hb1⟩
    obtain ⟨hc1, hf1⟩ := bcell hb1
    go_wp2
    go_ret
    exact ⟨rfl, bB hb1 (by simp) (bA (Nat.le_refl _) (Below.refl _ _))⟩
  | true =>
    rw [hc] at HH
    obtain ⟨k, x, rfl, rfl, hk, hx, ht⟩ := btB_yes hc
    have HC : Hid (∀ w, Calls Try.prog 57 #[.int .i64 (k : Int), .int .i64 m, .int .i64 v] w fun e w' => e = .returned (.bool (knB k x m v)) ∧ w = w') := Lib.hid fun w => by
      by_cases hm : 0 ≤ m ∧ m < 2 ^ k
      · obtain ⟨m', rfl⟩ := Int.eq_ofNat_of_zero_le hm.1
        by_cases hvv : 0 ≤ v ∧ v.toNat &&& m' = v.toNat
        · obtain ⟨v', rfl⟩ := Int.eq_ofNat_of_zero_le hvv.1
          rw [show knB k x (m' : Nat) (v' : Nat) = true from decide_eq_true ⟨⟨ht, hm, hvv⟩, by omega⟩]
          exact Tab.isCube_yes k m' v' (by omega) hm.2 hvv.2 w
        · rw [show knB k x (m' : Nat) v = false from decide_eq_false fun h => hvv ⟨h.1.2.2.1, h.1.2.2.2⟩]
          exact Tab.isCube_no2 k m' v (by omega) hm.2 hv hvv w
      · rw [show knB k x m v = false from decide_eq_false fun h => hm ⟨h.1.2.1.1, by have := h.1.2.1.2; rwa [Int.toNat_natCast] at this⟩]
        exact Tab.isCube_no1 k m v (by omega) hm w
    generalize knB k x m v = r at *
    clear hc hb hv hx ht
    go_enter Try.func40, Try.ntmps40
    go_wp2_with fail
    refine (HH.out _).mono ?_
    rintro e w1 ⟨rfl, hb1⟩
    obtain ⟨c0, c1, f0, f1⟩ := cells2 (blockB hb1 (heap_alloc_new w _))
    go_wp2_with fail
    refine (HC.out _).mono ?_
    rintro e w2 ⟨rfl, rfl⟩
    go_wp2
    go_ret
    exact ⟨rfl, bB hb1 (by simp) (bA (Nat.le_refl _) (Below.refl _ _))⟩

/-- What whatIsLeft reads. -/
theorem Clo.kept (p q r a m v x : Nat) (hx : x < 16) (hm : m < 16) (hv : v < 16) (ha : (a : Int) ≤ 4294967295) (W : World)
    (hp : W.cell? ⟨p, 0, none⟩ = some (.int .u64 (a : Int))) (hq : W.cell? ⟨q, 0, none⟩ = some (.int .i64 (m : Int))) (hr : W.cell? ⟨r, 0, none⟩ = some (.int .i64 (v : Int))) :
    Calls Try.prog 59 #[.int .i64 x, .pointer (some ⟨p, 0, none⟩), .pointer (some ⟨q, 0, none⟩), .pointer (some ⟨r, 0, none⟩)] W fun e w' => e = .returned (.int .i64 (bitN a (mixX m v x) : Int)) ∧ W = w' := by
  have HG := Lib.hid (mix_go hx hm hv)
  have HL : Hid (mixX m v x < 16) := Lib.hid (by
    unfold Plain.mixX
    have h16 : (16 : Nat) = 2 ^ 4 := rfl
    rw [h16] at *
    exact Nat.or_lt_two_pow (Nat.xor_lt_two_pow hx (Nat.lt_of_le_of_lt Nat.and_le_left hx)) hv)
  clear hx hm hv
  go_enter Try.func59, Try.ntmps59
  go_wp2_with fail
  rw [HG.out]
  refine (Tab.at a _ (by omega) (by have := HL.out; omega) _).mono ?_
  rintro e w1 ⟨rfl, rfl⟩
  go_wp2
  go_ret
  exact ⟨rfl, rfl⟩

set_option maxRecDepth 100000 in
set_option maxHeartbeats 1000000 in
/-- whatIsLeft. -/
theorem Left.any (n a m v : Nat) (hn : n ≤ 4) (ha : (a : Int) ≤ 4294967295) (hm : m < 2 ^ n) (hv : v &&& m = v) (w : World) :
    Calls Try.prog 42 #[.agg #[.int .i64 (n : Int), .int .i64 (a : Int)], .int .i64 (m : Int), .int .i64 (v : Int)] w fun e w' => e = .returned (.agg #[.int .i64 (n : Int), .int .i64 (keptW n a m v : Int)]) ∧ Below w.heap.size w w' := by
  have h16 : 2 ^ n ≤ 16 := Nat.pow_le_pow_right (n := 2) (by decide) hn
  have hm16 : m < 16 := by omega
  have hv16 : v < 16 := Nat.lt_of_le_of_lt (by rw [← hv]; exact Nat.and_le_right) hm16
  have HN := Lib.hid hn
  have H16 := Lib.hid h16
  clear hm hv hn h16
  go_enter Try.func42, Try.ntmps42
  go_wp2_with fail
  refine (Tab.from_any n (by have := HN.out; omega) (fun x => bitN a (mixX m v x)) 59 #[.pointer (some ⟨w.heap.size + 1 + 1 + 1 + 1, 0, none⟩), .pointer (some ⟨w.heap.size + 1, 0, none⟩), .pointer (some ⟨w.heap.size + 1 + 1, 0, none⟩)] (enters_of Try.func59 (by kernel_rfl) rfl) _ ?gv).mono ?_
  case gv => exact .of_same fun W x hx hbb => Clo.kept _ _ _ a m v x (by have := H16.out; omega) hm16 hv16 ha W (cellOn hbb (by repeat (first | (exact keepN (by simp) rfl) | (refine keepA ?_)))) (cellOn hbb (by repeat (first | (exact keepN (by simp) rfl) | (refine keepA ?_)))) (cellOn hbb (by repeat (first | (exact keepN (by simp) rfl) | (refine keepA ?_))))
  rintro e w1 ⟨rfl, hb1⟩
  have hs1 : w.heap.size + 1 + 1 + 1 + 1 < w1.heap.size := by have := hb1.size; simp at this; omega
  have c0 : w1.cell? ⟨w.heap.size + 1 + 1 + 1, 0, none⟩ = some (.int .i64 0) := keepB hb1 (by repeat (first | (exact keepN (by simp) rfl) | (refine keepA ?_)))
  have c1 : w1.cell? ⟨w.heap.size + 1 + 1 + 1, 1, none⟩ = some (.int .i64 0) := keepB hb1 (by repeat (first | (exact keepN (by simp) rfl) | (refine keepA ?_)))
  obtain ⟨hc1, hf1⟩ := bcell hb1
  go_wp2
  obtain ⟨k0, k1⟩ := keepT (Y := w1) (g := w.heap.size + 1 + 1 + 1) (u := .int .i64 (n : Int)) (v := .int .i64 (tabN (fun x => bitN a (mixX m v x)) (2 ^ n) : Int)) c0 c1
  refine bodyPost_ret (v := .agg #[.int .i64 (n : Int), .int .i64 (tabN (fun x => bitN a (mixX m v x)) (2 ^ n) : Int)]) (by simp [results, Try.results42, go_sem, k0, k1]) rfl ?_
  exact ⟨rfl, by
    repeat (first | (with_reducible exact Below.refl _ _) | ((with_reducible refine bS ?_ ?_); (focus (dsimp only; omega))) | ((with_reducible refine bB hb1 ?_ ?_); (focus (first | omega | (simp; done) | (simp; omega)))) | ((with_reducible refine bA ?_ ?_); (focus (first | omega | (simp; done) | (simp; omega)))))⟩

end Go.Proofs.Ytdhdkonokbkdoaa
