/-
  All prime terms, by the model.
-/
import Derived.Test.YtkamopckpmiioaaTrmS

namespace Go.Proofs.Ytkamopckpmiioaa
open Go.RowKit Plain
set_option linter.unusedVariables false

def tiL (l : List Tm) : List Ti := l.map fun t => ((t.1 : Int), (t.2 : Int))
theorem tiL_snoc (l : List Tm) (m v : Nat) : tiL (l ++ [(m, v)]) = tiL l ++ [((m : Int), (v : Int))] := by simp [tiL]
theorem tiL_len (l : List Tm) : (tiL l).length = l.length := by simp [tiL]
theorem tiL_getD (l : List Tm) (j : Nat) (hj : j < l.length) : (tiL l).getD j (0, 0) = (((l.getD j (0, 0)).1 : Int), ((l.getD j (0, 0)).2 : Int)) := by
  simp [tiL, List.getD_eq_getElem?_getD, hj]
theorem tiL_small {l : List Tm} (h : ∀ t ∈ l, t.1 ≤ 31 ∧ t.2 ≤ 31) : Small2 (tiL l) := by
  intro t ht
  simp only [tiL, List.mem_map] at ht
  obtain ⟨u, hu, rfl⟩ := ht
  have := h u hu
  dsimp only
  omega
theorem prime_small {n a : Nat} (hn : n ≤ 5) : ∀ t ∈ primesL n a, t.1 ≤ 31 ∧ t.2 ≤ 31 := by
  intro t ht
  have := (mem_primes.1 ht).1
  have := tm_le hn this.1 this.2
  omega
theorem tmLit0 (w : World) (B g : Nat) (hg : g = w.heap.size) (hB : B ≤ g) : TmRow (w.alloc (.cells #[] 25)) B (.slice (some ⟨g, 0, none⟩) 0 0) [] := by
  subst hg
  have h := World.ownsRow_lit (e := 25) (size := 2) (base := B) w #[] 0 hB (by unfold maxLen; omega) (by simp)
  simpa [TmRow, tmsV] using h

set_option maxRecDepth 100000 in
set_option maxHeartbeats 2000000 in
theorem Prm.listM (n a : Nat) (hn : n ≤ 5) (ha : (a : Int) ≤ 4294967295) (w : World) :
    Calls Try.prog 64 #[.agg #[.int .i64 n, .int .i64 a]] w fun e w' => (∃ v, e = .returned v ∧ TmRow w' w.heap.size v (tiL (primesL n a))) ∧ Below w.heap.size w w' := by
  obtain ⟨hp1, hp2⟩ := two_pow_int n hn
  have HN := Lib.hid hn
  have HA := Lib.hid ha
  have hn5 : (n : Int) ≤ 5 := by omega
  clear hn ha
  go_enter Try.func64, Try.ntmps64
  go_wp2
  obtain ⟨W1, hW1⟩ : ∃ W1, w.alloc (.cells #[.int .i64 n, .int .i64 a] 38) = W1 := ⟨_, rfl⟩
  have hs1 : W1.heap.size = w.heap.size + 1 := by rw [← hW1]; simp
  have k0 : W1.cell? ⟨w.heap.size, 0, none⟩ = some (.int .i64 n) := hW1 ▸ keepN rfl rfl
  have k1 : W1.cell? ⟨w.heap.size, 1, none⟩ = some (.int .i64 a) := hW1 ▸ keepN rfl rfl
  have HBW : Hid (Below w.heap.size w W1) := Lib.hid (hW1 ▸ (Below.refl _ _).alloc (Nat.le_refl _) _)
  rw [hW1]
  go_loopw [3, 4, 5, 6] (fun o i _ _ wr => ∃ m : Nat, i = .int .i64 (m : Int) ∧ (m : Int) ≤ 2 ^ n ∧ TmRow wr (w.heap.size + 1) o (tiL (primesU n a m 0)) ∧ Below (w.heap.size + 1) W1 wr) (fun _ i _ _ _ => 32 - (intOf i).toNat)
  case atStart => exact ⟨0, rfl, by omega, tmLit0 W1 _ _ hs1.symm (Nat.le_refl _), (Below.refl _ _).alloc (by omega) _⟩
  case round =>
    obtain ⟨m, rfl, hm, hrow, hbel⟩ := hrel
    have HROW := Lib.hid hrow
    have HBEL := Lib.hid hbel
    have c0 := (hbel.cell (p := ⟨w.heap.size, 0, none⟩) (by dsimp only; omega)).trans k0
    clear hrow hbel
    by_cases hlt : (m : Int) < 2 ^ n
    · have hmn : m < 2 ^ n := by rw [up2] at hlt; omega
      have HMN := Lib.hid hmn
      clear hmn
      go_wp2
      clear c0
      obtain ⟨wo, rfl⟩ : ∃ wo : World, wo = wr := ⟨_, rfl⟩
      go_loopw [3, 5, 6] (fun o i _ wr => ∃ v : Nat, i = .int .i64 (v : Int) ∧ (v : Int) ≤ (m : Int) + 1 ∧ TmRow wr (w.heap.size + 1) o (tiL (primesU n a m v)) ∧ Below (w.heap.size + 1) W1 wr) (fun _ i _ _ => 33 - (intOf i).toNat)
      case atStart => exact ⟨0, rfl, by omega, HROW.out, HBEL.out⟩
      case round =>
        clear HROW HBEL
        obtain ⟨v, rfl, hv, hrow, hbel⟩ := hrel
        have HROW := Lib.hid hrow
        have HBEL := Lib.hid hbel
        have c0 := (hbel.cell (p := ⟨w.heap.size, 0, none⟩) (by dsimp only; omega)).trans k0
        have c1 := (hbel.cell (p := ⟨w.heap.size, 1, none⟩) (by dsimp only; omega)).trans k1
        have hsz := hbel.size
        have hsz' : w.heap.size < wr.heap.size := by omega
        clear hrow hbel
        by_cases hle : (v : Int) ≤ (m : Int)
        · have hand := and64 v m (by omega) (by omega)
          have hbe := hold_beq m v v
          by_cases hvm : v &&& m = v
          · rw [decide_eq_true hvm] at hbe
            have HVM := Lib.hid hvm
            clear hvm
            have HLEN : Hid ((tiL (primesU n a m v)).length ≤ 1000000) := Lib.hid (by
              rw [tiL_len]
              have := primesU_len (a := a) HN.out HMN.out (k := v) (by omega)
              omega)
            have HC := Lib.hid (Trm.primeM n a m v HN.out HA.out (by omega) (by omega))
            cases hp : primeB n a m v with
            | true =>
              rw [hp] at HC
              have HP := Lib.hid (primesU_yes HVM.out hp)
              clear hp
              go_wp2_with fail
              refine (HC.out _).mono ?_
              rintro e w2 ⟨rfl, hb2⟩
              have d0 : w2.cell? ⟨wr.heap.size, 0, none⟩ = some (.int .i64 m) := keepB hb2 (keepN rfl rfl)
              have d1 : w2.cell? ⟨wr.heap.size, 1, none⟩ = some (.int .i64 v) := keepB hb2 (keepN rfl rfl)
              have HROW2 := Lib.hid ((HROW.out.alloc (.cells #[.int .i64 (m : Int), .int .i64 (v : Int)] 25)).below hb2)
              have HBEL2 := Lib.hid (bB hb2 (by simp; omega) (bA (by omega) HBEL.out))
              have hs2 := hb2.size
              have hs2' : w.heap.size + 1 ≤ w2.heap.size := by simp at hs2; omega
              have hs2'' : wr.heap.size < w2.heap.size := by simp at hs2; omega
              clear hb2 hs2
              go_wp2_with (first | (at_builtin; go_must (refine wp_term rfl _ _ rfl (w.heap.size + 1) W1 w2 _ _ ((m : Int), (v : Int)) _ HROW2.out HBEL2.out hs2' HLEN.out rfl rfl rfl ?_; intro v' w3 hown3 hbel3 hgr3)) | fail)
              go_roundw
              case rel => exact ⟨v + 1, by go_num, by omega, by rw [HP.out, tiL_snoc]; exact hown3, hbel3⟩
              case measure => simp [intOf] <;> omega
            | false =>
              rw [hp] at HC
              have HP : Hid (primesU n a m (v + 1) = primesU n a m v) := Lib.hid (primesU_no (fun h => by rw [hp] at h; exact absurd h.2 (by decide)))
              clear hp
              go_wp2_with fail
              refine (HC.out _).mono ?_
              rintro e w2 ⟨rfl, hb2⟩
              have HROW2 := Lib.hid ((HROW.out.alloc (.cells #[.int .i64 (m : Int), .int .i64 (v : Int)] 25)).below hb2)
              have HBEL2 := Lib.hid (bB hb2 (by simp; omega) (bA (by omega) HBEL.out))
              clear hb2
              go_wp2
              go_roundw
              case rel => exact ⟨v + 1, by go_num, by omega, by rw [HP.out]; exact HROW2.out, HBEL2.out⟩
              case measure => simp [intOf] <;> omega
          · rw [decide_eq_false hvm] at hbe
            have HP : Hid (primesU n a m (v + 1) = primesU n a m v) := Lib.hid (primesU_no (fun h => hvm h.1))
            clear hvm
            go_wp2
            go_roundw
            case rel => exact ⟨v + 1, by go_num, by omega, by rw [HP.out]; exact HROW.out.alloc _, bA (by omega) HBEL.out⟩
            case measure => simp [intOf] <;> omega
        · obtain rfl : v = m + 1 := by omega
          have HP := Lib.hid (primesU_next n a m)
          go_wp2
          go_roundw
          case rel => exact ⟨m + 1, by go_num, by omega, by rw [HP.out]; exact HROW.out, HBEL.out⟩
          case measure => simp [intOf] <;> omega
    · have he : m = 2 ^ n := by rw [up2] at hm hlt; omega
      have HE : Hid (primesU n a m 0 = primesL n a) := Lib.hid (by rw [he, primesU_end])
      clear he
      go_wp2
      go_ret
      exact ⟨⟨_, rfl, by rw [← HE.out]; exact HROW.out.base (by omega)⟩, HBW.out.trans (HBEL.out.mono (by omega))⟩

end Go.Proofs.Ytkamopckpmiioaa
