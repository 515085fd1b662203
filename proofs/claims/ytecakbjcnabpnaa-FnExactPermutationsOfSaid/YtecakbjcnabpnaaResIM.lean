/-
  PermuteTable of the model.
-/
import Derived.Test.YtecakbjcnabpnaaResIP
namespace Go.Proofs.Ytecakbjcnabpnaa
open Go.RowKit Plain
set_option linter.unusedVariables false

/-- What the model's test has found behind k numbers of the list. -/
def Plain.distB (l : List Int) (n k : Nat) : Prop := (∀ i, i < k → inR n (l.getD i 0) = true) ∧ ∀ i, i < k → ∀ j, j < i → l.getD j 0 ≠ l.getD i 0

set_option maxRecDepth 100000 in
set_option maxHeartbeats 1000000 in
theorem Tab.ordM (n : Nat) (hn : n ≤ 5) (ad : Option Addr) (cl cap : Nat) (l : List Int) (w : World) (h : IntsIn w (.slice ad cl cap) l) :
    Calls Try.prog 78 #[.slice ad cl cap, .int .i64 n] w fun e w' => e = .returned (.bool (permB l n)) ∧ Below w.heap.size w w' := by
  obtain ⟨a', cap', he, hl, hbd, hrd⟩ := h
  simp only [Value.slice.injEq] at he
  obtain ⟨rfl, rfl, rfl⟩ := he
  have HRD := Lib.hid hrd
  have HN := Lib.hid hn
  have hn5 : (n : Int) ≤ 5 := by omega
  clear hrd hbd hn
  go_enter Try.func78, Try.ntmps78
  go_wp2
  go_loopw [5, 6] (fun i _ wr => ∃ k m : Nat, i = .int .i64 (k : Int) ∧ k ≤ l.length ∧ distB l n k ∧ wr = w.drewN m) (fun i _ _ => l.length - (intOf i).toNat)
  case atStart => exact ⟨0, 0, rfl, by omega, ⟨fun i hi => absurd hi (by omega), fun i hi => absurd hi (by omega)⟩, rfl⟩
  case round =>
    obtain ⟨k, q, rfl, hk, hd, rfl⟩ := hrel
    have HD := Lib.hid hd
    clear hd
    by_cases hlt : k < l.length
    · obtain ⟨b, off, rfl, hbw, hcl⟩ := HRD.out (by omega)
      have HCL := Lib.hid hcl
      have hck := hcl k hlt
      have hkz : (k : Int) < (l.length : Int) := by omega
      clear hcl
      cases hr : inR n (l.getD k 0) with
      | false =>
        have HNO : Hid (permB l n = false) := Lib.hid (by
          rw [Bool.eq_false_iff]
          intro hpp
          have := (permB_iff.1 hpp).2.1 k hlt
          rw [hr] at this
          cases this)
        have HV : Hid (¬ (0 ≤ l.getD k 0 ∧ l.getD k 0 ≤ (n : Int) - 1)) := Lib.hid (fun h => by rw [inR_iff.2 ⟨h.1, by omega⟩] at hr; cases hr)
        clear hr
        generalize l.getD k 0 = x at hck HV
        go_wp2_with fail
        refine (Widths.in_no _ _ _ HV.out _).mono ?_
        rintro e w2 ⟨rfl, rfl⟩
        go_wp2
        go_ret
        exact ⟨by rw [HNO.out]; rfl, below_drewN (Below.refl _ _) _⟩
      | true =>
        have HR := Lib.hid hr
        have HV := Lib.hid (inR_iff.1 hr)
        have HVV : Hid (0 ≤ l.getD k 0 ∧ l.getD k 0 ≤ (n : Int) - 1) := Lib.hid (by have := HV.out; omega)
        clear hr
        generalize hx : l.getD k 0 = x at hck HVV
        have HX := Lib.hid hx
        clear hx
        go_wp2_with fail
        refine (Widths.in_yes _ _ _ HVV.out _).mono ?_
        rintro e w2 ⟨rfl, rfl⟩
        go_wp2
        obtain ⟨wo, hwo⟩ : ∃ wo : World, wo = w.drewN q := ⟨_, rfl⟩
        go_loopw [6] (fun j wr => ∃ m p : Nat, j = .int .i64 (m : Int) ∧ m ≤ k ∧ (∀ j, j < m → l.getD j 0 ≠ x) ∧ wr = w.drewN p) (fun j _ => k - (intOf j).toNat)
        case atStart => exact ⟨0, q, rfl, by omega, fun j hj => absurd hj (by omega), rfl⟩
        case round =>
          obtain ⟨m, p, rfl, hm, hne, rfl⟩ := hrel
          have HNE := Lib.hid hne
          clear hne hwo
          by_cases hlt2 : m < k
          · have hcm := HCL.out m (by omega)
            have hmz : (m : Int) < (k : Int) := by omega
            have hml : (m : Int) < (l.length : Int) := by omega
            by_cases heq : l.getD m 0 = x
            · have HNO : Hid (permB l n = false) := Lib.hid (by
                rw [Bool.eq_false_iff]
                intro hpp
                exact (permB_iff.1 hpp).2.2 k hlt m hlt2 (by rw [heq, HX.out]))
              rw [heq] at hcm
              clear heq
              go_wp2
              go_quiet (fail)
              go_wp2
              go_ret
              exact ⟨by rw [HNO.out]; rfl, below_drewN (below_drewN (Below.refl _ _) _) _⟩
            · have HNE' : Hid (∀ j, j < m + 1 → l.getD j 0 ≠ x) := Lib.hid (by
                intro j hj
                rcases (show j < m ∨ j = m by omega) with h | rfl
                · exact HNE.out j h
                · exact heq)
              have hneb : (l.getD m 0 == x) = false := by rw [beq_eq_false_iff_ne]; exact heq
              clear heq
              generalize l.getD m 0 = y at hcm hneb
              go_wp2
              go_quiet (fail)
              go_wp2
              go_roundw
              case rel => exact ⟨m + 1, _, by go_num, by omega, HNE'.out, rfl⟩
              case measure => simp [intOf] <;> omega
          · obtain rfl : m = k := by omega
            have HD' : Hid (distB l n (m + 1)) := Lib.hid ⟨by
              intro i hi
              rcases (show i < m ∨ i = m by omega) with h | rfl
              · exact HD.out.1 i h
              · exact HR.out, by
              intro i hi j hj
              rcases (show i < m ∨ i = m by omega) with h | rfl
              · exact HD.out.2 i h j hj
              · rw [HX.out]; exact HNE.out j hj⟩
            go_wp2
            go_roundw
            case rel => exact ⟨m + 1, p, by go_num, by omega, HD'.out, rfl⟩
            case measure => simp [intOf] <;> omega
    · obtain rfl : k = l.length := by omega
      have HB : Hid (permB l n = decide ((l.length : Int) = (n : Int))) := Lib.hid (by
        unfold permB
        congr 1
        rw [eq_iff_iff]
        exact ⟨fun h => by omega, fun h => ⟨by omega, HD.out.1, HD.out.2⟩⟩)
      go_wp2
      go_ret
      refine ⟨ret_bool ?_, below_drewN (Below.refl _ _) _⟩
      rw [HB.out]; rfl

set_option maxRecDepth 100000 in
set_option maxHeartbeats 2000000 in
theorem Tab.perM_loop (n a : Nat) (hn : n ≤ 5) (ha : (a : Int) ≤ 4294967295) (ad : Option Addr) (cl cap : Nat) (l : List Int) (hp : permB l n = true) (w : World) (h : IntsIn w (.slice ad cl cap) l) :
    Calls Try.prog 79 #[.agg #[.int .i64 n, .int .i64 a], .slice ad cl cap] w fun e w' => e = .returned (.agg #[.int .i64 n, .int .i64 (perW n a l : Int)]) ∧ Below w.heap.size w w' := by
  obtain ⟨hlen, hr, hpt, _, _⟩ := permB_facts hn hp
  obtain ⟨hp1, hp2⟩ := two_pow_int n hn
  have HE := Lib.hid (per_eq n a l hn hp)
  have HR := Lib.hid hr
  have HPT := Lib.hid hpt
  have HN := Lib.hid hn
  have HPB := Lib.hid hp
  obtain ⟨a', cap', he, _, _, hrd⟩ := h
  simp only [Value.slice.injEq] at he
  obtain ⟨rfl, rfl, rfl⟩ := he
  have HRD := Lib.hid hrd
  have HL := Lib.hid hlen
  have hl5 : (l.length : Int) ≤ 5 := by omega
  have hln : (l.length : Int) = (n : Int) := by omega
  have HLN := Lib.hid hln
  have hn5 : (n : Int) ≤ 5 := by omega
  clear hrd hn hr hpt hp hlen hln
  go_enter Try.func79, Try.ntmps79
  go_wp2
  go_loopw [5, 6, 7, 8] (fun a' x _ _ wr => ∃ y : Nat, x = .int .i64 (y : Int) ∧ a' = .int .i64 (perS n a l y : Int) ∧ (y : Int) ≤ 2 ^ n ∧ Below w.heap.size w wr ∧ wr.heap[w.heap.size]? = some (.cells #[.int .i64 n, .int .i64 a] 25 (0, 0)) ∧ wr.heap[w.heap.size + 1]? = some (.cells #[.int .i64 0, .int .i64 0] 25 (0, 0))) (fun _ x _ _ _ => 32 - (intOf x).toNat)
  case atStart => exact ⟨0, rfl, rfl, by omega, ((Below.refl _ _).alloc (Nat.le_refl _) _).alloc (by simp) _, heap_alloc2_old w _ _, heap_alloc2_new w _ _⟩
  case round =>
    obtain ⟨y, rfl, rfl, hy, hbel, hx0, hx1⟩ := hrel
    obtain ⟨c0, c1, _, _⟩ := cells2 hx0
    obtain ⟨d0, d1, g0, g1⟩ := cells2 hx1
    have HBEL := Lib.hid hbel
    have HX0 := Lib.hid hx0
    have HX1 := Lib.hid hx1
    have hsz : w.heap.size + 1 < wr.heap.size := lt_of_block hx1
    clear hbel hx0 hx1
    by_cases hlt : (y : Int) < 2 ^ n
    · have hyn : y < 2 ^ n := by rw [up2] at hlt; omega
      have HYN := Lib.hid hyn
      clear hyn
      go_wp2
      obtain ⟨wo, rfl⟩ : ∃ wo : World, wo = wr := ⟨_, rfl⟩
      go_loopw [7, 8] (fun z i wr => ∃ k p : Nat, i = .int .i64 (k : Int) ∧ k ≤ n ∧ z = .int .i64 (scN (pAt l) (bitN y) k : Int) ∧ wr = wo.drewN p) (fun _ i _ => n - (intOf i).toNat)
      case atStart => exact ⟨0, 0, rfl, by omega, rfl, rfl⟩
      case round =>
        obtain ⟨k, p, rfl, hk, rfl, rfl⟩ := hrel
        by_cases hlt2 : k < n
        · obtain ⟨b, off, rfl, hbw, hcl⟩ := HRD.out (by have := HLN.out; omega)
          have hcp : wo.cell? ⟨b, off + k, none⟩ = some (.int .i64 (l.getD k 0)) := (HBEL.out.cell (p := ⟨b, off + k, none⟩) hbw).trans (hcl k (by have := HLN.out; omega))
          have hp := pAt_int (HR.out k hlt2)
          rw [← hp.1] at hcp
          have hpk := hp.2
          have hsl := scN_lt (pAt l) (bitN y) k n (fun _ _ => bitN_any) (fun x hx => HPT.out x (by omega))
          have hs2 : 2 ^ n ≤ 2 ^ 5 := Nat.pow_le_pow_right (by decide) HN.out
          have hsz31 : (scN (pAt l) (bitN y) k : Int) ≤ 31 := by omega
          have HO := Lib.hid (mulbit_i64 (scN (pAt l) (bitN y) k) (bitN y k) (pAt l k) (by omega) bitN_any (by omega))
          have HV : Hid (scN (pAt l) (bitN y) (k + 1) = scN (pAt l) (bitN y) k ||| bitN y k * 2 ^ pAt l k) := Lib.hid rfl
          have HA := Lib.hid (bit_i64 y k (by omega))
          have hpz : (pAt l k : Int) ≤ 4 := by omega
          have hkz : (k : Int) < (n : Int) := by omega
          have hkl : (k : Int) < (l.length : Int) := by have := HLN.out; omega
          clear hcl hp hpk hsl hs2
          generalize pAt l k = j at hcp HO hpz HV
          generalize scN (pAt l) (bitN y) k = t at HO hsz31 HV ⊢
          go_wp2
          go_quiet (fail)
          go_wp2
          go_roundw
          case rel => exact ⟨k + 1, _, by go_num, by omega, by rw [HV.out, ← HO.out, ← HA.out], rfl⟩
          case measure => simp [intOf] <;> omega
        · obtain rfl : k = n := by omega
          have hsl : scN (pAt l) (bitN y) k < 2 ^ k := scN_lt (pAt l) (bitN y) k k (fun _ _ => bitN_any) (fun x hx => HPT.out x (by omega))
          have hq := two_pow_le k HN.out
          have hpw : 2 ^ 2 ^ k ≤ 2 ^ 32 := Nat.pow_le_pow_right (by decide) (by omega)
          have hs0 := perS_lt k a l y HN.out HPB.out
          have hvy : (perS k a l y : Int) ≤ 4294967295 := by omega
          have HO := Lib.hid (mulbit_i64 (perS k a l y) (bitN a y) (scN (pAt l) (bitN y) k) hvy bitN_any (by omega))
          have HV : Hid (perS k a l (y + 1) = perS k a l y ||| bitN a y * 2 ^ scN (pAt l) (bitN y) k) := Lib.hid rfl
          have HA := Lib.hid (bit_i64 a y (by omega))
          have hsz31 : (scN (pAt l) (bitN y) k : Int) ≤ 31 := by omega
          clear hsl hq hpw hs0
          generalize scN (pAt l) (bitN y) k = t at HO hsz31 HV ⊢
          go_wp2
          go_roundw
          case rel => exact ⟨y + 1, by go_num, by rw [HV.out, ← HO.out, ← HA.out], by omega, below_drewN HBEL.out _, by simpa using HX0.out, by simpa using HX1.out⟩
          case measure => simp [intOf] <;> omega
    · have he : y = 2 ^ n := by rw [up2] at hy hlt; omega
      have HF : Hid (perS n a l y = perW n a l) := Lib.hid (by rw [he]; exact HE.out)
      clear he
      go_wp2
      obtain ⟨k0, k1⟩ := keepT (Y := wr) (g := w.heap.size + 1) (u := .int .i64 (n : Int)) (v := .int .i64 (perS n a l y : Int)) d0 d1
      rw [← HF.out]
      exact bodyPost_ret (v := .agg #[.int .i64 n, .int .i64 (perS n a l y : Int)]) (by simp [results, Try.results79, go_sem, k0, k1]) rfl ⟨rfl, bS (by simp) (bS (by simp) HBEL.out)⟩

theorem Tab.perM_no1 (n a : Int) (ad : Option Addr) (cl cap : Nat) (l : List Int) (ht : isT n a = false) (w : World) (hv : IntsIn w (.slice ad cl cap) l) :
    Calls Try.prog 20 #[.agg #[.int .i64 n, .int .i64 a], .slice ad cl cap] w fun e w' => e = .returned (.tuple #[.agg #[.int .i64 0, .int .i64 0], .bool false]) ∧ Below w.heap.size w w' := by
  have H := Lib.hid ht
  clear ht
  go_enter Try.func20, Try.ntmps20
  go_wp2_with fail
  refine (Tab.model _ _ _).mono ?_
  rintro e w1 ⟨rfl, hb1⟩
  obtain ⟨hc, hf⟩ := bcell hb1
  obtain ⟨hz0_w1, hz1_w1⟩ : w.heap.size < w1.heap.size ∧ w.heap.size + 1 < w1.heap.size := by have := hb1.size; simp at this; omega
  rw [H.out]
  go_wp2
  exact bodyPost_ret (v := .tuple #[.agg #[.int .i64 0, .int .i64 0], .bool false]) (by simp [results, Try.results20, go_sem, hc]) rfl ⟨rfl, bS (by simp <;> omega) (bS (by simp <;> omega) ((((Below.refl _ _).alloc (Nat.le_refl _) _).alloc (by simp <;> omega) _).trans (hb1.mono (by simp <;> omega))))⟩

set_option maxRecDepth 100000 in
set_option maxHeartbeats 1000000 in
theorem Tab.perM_no2 (n a : Nat) (ad : Option Addr) (cl cap : Nat) (l : List Int) (ht : isT n a = true) (hn : n ≤ 5) (ha : (a : Int) ≤ 4294967295) (hp : permB l n = false) (w : World) (hv : IntsIn w (.slice ad cl cap) l) :
    Calls Try.prog 20 #[.agg #[.int .i64 n, .int .i64 a], .slice ad cl cap] w fun e w' => e = .returned (.tuple #[.agg #[.int .i64 0, .int .i64 0], .bool false]) ∧ Below w.heap.size w w' := by
  have H := Lib.hid ht
  have HN := Lib.hid hn
  have HP := Lib.hid hp
  have hn5 : (n : Int) ≤ 5 := by omega
  have HVI : Hid (∀ w1 : World, Below ((w.alloc (.cells #[.int .i64 n, .int .i64 a] 25)).alloc (.cells #[.int .i64 0, .int .i64 0] 25)).heap.size ((w.alloc (.cells #[.int .i64 n, .int .i64 a] 25)).alloc (.cells #[.int .i64 0, .int .i64 0] 25)) w1 → IntsIn w1 (.slice ad cl cap) l) :=
    Lib.hid fun w1 hb => hv.below ((((Below.refl _ _).alloc (Nat.le_refl _) _).alloc (by simp) _).trans (hb.mono (by simp <;> omega)))
  clear ht hn hp hv
  go_enter Try.func20, Try.ntmps20
  go_wp2_with fail
  refine (Tab.model _ _ _).mono ?_
  rintro e w1 ⟨rfl, hb1⟩
  obtain ⟨hc, hf⟩ := bcell hb1
  obtain ⟨hz0_w1, hz1_w1⟩ : w.heap.size < w1.heap.size ∧ w.heap.size + 1 < w1.heap.size := by have := hb1.size; simp at this; omega
  rw [H.out]
  go_wp2_with fail
  refine (Tab.ordM n HN.out ad cl cap l _ (HVI.out _ hb1)).mono ?_
  rintro e w2 ⟨rfl, hb2⟩
  rw [HP.out]
  obtain ⟨hc2, hf2⟩ := bcell hb2
  have hs2 := hb2.size
  have HB2 := Lib.hid ((((Below.refl _ _).alloc (Nat.le_refl _) _).alloc (by simp <;> omega) _).trans (hb1.mono (by simp <;> omega)) |>.trans (hb2.mono (by omega)))
  obtain ⟨hy0, hy1⟩ : w.heap.size < w2.heap.size ∧ w.heap.size + 1 < w2.heap.size := by omega
  go_wp2
  obtain ⟨k0, k1⟩ := keepT (Y := w2) (g := w.heap.size + 1) (u := .int .i64 0) (v := .int .i64 0) (keepB hb2 (keepB hb1 (keepN (by simp) rfl))) (keepB hb2 (keepB hb1 (keepN (by simp) rfl)))
  exact bodyPost_ret (v := .tuple #[.agg #[.int .i64 0, .int .i64 0], .bool false]) (by simp [results, Try.results20, go_sem, k0, k1]) rfl ⟨rfl, bS (by simp <;> omega) (bS (by simp <;> omega) HB2.out)⟩

set_option maxRecDepth 100000 in
set_option maxHeartbeats 1000000 in
theorem Tab.perM_yes (n a : Nat) (ad : Option Addr) (cl cap : Nat) (l : List Int) (ht : isT n a = true) (hn : n ≤ 5) (ha : (a : Int) ≤ 4294967295) (hp : permB l n = true) (w : World) (hv : IntsIn w (.slice ad cl cap) l) :
    Calls Try.prog 20 #[.agg #[.int .i64 n, .int .i64 a], .slice ad cl cap] w fun e w' => e = .returned (.tuple #[.agg #[.int .i64 n, .int .i64 (perW n a l : Int)], .bool true]) ∧ Below w.heap.size w w' := by
  have H := Lib.hid ht
  have HN := Lib.hid hn
  have HP := Lib.hid hp
  have hn5 : (n : Int) ≤ 5 := by omega
  have HVI : Hid (∀ w1 : World, Below ((w.alloc (.cells #[.int .i64 n, .int .i64 a] 25)).alloc (.cells #[.int .i64 0, .int .i64 0] 25)).heap.size ((w.alloc (.cells #[.int .i64 n, .int .i64 a] 25)).alloc (.cells #[.int .i64 0, .int .i64 0] 25)) w1 → IntsIn w1 (.slice ad cl cap) l) :=
    Lib.hid fun w1 hb => hv.below ((((Below.refl _ _).alloc (Nat.le_refl _) _).alloc (by simp) _).trans (hb.mono (by simp <;> omega)))
  clear ht hn hp hv
  go_enter Try.func20, Try.ntmps20
  go_wp2_with fail
  refine (Tab.model _ _ _).mono ?_
  rintro e w1 ⟨rfl, hb1⟩
  obtain ⟨hc, hf⟩ := bcell hb1
  obtain ⟨hz0_w1, hz1_w1⟩ : w.heap.size < w1.heap.size ∧ w.heap.size + 1 < w1.heap.size := by have := hb1.size; simp at this; omega
  rw [H.out]
  go_wp2_with fail
  refine (Tab.ordM n HN.out ad cl cap l _ (HVI.out _ hb1)).mono ?_
  rintro e w2 ⟨rfl, hb2⟩
  rw [HP.out]
  obtain ⟨hc2, hf2⟩ := bcell hb2
  have hs2 := hb2.size
  have HB2 := Lib.hid ((((Below.refl _ _).alloc (Nat.le_refl _) _).alloc (by simp <;> omega) _).trans (hb1.mono (by simp <;> omega)) |>.trans (hb2.mono (by omega)))
  obtain ⟨hy0, hy1⟩ : w.heap.size < w2.heap.size ∧ w.heap.size + 1 < w2.heap.size := by omega
  go_wp2_with fail
  refine (Tab.perM_loop n a HN.out ha ad cl cap l HP.out _ ((HVI.out _ hb1).below hb2)).mono ?_
  rintro e w3 ⟨rfl, hb3⟩
  obtain ⟨hc3, hf3⟩ := bcell hb3
  have hs3 := hb3.size
  go_wp2
  obtain ⟨k0, k1⟩ := keepT (Y := w3) (g := w.heap.size + 1) (u := .int .i64 (n : Int)) (v := .int .i64 (perW n a l : Int)) (keepB hb3 (keepB hb2 (keepB hb1 (keepN (by simp) rfl)))) (keepB hb3 (keepB hb2 (keepB hb1 (keepN (by simp) rfl))))
  exact bodyPost_ret (v := .tuple #[.agg #[.int .i64 n, .int .i64 (perW n a l : Int)], .bool true]) (by simp [results, Try.results20, go_sem, k0, k1]) rfl ⟨rfl, bS (by simp <;> omega) (bS (by simp <;> omega) (HB2.out.trans (hb3.mono (by omega))))⟩

/-- PermuteTable of the model. -/
theorem Tab.perM (n a : Int) (ad : Option Addr) (cl cap : Nat) (l : List Int) (w : World) (hv : IntsIn w (.slice ad cl cap) l) :
    Calls Try.prog 20 #[.agg #[.int .i64 n, .int .i64 a], .slice ad cl cap] w fun e w' => e = .returned (.tuple #[.agg #[.int .i64 (perT n a l).1, .int .i64 (perT n a l).2.1], .bool (perT n a l).2.2]) ∧ Below w.heap.size w w' := by
  by_cases ht : isT n a = true
  · obtain ⟨m, y, rfl, rfl, hm, hy⟩ := isT_nat ht
    have hl : (y : Int) ≤ 4294967295 := by have := fullN_le m hm; omega
    cases hp : permB l m with
    | true =>
      rw [perT_yes ht hp]
      exact Tab.perM_yes m y ad cl cap l ht hm hl hp w hv
    | false =>
      rw [perT_no fun h => by have := h.2; rw [Int.toNat_natCast, hp] at this; cases this]
      exact Tab.perM_no2 m y ad cl cap l ht hm hl hp w hv
  · rw [perT_no fun h => ht h.1]
    exact Tab.perM_no1 n a ad cl cap l (by simpa using ht) w hv
end Go.Proofs.Ytecakbjcnabpnaa
