/-
  l4Least of the model.
-/
import Derived.Test.YthdcjldmafhcjaaClsV
import Derived.Test.YthdcjldmafhcjaaTabI
import Derived.BigQuiet
import Derived.Deep.QuietTactic
import Derived.Deep.RegionHeld3
import Derived.Deep.DrawnRows
namespace Go.Proofs.Ythdcjldmafhcjaa
open Go.RowKit Plain
set_option linter.unusedVariables false
attribute [local go_sem ↓] Go.wp_at_zero Go.wp_at_succ

theorem fold_two (l : List Nat) (a q r : Nat) : (l ++ [q, r]).foldl min a = min (l.foldl min a) (min q r) := by
  rw [List.foldl_append]
  show min (min _ q) r = _
  rw [Nat.min_assoc]
theorem count_two (l : List Nat) (a q r : Nat) : (l ++ [q, r]).count a = l.count a + (if q = a then 1 else 0) + (if r = a then 1 else 0) := by
  rw [List.count_append, List.count_cons, List.count_cons, List.count_nil]
  simp only [beq_iff_eq]
  omega
theorem min_if (m q r : Nat) : (if (if r < q then (r : Int) else (q : Int)) < (m : Int) then (if r < q then (r : Int) else (q : Int)) else (m : Int)) = ((min m (min q r) : Nat) : Int) := by
  by_cases h1 : r < q
  · rw [if_pos h1]; split <;> omega
  · rw [if_neg h1]; split <;> omega
theorem fold_le (l : List Nat) (a : Nat) : l.foldl min a ≤ a := (min_fold l a).1

set_option maxRecDepth 100000 in
set_option maxHeartbeats 2000000 in
theorem Cls.leastM (n a : Nat) (hn : n ≤ 4) (ha : a ≤ fullN n) (w : World) :
    Calls Try.prog 56 #[.agg #[.int .i64 n, .int .i64 a]] w fun e w' => e = .returned (.tuple #[.int .i64 (leastW n a : Int), .int .i64 ((waysL n a).count a : Int)]) ∧ Below w.heap.size w w' := by
  have HN := Lib.hid hn
  have HFA := Lib.hid ha
  have hf5 := fullN_le n (by omega)
  have hnz : (n : Int) ≤ 4 := by omega
  have haz : (a : Int) ≤ 4294967295 := by omega
  have HE := Lib.hid ((rowLit (w.alloc (.cells #[.int .i64 n, .int .i64 a] 25)) 0 _ [] rfl (Nat.zero_le _) (by simp)).1)
  clear hn ha hf5
  go_enter Try.func56, Try.ntmps56
  go_wp2_with fail
  refine (Perm.model_in n HN.out _ 0 _ (by simpa using HE.out)).mono ?_
  rintro e w2 ⟨⟨v, rfl, hown⟩, hb2⟩
  have hrd := hown.rd (perms_small n HN.out)
  obtain ⟨a2, cap2, rfl, _, hr⟩ := hrd
  have HR := Lib.hid hr
  have c0 : w2.cell? ⟨w.heap.size, 0, none⟩ = some (.int .i64 (n : Int)) := keepB hb2 (keepA (keepN rfl rfl))
  have c1 : w2.cell? ⟨w.heap.size, 1, none⟩ = some (.int .i64 (a : Int)) := keepB hb2 (keepA (keepN rfl rfl))
  have HB2 := Lib.hid (bB hb2 (by simp; omega) (((Below.refl w.heap.size w).alloc (Nat.le_refl _) (.cells #[.int .i64 n, .int .i64 a] 25)).alloc (by simp) (.cells #[] 3)))
  have hs2 : w.heap.size < w2.heap.size := by have := hb2.size; simp at this; omega
  have hl24 := perms_le n HN.out
  have hlz : ((permsL n).length : Int) ≤ 24 := by omega
  clear hown hr hb2 hl24 HE
  go_wp2
  go_loopw [4, 5, 7, 8, 9, 10, 11] (fun m k x _ _ _ _ wr => ∃ i : Nat, x = .int .i64 (i : Int) ∧ i ≤ (permsL n).length ∧ m = .int .i64 (((waysK n a i).foldl min a : Nat) : Int) ∧ k = .int .i64 ((waysK n a i).count a : Int) ∧ Below w2.heap.size w2 wr) (fun _ _ x _ _ _ _ _ => (permsL n).length - (intOf x).toNat)
  case atStart => exact ⟨0, rfl, by omega, rfl, rfl, Below.refl _ _⟩
  case round =>
    obtain ⟨i, rfl, hi, rfl, rfl, hbel⟩ := hrel
    have HBEL := Lib.hid hbel
    have hwr := hbel.size
    by_cases hlt : i < (permsL n).length
    · have HI := Lib.hid hlt
      obtain ⟨rb, off, rfl, hbw, hcl⟩ := HR.out (by omega)
      obtain ⟨u, hu, hin⟩ := hcl i hlt
      have hcp := (hbel.cell (p := ⟨rb, off + i, none⟩) hbw).trans hu
      have hin2 := hin.below hbel
      have hpp := perms_ok n HN.out _ (getD_mem' (d := []) hlt)
      obtain ⟨ad, cp, rfl, _⟩ := id hin2
      have HIN := Lib.hid hin2
      have HPP := Lib.hid hpp
      have HSU := Lib.hid (waysK_succ n a i hlt)
      have e0 := keepB hbel c0
      have e1 := keepB hbel c1
      have hiz : (i : Int) < ((permsL n).length : Int) := by omega
      clear hcl hin hin2 hpp hu hbel hlt hi
      obtain ⟨p, hp⟩ : ∃ p, p = (permsL n).getD i [] := ⟨_, rfl⟩
      rw [← hp] at HIN HPP HSU hcp
      have HP := Lib.hid hp
      clear hp
      have hsw := World.block_lt_of_cell? wr _ e0
      have hrw := World.block_lt_of_cell? wr _ hcp
      have HW : Hid (∀ W' : World, Below wr.heap.size wr W' → IntsIn W' (.slice ad p.length cp) p) := Lib.hid (fun W' h => HIN.out.below h)
      have BR := Lib.hid (Below.refl wr.heap.size wr)
      go_upto_region 7 with fail
      go_cut [8] (fun s8 wx => ∃ g : Nat, s8 = .pointer (some ⟨g, 0, none⟩) ∧ wx.cell? ⟨g, 0, none⟩ = some (.int .i64 (n : Int)) ∧ wx.cell? ⟨g, 1, none⟩ = some (.int .i64 (perW n a p : Int)) ∧ w.heap.size < g ∧ g < wx.heap.size ∧ Below wr.heap.size wr wx)
      case first =>
        go_region_held3 (fun w' => w'.cell? ⟨w.heap.size, 0, none⟩ = some (.int .i64 n) ∧ w'.cell? ⟨w.heap.size, 1, none⟩ = some (.int .i64 a) ∧ w'.cell? ⟨rb, off + i, none⟩ = some (.slice ad p.length cp))
          ((first | (go_split_ands; (try dsimp only); (refine ⟨?_, ?_, ?_⟩ <;> (repeat (first | with_reducible assumption | ((with_reducible refine keepU ?_); (with_reducible assumption)) | (with_reducible refine keepD ?_) | ((with_reducible refine keepN ?_ ?_); (focus (simp; done)); (focus rfl)) | (with_reducible refine keepA ?_) | ((with_reducible refine keepS ?_ ?_); (focus (dsimp only; omega))) | (with_reducible refine keepB hb3 ?_)))); done) | go_keep))
          (first | (go_at_call 59; refine (Tab.perM_loop n a (by have := HN.out; omega) haz ad p.length cp p HPP.out _ (HW.out _ ?hbw)).mono ?_; (case hbw => repeat (first | (with_reducible exact BR.out) | ((with_reducible refine bA ?_ ?_); (focus (first | omega | (simp; done) | (simp; omega)))) | (with_reducible refine bD ?_))); rintro e w3 ⟨rfl, hb3⟩; obtain ⟨hc3, hf3⟩ := bcell hb3; have hs3 := hb3.size; simp only [World.size_alloc, World.size_drew] at hs3))
        all_goals
          go_wp2_with fail
          go_meet
          refine ⟨_, rfl, ?_, ?_, ?_, ?_, ?_⟩
          · first | exact keepN rfl rfl | (refine (keepT (a := .int .i64 0) (b := .int .i64 0) ?_ ?_).1 <;> (repeat (first | with_reducible assumption | ((with_reducible refine keepU ?_); (with_reducible assumption)) | (with_reducible refine keepD ?_) | ((with_reducible refine keepN ?_ ?_); (focus (simp; done)); (focus rfl)) | (with_reducible refine keepA ?_) | ((with_reducible refine keepS ?_ ?_); (focus (dsimp only; omega))) | (with_reducible refine keepB hb3 ?_))))
          · first | exact keepN rfl rfl | (refine (keepT (a := .int .i64 0) (b := .int .i64 0) ?_ ?_).2 <;> (repeat (first | with_reducible assumption | ((with_reducible refine keepU ?_); (with_reducible assumption)) | (with_reducible refine keepD ?_) | ((with_reducible refine keepN ?_ ?_); (focus (simp; done)); (focus rfl)) | (with_reducible refine keepA ?_) | ((with_reducible refine keepS ?_ ?_); (focus (dsimp only; omega))) | (with_reducible refine keepB hb3 ?_))))
          · first | omega | (simp; done) | (simp; omega)
          · first | omega | (simp; done) | (simp; omega)
          · repeat (first | (with_reducible exact BR.out) | (with_reducible exact Below.refl _ _) | (with_reducible assumption) | ((with_reducible refine bS ?_ ?_); (focus (dsimp only; omega))) | ((with_reducible refine bA ?_ ?_); (focus (first | omega | (simp; done) | (simp; omega)))) | (with_reducible refine bD ?_) | ((with_reducible refine bB hb3 ?_ ?_); (focus (first | omega | (simp; done) | (simp; omega)))))
      case rest =>
        obtain ⟨g, rfl, g0, g1, gz, gs, hbc⟩ := hcut
        have BC := Lib.hid (bstep HBEL.out hbc)
        have f0 := keepB hbc e0
        have f1 := keepB hbc e1
        obtain ⟨hp1, hp2⟩ := two_pow_int n (by have := HN.out; omega)
        have HPB := Lib.hid (tabN_bound (perV a p n) (2 ^ n) (Nat.pow_le_pow_right (n := 2) (by decide) (by have := HN.out; omega : n ≤ 5)))
        have hsc := hbc.size
        clear hbc hcp e0 e1 HIN HW BR hrw hsw HBEL
        go_wp2
        go_loopw [4, 5, 9, 10, 11] (fun m k x _ _ wr => ∃ s : Nat, x = .int .i64 (s : Int) ∧ (s : Int) ≤ 2 ^ n ∧ m = .int .i64 (((waysK n a i ++ wayP n a p s).foldl min a : Nat) : Int) ∧ k = .int .i64 ((waysK n a i ++ wayP n a p s).count a : Int) ∧ Below wc.heap.size wc wr) (fun _ _ x _ _ _ => 32 - (intOf x).toNat)
        case atStart => exact ⟨0, rfl, by omega, by rw [wayP_zero, List.append_nil], by rw [wayP_zero, List.append_nil], Below.refl _ _⟩
        case round =>
          obtain ⟨s, rfl, hs, rfl, rfl, hbel⟩ := hrel
          have HBEL := Lib.hid hbel
          have q0 := keepB hbel f0
          have q1 := keepB hbel f1
          have r0 := keepB hbel g0
          have r1 := keepB hbel g1
          have hsr := hbel.size
          by_cases hlt2 : (s : Int) < 2 ^ n
          · have hsn : s < 2 ^ n := by rw [up2] at hlt2; omega
            have HSH := Lib.hid (fun W => Tab.shiM_loop n (perW n a p) s (by have := HN.out; omega) HPB.out hsn W)
            have HWS := Lib.hid (wayP_succ n a p s)
            have hqf := way_full n a p s
            have hf5 := fullN_le n (by have := HN.out; omega)
            have hwrap : IntKind.i64.wrap ((fullN n : Int) - ((wayW n a p s : Nat) : Int)) = ((fullN n - wayW n a p s : Nat) : Int) := by rw [IntWalk.i64_in _ ⟨by omega, by omega⟩]; omega
            have hpair : pairW n a p s = [wayW n a p s, fullN n - wayW n a p s] := rfl
            have hqz : ((wayW n a p s : Nat) : Int) ≤ 4294967295 := by omega
            have hq2z : ((fullN n - wayW n a p s : Nat) : Int) ≤ 4294967295 := by omega
            rw [show shiW n (perW n a p) s = wayW n a p s from rfl] at HSH
            rw [hpair] at HWS
            have HTWO := Lib.hid (fold_two (waysK n a i ++ wayP n a p s) a (wayW n a p s) (fullN n - wayW n a p s))
            have HCT := Lib.hid (count_two (waysK n a i ++ wayP n a p s) a (wayW n a p s) (fullN n - wayW n a p s))
            have hmz : (((waysK n a i ++ wayP n a p s).foldl min a : Nat) : Int) ≤ 4294967295 := by have := fold_le (waysK n a i ++ wayP n a p s) a; omega
            have hcz : (((waysK n a i ++ wayP n a p s).count a : Nat) : Int) ≤ 1000 := by
              have h1 := List.count_le_length (a := a) (l := waysK n a i ++ wayP n a p s)
              have h2 := waysK_len n a i (Nat.le_of_lt HI.out)
              have h3 := perms_le n HN.out
              have h4 : 2 ^ n ≤ 2 ^ 4 := Nat.pow_le_pow_right (by decide) HN.out
              have h5 : i * (2 * 2 ^ n) ≤ 23 * (2 * 2 ^ n) := Nat.mul_le_mul_right _ (by have := HI.out; omega)
              rw [List.length_append, h2, wayP_len] at h1
              omega
            have HPRE : Hid ((waysK n a i ++ wayP n a p s) ++ [wayW n a p s, fullN n - wayW n a p s] = waysK n a i ++ wayP n a p (s + 1)) := Lib.hid (by rw [HWS.out, List.append_assoc])
            rw [HPRE.out] at HTWO HCT
            clear hsn hqf hf5 hpair hs HPRE HWS
            generalize fullN n - wayW n a p s = q2t at hwrap hq2z HTWO HCT
            generalize wayW n a p s = qt at HSH hwrap hqz HTWO HCT
            generalize (waysK n a i ++ wayP n a p s).foldl min a = mt at hmz HTWO ⊢
            generalize (waysK n a i ++ wayP n a p s).count a = ct at hcz HCT ⊢
            have key : ∀ b1 b2 : Bool, ((qt : Int) == (a : Int)) = b1 → ((q2t : Int) == (a : Int)) = b2 → Hid (((waysK n a i ++ wayP n a p (s + 1)).count a : Nat) = ct + b1.toNat + b2.toNat) := by
              intro b1 b2 h1 h2
              refine Lib.hid ?_
              rw [HCT.out]
              have e1 : (if qt = a then 1 else 0) = b1.toNat := by
                subst h1
                by_cases h : qt = a
                · simp [h]
                · have h' : ((qt : Int) == (a : Int)) = false := by simp; omega
                  rw [h', if_neg h]; rfl
              have e2 : (if q2t = a then 1 else 0) = b2.toNat := by
                subst h2
                by_cases h : q2t = a
                · simp [h]
                · have h' : ((q2t : Int) == (a : Int)) = false := by simp; omega
                  rw [h', if_neg h]; rfl
              rw [e1, e2]
            cases hb1 : ((qt : Int) == (a : Int)) <;> cases hb2 : ((q2t : Int) == (a : Int))
            all_goals
              have HK := key _ _ hb1 hb2
              clear key
              go_wp2_with fail
              refine (HSH.out _).mono ?_
              rintro e w4 ⟨rfl, hb4⟩
              have y0 : (w4.alloc (.cells #[.int .i64 (n : Int), .int .i64 (qt : Int)] 25)).cell? ⟨w.heap.size, 0, none⟩ = some (.int .i64 (n : Int)) := keepA (keepB hb4 q0)
              have y1 : (w4.alloc (.cells #[.int .i64 (n : Int), .int .i64 (qt : Int)] 25)).cell? ⟨w.heap.size, 1, none⟩ = some (.int .i64 (a : Int)) := keepA (keepB hb4 q1)
              have z0 : (w4.alloc (.cells #[.int .i64 (n : Int), .int .i64 (qt : Int)] 25)).cell? ⟨w4.heap.size, 0, none⟩ = some (.int .i64 (n : Int)) := keepN rfl rfl
              have z1 : (w4.alloc (.cells #[.int .i64 (n : Int), .int .i64 (qt : Int)] 25)).cell? ⟨w4.heap.size, 1, none⟩ = some (.int .i64 (qt : Int)) := keepN rfl rfl
              have HB4 := Lib.hid (bA (o := .cells #[.int .i64 (n : Int), .int .i64 (qt : Int)] 25) (by have := HBEL.out.size; have := hb4.size; omega) (bstep HBEL.out hb4))
              clear hb4
              go_wp2_with fail
              go_quiet ((go_at_call 62; exact quiet_eq (Tab.fullM n (by have := HN.out; omega) _)))
              go_wp2
              go_roundw
              case rel => exact ⟨s + 1, by go_num, by omega, by rw [HTWO.out, min_if], by rw [HK.out]; simp only [Bool.toNat_true, Bool.toNat_false]; go_num, below_drewN HB4.out _⟩
              case measure => simp [intOf]; omega
          · have he : s = 2 ^ n := by rw [up2] at hs hlt2; omega
            rw [he, ← HSU.out]
            have HB5 := Lib.hid (bstep BC.out HBEL.out)
            clear hs hlt2 he
            go_wp2
            go_roundw
            case rel => exact ⟨i + 1, by go_num, by have := HI.out; omega, rfl, rfl, HB5.out⟩
            case measure => simp [intOf] <;> omega
    · obtain rfl : i = (permsL n).length := by omega
      rw [waysK_all]
      have HB5 := Lib.hid (bstep HB2.out HBEL.out)
      go_wp2
      go_ret2
      exact ⟨rfl, HB5.out⟩
end Go.Proofs.Ythdcjldmafhcjaa
