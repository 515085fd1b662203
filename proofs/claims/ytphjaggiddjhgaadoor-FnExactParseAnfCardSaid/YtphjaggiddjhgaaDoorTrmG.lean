/-
  Chapter 6: ParseTerm of the program.
-/
import Derived.Test.YtphjaggiddjhgaaDoorTrmF
import Derived.Test.YtphjaggiddjhgaaDoorResJ2
import Derived.Shelf.Small.Wraps
import Derived.Deep.RegionWith
namespace Go.Proofs.YtphjaggiddjhgaaDoor
open Go.RowKit Plain Go.Shelf
set_option linter.unusedVariables false

theorem Cut.prefix (r p : List UInt8) (w : World) :
    Calls Tryd.prog 36 #[.string ⟨r.toArray⟩, .string ⟨p.toArray⟩] w fun e w' => e = .returned (.tuple #[.string ⟨(Lib.trimPrefix r p).toArray⟩, .bool (Lib.hasPrefix r p)]) ∧ w = w' :=
  (Any.strings_CutPrefix Tryd.lays103 ⟨r.toArray⟩ ⟨p.toArray⟩ w).mono fun e w' ⟨h1, h2⟩ => ⟨h1, h2.symm⟩

/-- What ParseTerm answers. -/
def Plain.parO (o : Option Tm) : Value := .tuple #[.agg #[.int .i64 ((o.getD (0, 0)).1 : Int), .int .i64 ((o.getD (0, 0)).2 : Int)], .bool o.isSome]

theorem orb_i64 : ∀ m < 32, ∀ i < 5, Go.bits .or .i64 ((m : Nat) : Int) (IntKind.i64.wrap ((2 : Int) ^ i)) = ((m ||| 2 ^ i : Nat) : Int) := by decide +kernel
theorem orb_i64' : ∀ m < 32, ∀ i < 5, Go.bits .or .i64 ((m : Nat) : Int) (wrap64 ((2 : Int) ^ i)) = ((m ||| 2 ^ i : Nat) : Int) := by decide +kernel

theorem alloc_at (w : World) (o : Obj) : (w.alloc o).heap[w.heap.size]? = some o := heap_alloc_new w o
theorem blk0 {w : World} {b : Nat} {x y : Value} {T : TypeId} (h : w.heap[b]? = some (.cells #[x, y] T (0, 0))) : w.cell? ⟨b, 0, none⟩ = some x := by simp [World.cell?, h]
theorem blk1 {w : World} {b : Nat} {x y : Value} {T : TypeId} (h : w.heap[b]? = some (.cells #[x, y] T (0, 0))) : w.cell? ⟨b, 1, none⟩ = some y := by simp [World.cell?, h]
theorem blkF {w : World} {b : Nat} {x y : Value} {T : TypeId} (h : w.heap[b]? = some (.cells #[x, y] T (0, 0))) (j : Nat) : w.frozen? ⟨b, j, none⟩ = false := Lib.frozen_of_heap h j

theorem text_is (s : ByteArray) (l : List UInt8) (hs : s = ⟨l.toArray⟩) (x : List UInt8) :
    (x = l → ((⟨x.toArray⟩ : ByteArray).toList == s.toList) = true) ∧ (x ≠ l → ((⟨x.toArray⟩ : ByteArray).toList == s.toList) = false) := by
  subst hs
  rw [ByteArray.toList_eq, ByteArray.toList_eq]
  constructor
  · intro h; subst h; simp
  · intro h
    rw [beq_eq_false_iff_ne]
    simpa using h

theorem Ptm.I_no (n : Int) (hn : ¬ (0 ≤ n ∧ n ≤ 5)) (s : ByteArray) (w : World) :
    Calls Tryd.prog 28 #[.int .i64 n, .string s] w fun e w' => e = .returned (parO none) ∧ Below w.heap.size w w' := by
  have H := Lib.hid (inB_no hn)
  clear hn
  show Calls _ _ _ _ (fun e w' => e = .returned (.tuple #[.agg #[.int .i64 0, .int .i64 0], .bool false]) ∧ _)
  go_enter Tryd.func28, Tryd.ntmps28
  go_wp2_with fail
  refine (Tab.bits _ _).mono ?_
  rintro e w1 ⟨rfl, rfl⟩
  rw [H.out]
  go_wp2
  exact bodyPost_ret (v := .tuple #[.agg #[.int .i64 0, .int .i64 0], .bool false]) (by simp [results, Tryd.results28, go_sem]) rfl ⟨rfl, by
      repeat (first | (with_reducible exact Below.refl _ _) | (with_reducible assumption) | ((with_reducible refine bS ?_ ?_); (focus (dsimp only; omega))) | ((with_reducible refine bA ?_ ?_); (focus (first | omega | (simp; done) | (simp; omega)))) | (with_reducible refine bD ?_))⟩

set_option maxRecDepth 100000 in
set_option maxHeartbeats 1000000 in
theorem Ptm.I_yes (n : Nat) (hn : n ≤ 5) (s : ByteArray) (w : World) :
    Calls Tryd.prog 28 #[.int .i64 n, .string s] w fun e w' => e = .returned (parO (parT n s.data.toList)) ∧ Below w.heap.size w w' := by
  have H := Lib.hid (inB_yes (show 0 ≤ (n : Int) ∧ (n : Int) ≤ 5 by omega))
  have HP := Lib.hid (parT_yes (s := s.data.toList) hn)
  have HN := Lib.hid hn
  obtain ⟨l, hl⟩ : ∃ l, s.data.toList = l := ⟨_, rfl⟩
  have hsl : s = ⟨l.toArray⟩ := by rw [← hl]
  have HSL := Lib.hid hsl
  have HOK := Lib.hid (runI_ok l)
  have hn5 : (n : Int) ≤ 5 := by omega
  rw [hl] at HP ⊢
  clear hl hsl hn
  obtain ⟨O, hO⟩ : ∃ O, parT (n : Int) l = O := ⟨_, rfl⟩
  rw [hO] at HP ⊢
  clear hO
  go_enter Tryd.func28, Tryd.ntmps28
  go_wp2_with fail
  refine (Tab.bits _ _).mono ?_
  rintro e w1 ⟨rfl, rfl⟩
  rw [H.out]
  go_wp2
  obtain ⟨W, hW⟩ : ∃ W, (w.alloc (.cells #[.int .i64 0, .int .i64 0] 47)).alloc (.cells #[.int .i64 0, .int .i64 0] 47) = W := ⟨_, rfl⟩
  have hWs : W.heap.size = w.heap.size + 2 := by rw [← hW]; simp
  have HW0 : Hid (W.heap[w.heap.size]? = some (.cells #[.int .i64 0, .int .i64 0] 47 (0, 0))) := Lib.hid (hW ▸ (heap_alloc_old _ _ (by simp)).trans (alloc_at w _))
  have HW1 : Hid (W.heap[w.heap.size + 1]? = some (.cells #[.int .i64 0, .int .i64 0] 47 (0, 0))) := Lib.hid (hW ▸ (by have := alloc_at (w.alloc (.cells #[.int .i64 0, .int .i64 0] 47)) (.cells #[.int .i64 0, .int .i64 0] 47 (0, 0)); rw [World.size_alloc] at this; exact this))
  have HBW : Hid (Below w.heap.size w W) := Lib.hid (hW ▸ bA (by simp) (bA (Nat.le_refl _) (Below.refl _ _)))
  rw [hW]
  clear hW
  go_loopw [7, 8, 9, 10, 11, 12, 19] (fun rest _ _ _ _ _ i wr => ∃ (k m v : Nat) (r : List UInt8), i = .int .i64 (k : Int) ∧ k ≤ n ∧ rest = .string ⟨r.toArray⟩ ∧ runI l k = (r, m, v) ∧ wr.heap[w.heap.size]? = some (.cells #[.int .i64 0, .int .i64 0] 47 (0, 0)) ∧ wr.heap[w.heap.size + 1]? = some (.cells #[.int .i64 m, .int .i64 v] 47 (0, 0)) ∧ wr.heap.size = w.heap.size + 2 ∧ Below w.heap.size w wr) (fun _ _ _ _ _ _ i _ => 6 - (intOf i).toNat)
  case atStart => exact ⟨0, 0, 0, l, rfl, by omega, by rw [HSL.out], rfl, HW0.out, HW1.out, hWs, HBW.out⟩
  case round =>
    obtain ⟨k, m, v, r, rfl, hk, rfl, hrun, hh0, hh1, hsz, hbel⟩ := hrel
    have HBEL := Lib.hid hbel
    have HH0 := Lib.hid hh0
    have HH1 := Lib.hid hh1
    have HRUN := Lib.hid hrun
    have c0 := blk0 hh1
    have c1 := blk1 hh1
    have f0 := blkF hh1 0
    have f1 := blkF hh1 1
    have hok := HOK.out k (by have := HN.out; omega)
    rw [hrun] at hok
    have hpw := pow5q (show k ≤ 5 by have := HN.out; omega)
    have hle : v ≤ m := by have := hok.2; dsimp only at this; rw [← this]; exact Nat.and_le_right
    have hm31 : m < 32 := by have := hok.1; dsimp only at this; omega
    clear hbel hrun hh0 hh1 hok hpw
    by_cases hlt : k < n
    · have hkz : (k : Int) < (n : Int) := by omega
      have hk5 : k < 5 := by omega
      have hsl := slice_letter k hk5
      have hor1 := orb_i64 m hm31 k hk5
      have hor2 := orb_i64 v (by omega) k hk5
      have HC1 := Lib.hid (Cut.prefix r [33])
      have HC2 := Lib.hid (Cut.prefix (Lib.trimPrefix r [33]) [UInt8.ofNat (97 + k)])
      have HST : Hid (runI l (k + 1) = if Lib.hasPrefix (Lib.trimPrefix r [33]) [UInt8.ofNat (97 + k)] = true then (Lib.trimPrefix (Lib.trimPrefix r [33]) [UInt8.ofNat (97 + k)], m ||| 2 ^ k, if Lib.hasPrefix r [33] = true then v else v ||| 2 ^ k) else (r, m, v)) := Lib.hid (by
        show stI k (runI l k) = _
        rw [HRUN.out]; rfl)
      generalize Lib.hasPrefix (Lib.trimPrefix r [33]) [UInt8.ofNat (97 + k)] = found at HC2 HST
      generalize Lib.trimPrefix (Lib.trimPrefix r [33]) [UInt8.ofNat (97 + k)] = behind at HC2 HST
      generalize Lib.hasPrefix r [33] = neg at HC1 HST
      generalize Lib.trimPrefix r [33] = u at HC1 HC2
      have hkk : (k : Int) < 5 := by omega
      generalize UInt8.ofNat (97 + k) = c at hsl HC2
      clear hlt hk5
      cases found
      case false =>
        have HST2 : Hid (runI l (k + 1) = (r, m, v)) := Lib.hid HST.out
        clear HST
        go_wp2_with fail
        refine (HC1.out _).mono ?_
        rintro e w2 ⟨rfl, rfl⟩
        go_wp2_with fail
        refine (HC2.out _).mono ?_
        rintro e w2 ⟨rfl, rfl⟩
        go_wp2
        go_roundw
        case rel => exact ⟨k + 1, m, v, r, by go_num, by omega, rfl, HST2.out, HH0.out, HH1.out, hsz, HBEL.out⟩
        case measure => simp [intOf] <;> omega
      case true =>
        cases neg
        case true =>
          have HST2 : Hid (runI l (k + 1) = (behind, m ||| 2 ^ k, v)) := Lib.hid HST.out
          clear HST
          go_wp2_with fail
          refine (HC1.out _).mono ?_
          rintro e w2 ⟨rfl, rfl⟩
          go_wp2_with fail
          refine (HC2.out _).mono ?_
          rintro e w2 ⟨rfl, rfl⟩
          go_wp2
          go_region_with (fail)
          all_goals
            go_wp2
            go_roundw
            case rel => exact ⟨k + 1, m ||| 2 ^ k, v, behind, by go_num, by omega, rfl, HST2.out, put_other HH0.out (by omega) _, put0 HH1.out _, by simpa using hsz, bD (bS (by dsimp only; omega) HBEL.out)⟩
            case measure => simp [intOf] <;> omega
        case false =>
          have HST2 : Hid (runI l (k + 1) = (behind, m ||| 2 ^ k, v ||| 2 ^ k)) := Lib.hid HST.out
          clear HST
          go_wp2_with fail
          refine (HC1.out _).mono ?_
          rintro e w2 ⟨rfl, rfl⟩
          go_wp2_with fail
          refine (HC2.out _).mono ?_
          rintro e w2 ⟨rfl, rfl⟩
          go_wp2
          go_region_with (fail)
          all_goals
            go_wp2
            go_region_with (fail)
          all_goals
            go_wp2
            go_roundw
            case rel => exact ⟨k + 1, m ||| 2 ^ k, v ||| 2 ^ k, behind, by go_num, by omega, rfl, HST2.out, put_other (put_other HH0.out (by omega) _) (by omega) _, put1 (put0 HH1.out _) _, by simpa using hsz, bD (bD (bS (by dsimp only; omega) (bS (by dsimp only; omega) HBEL.out)))⟩
            case measure => simp [intOf] <;> omega
    · obtain rfl : k = n := by omega
      have HF := Lib.hid (Trm.fmtI (k : Int) m v (by omega))
      have HPP := HP.out
      rw [HRUN.out] at HPP
      have HLT := Lib.hid (text_is s l HSL.out (fmtTm k m v))
      have k1 := blk0 HH0.out
      have k2 := blk1 HH0.out
      have k3 := blkF HH0.out 0
      have k4 := blkF HH0.out 1
      have hz0 : w.heap.size < wr.heap.size := by omega
      dsimp only at HPP
      have hkk : (k : Int) ≤ 5 := by omega
      clear hlt HP HRUN HOK
      by_cases hfm : fmtTm k m v = l
      · have he := HLT.out.1 hfm
        rw [if_pos hfm] at HPP
        subst HPP
        obtain ⟨t, ht⟩ : ∃ t : ByteArray, (⟨(fmtTm k m v).toArray⟩ : ByteArray) = t := ⟨_, rfl⟩
        rw [ht] at HF he
        clear hfm HLT ht
        show Code.wp _ _ _ _ _
        go_wp2_with fail
        refine (HF.out _).mono ?_
        rintro e w2 ⟨rfl, hb2⟩
        obtain ⟨q1, q2⟩ := bcell hb2
        have HB2 := Lib.hid (bB hb2 (by omega) HBEL.out)
        have hs2 := hb2.size
        have d0 := keepB hb2 c0
        have d1 := keepB hb2 c1
        have i0 := keepB hb2 k1
        have i1 := keepB hb2 k2
        clear hb2
        go_wp2
        exact bodyPost_ret (v := .tuple #[.agg #[.int .i64 m, .int .i64 v], .bool true]) (by simp [results, Tryd.results28, go_sem, i0, i1]) rfl ⟨rfl, bS (by dsimp only; omega) (bS (by dsimp only; omega) HB2.out)⟩
      · have he := HLT.out.2 hfm
        rw [if_neg hfm] at HPP
        subst HPP
        obtain ⟨t, ht⟩ : ∃ t : ByteArray, (⟨(fmtTm k m v).toArray⟩ : ByteArray) = t := ⟨_, rfl⟩
        rw [ht] at HF he
        clear hfm HLT ht
        go_wp2_with fail
        refine (HF.out _).mono ?_
        rintro e w2 ⟨rfl, hb2⟩
        obtain ⟨q1, q2⟩ := bcell hb2
        have HB2 := Lib.hid (bB hb2 (by omega) HBEL.out)
        have hs2 := hb2.size
        have i0 := keepB hb2 k1
        have i1 := keepB hb2 k2
        clear hb2
        go_wp2
        exact bodyPost_ret (v := .tuple #[.agg #[.int .i64 0, .int .i64 0], .bool false]) (by simp [results, Tryd.results28, go_sem, i0, i1]) rfl ⟨rfl, bS (by dsimp only; omega) (bS (by dsimp only; omega) HB2.out)⟩

/-- ParseTerm of the program. -/
theorem Ptm.I (n : Int) (s : ByteArray) (w : World) :
    Calls Tryd.prog 28 #[.int .i64 n, .string s] w fun e w' => e = .returned (parO (parT n s.data.toList)) ∧ Below w.heap.size w w' := by
  by_cases hn : 0 ≤ n ∧ n ≤ 5
  · obtain ⟨k, rfl⟩ := Int.eq_ofNat_of_zero_le hn.1
    exact Ptm.I_yes k (by omega) s w
  · rw [parT_no hn]
    exact Ptm.I_no n hn s w

end Go.Proofs.YtphjaggiddjhgaaDoor
