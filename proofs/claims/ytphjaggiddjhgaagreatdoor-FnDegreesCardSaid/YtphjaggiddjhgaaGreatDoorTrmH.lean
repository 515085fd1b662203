/-
  Blocks of two cells, written into.
  Chapter 6: ParseTerm of the program.
  Chapter 6: ParseTerm of the model.
-/
import Derived.Test.YtphjaggiddjhgaaGreatDoorTabA
import Derived.Test.YtphjaggiddjhgaaGreatDoorTrmF
import Derived.Shelf.Small.Wraps
import Derived.Deep.RegionWith

namespace Go.Proofs.YtphjaggiddjhgaaGreatDoor
open Go.RowKit Plain
set_option linter.unusedVariables false

theorem put0 {w : World} {b : Nat} {x y : Value} {T : TypeId} (h : w.heap[b]? = some (.cells #[x, y] T (0, 0))) (u : Value) : (w.setCell ⟨b, 0, none⟩ u).heap[b]? = some (.cells #[u, y] T (0, 0)) := by
  rw [heap_setCell_same w b 0 _ _ u h]; rfl
theorem put1 {w : World} {b : Nat} {x y : Value} {T : TypeId} (h : w.heap[b]? = some (.cells #[x, y] T (0, 0))) (u : Value) : (w.setCell ⟨b, 1, none⟩ u).heap[b]? = some (.cells #[x, u] T (0, 0)) := by
  rw [heap_setCell_same w b 1 _ _ u h]; rfl
theorem put_other {w : World} {b c j : Nat} {o : Option Obj} (h : w.heap[c]? = o) (hne : b ≠ c) (u : Value) : (w.setCell ⟨b, j, none⟩ u).heap[c]? = o := by
  rw [heap_setCell_other _ ⟨b, j, none⟩ c u (fun e => hne (by simp [e]))]; exact h

end Go.Proofs.YtphjaggiddjhgaaGreatDoor

namespace Go.Proofs.YtphjaggiddjhgaaGreatDoor
open Go.RowKit Plain Go.Shelf
set_option linter.unusedVariables false

theorem Cut.front (r p : List UInt8) (w : World) :
    Calls Tryz.prog 70 #[.string ⟨r.toArray⟩, .string ⟨p.toArray⟩] w fun e w' => e = .returned (.tuple #[.string ⟨(Lib.trimPrefix r p).toArray⟩, .bool (Lib.hasPrefix r p)]) ∧ w = w' :=
  (Any.strings_CutPrefix Tryz.lays103 ⟨r.toArray⟩ ⟨p.toArray⟩ w).mono fun e w' ⟨h1, h2⟩ => ⟨h1, h2.symm⟩

/-- What ParseTerm answers. -/
def Plain.parO (o : Option Tm) : Value := .tuple #[.agg #[.int .i64 ((o.getD (0, 0)).1 : Int), .int .i64 ((o.getD (0, 0)).2 : Int)], .bool o.isSome]

theorem orb_i64 : ∀ m < 32, ∀ i < 5, Go.bits .or .i64 ((m : Nat) : Int) (IntKind.i64.wrap ((2 : Int) ^ i)) = ((m ||| 2 ^ i : Nat) : Int) := by decide +kernel
theorem orb_i64' : ∀ m < 32, ∀ i < 5, Go.bits .or .i64 ((m : Nat) : Int) (wrap64 ((2 : Int) ^ i)) = ((m ||| 2 ^ i : Nat) : Int) := by decide +kernel

theorem alloc_at (w : World) (o : Obj) : (w.alloc o).heap[w.heap.size]? = some o := heap_alloc_new w o
theorem blk0 {w : World} {b : Nat} {x y : Value} {T : TypeId} (h : w.heap[b]? = some (.cells #[x, y] T (0, 0))) : w.cell? ⟨b, 0, none⟩ = some x := by simp [World.cell?, h]
theorem blk1 {w : World} {b : Nat} {x y : Value} {T : TypeId} (h : w.heap[b]? = some (.cells #[x, y] T (0, 0))) : w.cell? ⟨b, 1, none⟩ = some y := by simp [World.cell?, h]
theorem blkF {w : World} {b : Nat} {x y : Value} {T : TypeId} (h : w.heap[b]? = some (.cells #[x, y] T (0, 0))) (j : Nat) : w.frozen? ⟨b, j, none⟩ = false := Lib.frozen_of_heap h j

theorem text_is (s : ByteArray) (l : List UInt8) (hs : s = ⟨l.toArray⟩) (x : List UInt8) :
    (x = l → ((⟨x.toArray⟩ : ByteArray).toList == s.toList) = true) ∧ (x ≠ l → ((⟨x.toArray⟩ : ByteArray).toList == s.toList) = false) := by
  subst hs
  rw [ByteArray.toList_eq, ByteArray.toList_eq]
  constructor
  · intro h; subst h; simp
  · intro h
    rw [beq_eq_false_iff_ne]
    simpa using h

theorem Ptm.I_no (n : Int) (hn : ¬ (0 ≤ n ∧ n ≤ 5)) (s : ByteArray) (w : World) :
    Calls Tryz.prog 47 #[.int .i64 n, .string s] w fun e w' => e = .returned (parO none) ∧ Below w.heap.size w w' := by
  have H := Lib.hid (inB_no hn)
  clear hn
  show Calls _ _ _ _ (fun e w' => e = .returned (.tuple #[.agg #[.int .i64 0, .int .i64 0], .bool false]) ∧ _)
  go_enter Tryz.func47, Tryz.ntmps47
  go_wp2_with fail
  refine (Tab.bits _ _).mono ?_
  rintro e w1 ⟨rfl, rfl⟩
  rw [H.out]
  go_wp2
  exact bodyPost_ret (v := .tuple #[.agg #[.int .i64 0, .int .i64 0], .bool false]) (by simp [results, Tryz.results47, go_sem]) rfl ⟨rfl, by
      repeat (first | (with_reducible exact Below.refl _ _) | (with_reducible assumption) | ((with_reducible refine bS ?_ ?_); (focus (dsimp only; omega))) | ((with_reducible refine bA ?_ ?_); (focus (first | omega | (simp; done) | (simp; omega)))) | (with_reducible refine bD ?_))⟩

set_option maxRecDepth 100000 in
set_option maxHeartbeats 1000000 in
theorem Ptm.I_yes (n : Nat) (hn : n ≤ 5) (s : ByteArray) (w : World) :
    Calls Tryz.prog 47 #[.int .i64 n, .string s] w fun e w' => e = .returned (parO (parT n s.data.toList)) ∧ Below w.heap.size w w' := by
  have H := Lib.hid (inB_yes (show 0 ≤ (n : Int) ∧ (n : Int) ≤ 5 by omega))
  have HP := Lib.hid (parT_yes (s := s.data.toList) hn)
  have HN := Lib.hid hn
  obtain ⟨l, hl⟩ : ∃ l, s.data.toList = l := ⟨_, rfl⟩
  have hsl : s = ⟨l.toArray⟩ := by rw [← hl]
  have HSL := Lib.hid hsl
  have HOK := Lib.hid (runI_ok l)
  have hn5 : (n : Int) ≤ 5 := by omega
  rw [hl] at HP ⊢
  clear hl hsl hn
  obtain ⟨O, hO⟩ : ∃ O, parT (n : Int) l = O := ⟨_, rfl⟩
  rw [hO] at HP ⊢
  clear hO
  go_enter Tryz.func47, Tryz.ntmps47
  go_wp2_with fail
  refine (Tab.bits _ _).mono ?_
  rintro e w1 ⟨rfl, rfl⟩
  rw [H.out]
  go_wp2
  obtain ⟨W, hW⟩ : ∃ W, (w.alloc (.cells #[.int .i64 0, .int .i64 0] 56)).alloc (.cells #[.int .i64 0, .int .i64 0] 56) = W := ⟨_, rfl⟩
  have hWs : W.heap.size = w.heap.size + 2 := by rw [← hW]; simp
  have HW0 : Hid (W.heap[w.heap.size]? = some (.cells #[.int .i64 0, .int .i64 0] 56 (0, 0))) := Lib.hid (hW ▸ (heap_alloc_old _ _ (by simp)).trans (alloc_at w _))
  have HW1 : Hid (W.heap[w.heap.size + 1]? = some (.cells #[.int .i64 0, .int .i64 0] 56 (0, 0))) := Lib.hid (hW ▸ (by have := alloc_at (w.alloc (.cells #[.int .i64 0, .int .i64 0] 56)) (.cells #[.int .i64 0, .int .i64 0] 56 (0, 0)); rw [World.size_alloc] at this; exact this))
  have HBW : Hid (Below w.heap.size w W) := Lib.hid (hW ▸ bA (by simp) (bA (Nat.le_refl _) (Below.refl _ _)))
  rw [hW]
  clear hW
  go_loopw [7, 8, 9, 10, 11, 12, 19] (fun rest _ _ _ _ _ i wr => ∃ (k m v : Nat) (r : List UInt8), i = .int .i64 (k : Int) ∧ k ≤ n ∧ rest = .string ⟨r.toArray⟩ ∧ runI l k = (r, m, v) ∧ wr.heap[w.heap.size]? = some (.cells #[.int .i64 0, .int .i64 0] 56 (0, 0)) ∧ wr.heap[w.heap.size + 1]? = some (.cells #[.int .i64 m, .int .i64 v] 56 (0, 0)) ∧ wr.heap.size = w.heap.size + 2 ∧ Below w.heap.size w wr) (fun _ _ _ _ _ _ i _ => 6 - (intOf i).toNat)
  case atStart => exact ⟨0, 0, 0, l, rfl, by omega, by rw [HSL.out], rfl, HW0.out, HW1.out, hWs, HBW.out⟩
  case round =>
    obtain ⟨k, m, v, r, rfl, hk, rfl, hrun, hh0, hh1, hsz, hbel⟩ := hrel
    have HBEL := Lib.hid hbel
    have HH0 := Lib.hid hh0
    have HH1 := Lib.hid hh1
    have HRUN := Lib.hid hrun
    have c0 := blk0 hh1
    have c1 := blk1 hh1
    have f0 := blkF hh1 0
    have f1 := blkF hh1 1
    have hok := HOK.out k (by have := HN.out; omega)
    rw [hrun] at hok
    have hpw := pow5q (show k ≤ 5 by have := HN.out; omega)
    have hle : v ≤ m := by have := hok.2; dsimp only at this; rw [← this]; exact Nat.and_le_right
    have hm31 : m < 32 := by have := hok.1; dsimp only at this; omega
    clear hbel hrun hh0 hh1 hok hpw
    by_cases hlt : k < n
    · have hkz : (k : Int) < (n : Int) := by omega
      have hk5 : k < 5 := by omega
      have hsl := slice_letter k hk5
      have hor1 := orb_i64 m hm31 k hk5
      have hor2 := orb_i64 v (by omega) k hk5
      have HC1 := Lib.hid (Cut.front r [33])
      have HC2 := Lib.hid (Cut.front (Lib.trimPrefix r [33]) [UInt8.ofNat (97 + k)])
      have HST : Hid (runI l (k + 1) = if Lib.hasPrefix (Lib.trimPrefix r [33]) [UInt8.ofNat (97 + k)] = true then (Lib.trimPrefix (Lib.trimPrefix r [33]) [UInt8.ofNat (97 + k)], m ||| 2 ^ k, if Lib.hasPrefix r [33] = true then v else v ||| 2 ^ k) else (r, m, v)) := Lib.hid (by
        show stI k (runI l k) = _
        rw [HRUN.out]; rfl)
      generalize Lib.hasPrefix (Lib.trimPrefix r [33]) [UInt8.ofNat (97 + k)] = found at HC2 HST
      generalize Lib.trimPrefix (Lib.trimPrefix r [33]) [UInt8.ofNat (97 + k)] = behind at HC2 HST
      generalize Lib.hasPrefix r [33] = neg at HC1 HST
      generalize Lib.trimPrefix r [33] = u at HC1 HC2
      have hkk : (k : Int) < 5 := by omega
      generalize UInt8.ofNat (97 + k) = c at hsl HC2
      clear hlt hk5
      cases found
      case false =>
        have HST2 : Hid (runI l (k + 1) = (r, m, v)) := Lib.hid HST.out
        clear HST
        go_wp2_with fail
        refine (HC1.out _).mono ?_
        rintro e w2 ⟨rfl, rfl⟩
        go_wp2_with fail
        refine (HC2.out _).mono ?_
        rintro e w2 ⟨rfl, rfl⟩
        go_wp2
        go_roundw
        case rel => exact ⟨k + 1, m, v, r, by go_num, by omega, rfl, HST2.out, HH0.out, HH1.out, hsz, HBEL.out⟩
        case measure => simp [intOf] <;> omega
      case true =>
        cases neg
        case true =>
          have HST2 : Hid (runI l (k + 1) = (behind, m ||| 2 ^ k, v)) := Lib.hid HST.out
          clear HST
          go_wp2_with fail
          refine (HC1.out _).mono ?_
          rintro e w2 ⟨rfl, rfl⟩
          go_wp2_with fail
          refine (HC2.out _).mono ?_
          rintro e w2 ⟨rfl, rfl⟩
          go_wp2
          go_region_with (fail)
          all_goals
            go_wp2
            go_roundw
            case rel => exact ⟨k + 1, m ||| 2 ^ k, v, behind, by go_num, by omega, rfl, HST2.out, put_other HH0.out (by omega) _, put0 HH1.out _, by simpa using hsz, bD (bS (by dsimp only; omega) HBEL.out)⟩
            case measure => simp [intOf] <;> omega
        case false =>
          have HST2 : Hid (runI l (k + 1) = (behind, m ||| 2 ^ k, v ||| 2 ^ k)) := Lib.hid HST.out
          clear HST
          go_wp2_with fail
          refine (HC1.out _).mono ?_
          rintro e w2 ⟨rfl, rfl⟩
          go_wp2_with fail
          refine (HC2.out _).mono ?_
          rintro e w2 ⟨rfl, rfl⟩
          go_wp2
          go_region_with (fail)
          all_goals
            go_wp2
            go_region_with (fail)
          all_goals
            go_wp2
            go_roundw
            case rel => exact ⟨k + 1, m ||| 2 ^ k, v ||| 2 ^ k, behind, by go_num, by omega, rfl, HST2.out, put_other (put_other HH0.out (by omega) _) (by omega) _, put1 (put0 HH1.out _) _, by simpa using hsz, bD (bD (bS (by dsimp only; omega) (bS (by dsimp only; omega) HBEL.out)))⟩
            case measure => simp [intOf] <;> omega
    · obtain rfl : k = n := by omega
      have HF := Lib.hid (Trm.fmtI (k : Int) m v (by omega))
      have HPP := HP.out
      rw [HRUN.out] at HPP
      have HLT := Lib.hid (text_is s l HSL.out (fmtTm k m v))
      have k1 := blk0 HH0.out
      have k2 := blk1 HH0.out
      have k3 := blkF HH0.out 0
      have k4 := blkF HH0.out 1
      have hz0 : w.heap.size < wr.heap.size := by omega
      dsimp only at HPP
      have hkk : (k : Int) ≤ 5 := by omega
      clear hlt HP HRUN HOK
      by_cases hfm : fmtTm k m v = l
      · have he := HLT.out.1 hfm
        rw [if_pos hfm] at HPP
        subst HPP
        obtain ⟨t, ht⟩ : ∃ t : ByteArray, (⟨(fmtTm k m v).toArray⟩ : ByteArray) = t := ⟨_, rfl⟩
        rw [ht] at HF he
        clear hfm HLT ht
        show Code.wp _ _ _ _ _
        go_wp2_with fail
        refine (HF.out _).mono ?_
        rintro e w2 ⟨rfl, hb2⟩
        obtain ⟨q1, q2⟩ := bcell hb2
        have HB2 := Lib.hid (bB hb2 (by omega) HBEL.out)
        have hs2 := hb2.size
        have d0 := keepB hb2 c0
        have d1 := keepB hb2 c1
        have i0 := keepB hb2 k1
        have i1 := keepB hb2 k2
        clear hb2
        go_wp2
        exact bodyPost_ret (v := .tuple #[.agg #[.int .i64 m, .int .i64 v], .bool true]) (by simp [results, Tryz.results47, go_sem, i0, i1]) rfl ⟨rfl, bS (by dsimp only; omega) (bS (by dsimp only; omega) HB2.out)⟩
      · have he := HLT.out.2 hfm
        rw [if_neg hfm] at HPP
        subst HPP
        obtain ⟨t, ht⟩ : ∃ t : ByteArray, (⟨(fmtTm k m v).toArray⟩ : ByteArray) = t := ⟨_, rfl⟩
        rw [ht] at HF he
        clear hfm HLT ht
        go_wp2_with fail
        refine (HF.out _).mono ?_
        rintro e w2 ⟨rfl, hb2⟩
        obtain ⟨q1, q2⟩ := bcell hb2
        have HB2 := Lib.hid (bB hb2 (by omega) HBEL.out)
        have hs2 := hb2.size
        have i0 := keepB hb2 k1
        have i1 := keepB hb2 k2
        clear hb2
        go_wp2
        exact bodyPost_ret (v := .tuple #[.agg #[.int .i64 0, .int .i64 0], .bool false]) (by simp [results, Tryz.results47, go_sem, i0, i1]) rfl ⟨rfl, bS (by dsimp only; omega) (bS (by dsimp only; omega) HB2.out)⟩

/-- ParseTerm of the program. -/
theorem Ptm.I (n : Int) (s : ByteArray) (w : World) :
    Calls Tryz.prog 47 #[.int .i64 n, .string s] w fun e w' => e = .returned (parO (parT n s.data.toList)) ∧ Below w.heap.size w w' := by
  by_cases hn : 0 ≤ n ∧ n ≤ 5
  · obtain ⟨k, rfl⟩ := Int.eq_ofNat_of_zero_le hn.1
    exact Ptm.I_yes k (by omega) s w
  · rw [parT_no hn]
    exact Ptm.I_no n hn s w

end Go.Proofs.YtphjaggiddjhgaaGreatDoor

namespace Go.Proofs.YtphjaggiddjhgaaGreatDoor
open Go.RowKit Plain Go.Shelf
set_option linter.unusedVariables false

theorem byte_drop (s : ByteArray) (i : Nat) (h : i < s.size) : s.data.toList.drop i = s[i] :: s.data.toList.drop (i + 1) := by
  have h2 : i < s.data.toList.length := by simpa using h
  rw [List.drop_eq_getElem_cons h2]
  rfl

theorem nil_txt (s : ByteArray) : (s.data.toList = [] → (s.toList == []) = true) ∧ (s.data.toList ≠ [] → (s.toList == []) = false) := by
  rw [ByteArray.toList_eq]
  constructor
  · intro h; rw [h]; rfl
  · intro h; rw [beq_eq_false_iff_ne]; exact h
theorem one_txt (s : ByteArray) (h : s.data.toList ≠ [49]) : (s.toList == [49]) = false := by
  rw [ByteArray.toList_eq, beq_eq_false_iff_ne]; exact h

/-- What the model makes of the term that it has read. -/
def Plain.endM (n : Int) (l : List UInt8) (o : Option Tm) : Option Tm :=
  match o with
  | none => none
  | some t => if l = [] then none else if fmtTm n t.1 t.2 = l then some t else none

theorem endM_some (n : Int) (l : List UInt8) (t : Tm) : endM n l (some t) = if l = [] then none else if fmtTm n t.1 t.2 = l then some t else none := rfl

/-- A model's way for whatever n: N letters are known. -/
def Plain.knownN (n : Int) : Nat := if 0 ≤ n ∧ n ≤ 5 then n.toNat else 0

theorem goM_zero (l : List UInt8) : ∀ nt, goM 0 l nt 0 0 = none ∨ goM 0 l nt 0 0 = some (0, 0) := by
  induction l with
  | nil => intro nt; exact .inr rfl
  | cons b r ih =>
    intro nt
    by_cases h : b = 33
    · rw [goM_mark h]; exact ih true
    · rw [goM_no h (by omega)]; exact .inl rfl

theorem endM_is (n : Int) (l : List UInt8) : endM n l (goS (knownN n) l) = parT n l := by
  by_cases hn : 0 ≤ n ∧ n ≤ 5
  · obtain ⟨k, rfl⟩ := Int.eq_ofNat_of_zero_le hn.1
    have hk : k ≤ 5 := by omega
    have e : knownN (k : Int) = k := by unfold knownN; rw [if_pos hn]; rfl
    rw [e]
    by_cases hl : l = []
    · subst hl
      have : parT (k : Int) [] = none := by
        cases h : parT (k : Int) [] with
        | none => rfl
        | some t =>
          obtain ⟨h1, h2⟩ := parT_some h
          exact absurd h2 (fmtTm_ne h1)
      rw [this]
      unfold endM
      split
      · rfl
      · rfl
    · rw [parT_model hk hl]
      unfold endM
      cases goS k l with
      | none => rfl
      | some t =>
        dsimp only
        rw [if_neg hl]
  · have e : knownN n = 0 := if_neg hn
    rw [e, parT_no hn]
    have hf : ∀ m v : Int, fmtTm n m v = [] := fun m v => fmtTm_no (isTm_no fun h => hn h.1)
    unfold endM
    split
    · rfl
    · rename_i t ht
      by_cases hl : l = []
      · rw [if_pos hl]
      · rw [if_neg hl, hf, if_neg (fun h => hl h.symm)]

set_option maxRecDepth 100000 in
set_option maxHeartbeats 1000000 in
theorem Ptm.M_one (n : Int) (w : World) :
    Calls Tryz.prog 59 #[.int .i64 n, .string ⟨#[49]⟩] w fun e w' => e = .returned (parO (endM n [49] (some (0, 0)))) ∧ Below w.heap.size w w' := by
  have HF := Lib.hid (Trm.fmtM n 0 0)
  have HLT := Lib.hid (text_is ⟨[49].toArray⟩ [49] rfl (fmtTm n 0 0))
  rw [endM_some, if_neg (by decide)]
  dsimp only
  by_cases hfm : fmtTm n 0 0 = [49]
  · have he := HLT.out.1 hfm
    rw [show fmtTm n ((0 : Nat) : Int) ((0 : Nat) : Int) = _ from hfm, if_pos rfl]
    obtain ⟨t, ht⟩ : ∃ t : ByteArray, (⟨(fmtTm n 0 0).toArray⟩ : ByteArray) = t := ⟨_, rfl⟩
    rw [ht] at HF he
    rw [ByteArray.toList_eq ⟨[49].toArray⟩] at he
    have he' : (t.toList == [49]) = true := he
    clear hfm HLT ht he
    go_enter Tryz.func59, Tryz.ntmps59
    go_wp2
    refine wp_loop_rounds 1 ?_
    rw [rounds_succ]
    go_wp2_with fail
    refine (HF.out _).mono ?_
    rintro e w2 ⟨rfl, hb2⟩
    obtain ⟨q1, q2⟩ := bcell hb2
    have hs2 : w.heap.size + 2 ≤ w2.heap.size := by have := hb2.size; simp at this; omega
    have i0 : w2.cell? ⟨w.heap.size, 0, none⟩ = some (.int .i64 0) := keepB hb2 (keepA (keepN rfl rfl))
    have i1 : w2.cell? ⟨w.heap.size, 1, none⟩ = some (.int .i64 0) := keepB hb2 (keepA (keepN rfl rfl))
    have j0 : w2.cell? ⟨w.heap.size + 1, 0, none⟩ = some (.int .i64 0) := keepB hb2 (keepN (by simp) rfl)
    have j1 : w2.cell? ⟨w.heap.size + 1, 1, none⟩ = some (.int .i64 0) := keepB hb2 (keepN (by simp) rfl)
    have HB2 : Hid (Below w.heap.size w w2) := Lib.hid (bB hb2 (by simp; omega) (bA (by simp) (bA (Nat.le_refl _) (Below.refl _ _))))
    clear hb2
    go_wp2
    exact bodyPost_ret (v := .tuple #[.agg #[.int .i64 0, .int .i64 0], .bool true]) (by simp [results, Tryz.results59, go_sem, i0, i1]) rfl ⟨rfl, bS (by dsimp only; omega) (bS (by dsimp only; omega) HB2.out)⟩
  · have he := HLT.out.2 hfm
    rw [show fmtTm n ((0 : Nat) : Int) ((0 : Nat) : Int) = fmtTm n 0 0 from rfl, if_neg hfm]
    obtain ⟨t, ht⟩ : ∃ t : ByteArray, (⟨(fmtTm n 0 0).toArray⟩ : ByteArray) = t := ⟨_, rfl⟩
    rw [ht] at HF he
    rw [ByteArray.toList_eq ⟨[49].toArray⟩] at he
    have he' : (t.toList == [49]) = false := he
    clear hfm HLT ht he
    go_enter Tryz.func59, Tryz.ntmps59
    go_wp2
    refine wp_loop_rounds 1 ?_
    rw [rounds_succ]
    go_wp2_with fail
    refine (HF.out _).mono ?_
    rintro e w2 ⟨rfl, hb2⟩
    obtain ⟨q1, q2⟩ := bcell hb2
    have hs2 : w.heap.size + 2 ≤ w2.heap.size := by have := hb2.size; simp at this; omega
    have i0 : w2.cell? ⟨w.heap.size, 0, none⟩ = some (.int .i64 0) := keepB hb2 (keepA (keepN rfl rfl))
    have i1 : w2.cell? ⟨w.heap.size, 1, none⟩ = some (.int .i64 0) := keepB hb2 (keepA (keepN rfl rfl))
    have HB2 : Hid (Below w.heap.size w w2) := Lib.hid (bB hb2 (by simp; omega) (bA (by simp) (bA (Nat.le_refl _) (Below.refl _ _))))
    clear hb2
    go_wp2
    exact bodyPost_ret (v := .tuple #[.agg #[.int .i64 0, .int .i64 0], .bool false]) (by simp [results, Tryz.results59, go_sem, i0, i1]) rfl ⟨rfl, bS (by dsimp only; omega) (bS (by dsimp only; omega) HB2.out)⟩

/-- A byte as a number. -/
theorem known_letter {n : Int} {z : Int} (k : Nat) (hz : z = 97 + (k : Int)) (hk : k < knownN n) : (0 ≤ n ∧ n ≤ 5) ∧ (k : Int) ≤ n - 1 ∧ k < 5 := by
  unfold knownN at hk
  split at hk <;> omega

theorem known_none {n : Int} {q : Nat} (h : ¬ (97 ≤ q ∧ q < 97 + knownN n)) : ¬ (0 ≤ n ∧ n ≤ 5) ∨ ((0 ≤ n ∧ n ≤ 5) ∧ ¬ (0 ≤ (q : Int) - 97 ∧ (q : Int) - 97 ≤ n - 1)) := by
  unfold knownN at h
  split at h <;> omega

set_option maxRecDepth 100000 in
set_option maxHeartbeats 2000000 in
theorem Ptm.M_any (n : Int) (s : ByteArray) (hsize : (s.size : Int) ≤ 1048576) (h49 : s.data.toList ≠ [49]) (w : World) :
    Calls Tryz.prog 59 #[.int .i64 n, .string s] w fun e w' => e = .returned (parO (endM n s.data.toList (goM (knownN n) s.data.toList false 0 0))) ∧ Below w.heap.size w w' := by
  have t49 := one_txt s h49
  obtain ⟨N, hN⟩ : ∃ N, knownN n = N := ⟨_, rfl⟩
  obtain ⟨O, hO⟩ : ∃ O, goM N s.data.toList false 0 0 = O := ⟨_, rfl⟩
  rw [hN, hO]
  have HO := Lib.hid hO
  have HN := Lib.hid hN
  obtain ⟨R, hR⟩ : ∃ R, endM n s.data.toList O = R := ⟨_, rfl⟩
  rw [hR]
  have HR := Lib.hid hR
  clear hO hN hR h49
  go_enter Tryz.func59, Tryz.ntmps59
  go_wp2
  obtain ⟨W, hW⟩ : ∃ W, (w.alloc (.cells #[.int .i64 0, .int .i64 0] 56)).alloc (.cells #[.int .i64 0, .int .i64 0] 56) = W := ⟨_, rfl⟩
  have hWs : W.heap.size = w.heap.size + 2 := by rw [← hW]; simp
  have HW0 : Hid (W.heap[w.heap.size]? = some (.cells #[.int .i64 0, .int .i64 0] 56 (0, 0))) := Lib.hid (hW ▸ (heap_alloc_old _ _ (by simp)).trans (alloc_at w _))
  have HW1 : Hid (W.heap[w.heap.size + 1]? = some (.cells #[.int .i64 0, .int .i64 0] 56 (0, 0))) := Lib.hid (hW ▸ (by have := alloc_at (w.alloc (.cells #[.int .i64 0, .int .i64 0] 56)) (.cells #[.int .i64 0, .int .i64 0] 56 (0, 0)); rw [World.size_alloc] at this; exact this))
  have HBW : Hid (Below w.heap.size w W) := Lib.hid (hW ▸ bA (by simp) (bA (Nat.le_refl _) (Below.refl _ _)))
  rw [hW]
  clear hW
  go_loopw [7, 8, 9] (fun nt i _ wr => ∃ (y m v : Nat) (b : Bool), i = .int .i64 (y : Int) ∧ y ≤ s.size ∧ nt = .bool b ∧ goM N s.data.toList false 0 0 = goM N (s.data.toList.drop y) b m v ∧ (m < 32 ∧ v < 32) ∧ wr.heap[w.heap.size]? = some (.cells #[.int .i64 0, .int .i64 0] 56 (0, 0)) ∧ wr.heap[w.heap.size + 1]? = some (.cells #[.int .i64 m, .int .i64 v] 56 (0, 0)) ∧ wr.heap.size = w.heap.size + 2 ∧ Below w.heap.size w wr) (fun _ i _ _ => s.size - (intOf i).toNat)
  case atStart => exact ⟨0, 0, 0, false, rfl, Nat.zero_le _, rfl, rfl, ⟨by decide, by decide⟩, HW0.out, HW1.out, hWs, HBW.out⟩
  case round =>
    obtain ⟨y, m, v, b, rfl, hy, rfl, hgo, ⟨hm31, hv31⟩, hh0, hh1, hsz, hbel⟩ := hrel
    have HBEL := Lib.hid hbel
    have HH0 := Lib.hid hh0
    have HH1 := Lib.hid hh1
    have HGO := Lib.hid hgo
    have c0 := blk0 hh1
    have c1 := blk1 hh1
    have f0 := blkF hh1 0
    have f1 := blkF hh1 1
    have k0 := blk0 hh0
    have k1 := blk1 hh0
    have g0 := blkF hh0 0
    have g1 := blkF hh0 1
    clear hbel hh0 hh1 hgo
    by_cases hlt : y < s.size
    · have hyz : (y : Int) < (s.size : Int) := by omega
      have HD := Lib.hid (byte_drop s y hlt)
      by_cases h33 : s[y] = 33
      · have hq : (s[y].toNat : Int) = 33 := by rw [h33]; rfl
        have HG2 : Hid (goM N s.data.toList false 0 0 = goM N (s.data.toList.drop (y + 1)) true m v) := Lib.hid (by rw [HGO.out, HD.out, goM_mark h33])
        clear h33 HGO HD
        go_wp2
        go_roundw
        case rel => exact ⟨y + 1, m, v, true, by go_num, by omega, rfl, HG2.out, ⟨hm31, hv31⟩, HH0.out, HH1.out, hsz, HBEL.out⟩
        case measure => simp [intOf] <;> omega
      · have hq33 : ((s[y].toNat : Int) == 33) = false := by
          rw [beq_eq_false_iff_ne]
          intro e
          exact h33 (UInt8.toNat_inj.1 (by rw [show (33 : UInt8).toNat = 33 from rfl]; omega))
        have hq255 : (s[y].toNat : Int) ≤ 255 := by have := s[y].toNat_lt; omega
        by_cases hk : 97 ≤ s[y].toNat ∧ s[y].toNat < 97 + N
        · obtain ⟨k, hkq⟩ : ∃ k : Nat, s[y].toNat = 97 + k := ⟨s[y].toNat - 97, by omega⟩
          have hq : (s[y].toNat : Int) = 97 + (k : Int) := by omega
          have hkn := known_letter (n := n) k hq (by rw [HN.out]; omega)
          have HIN1 := Lib.hid (inB_yes hkn.1)
          have HIN2 := Lib.hid (inB_yes (show 0 ≤ (k : Int) ∧ (k : Int) ≤ n - 1 from ⟨by omega, hkn.2.1⟩))
          have hor1 := orb_i64 m hm31 k hkn.2.2
          have hor2 := orb_i64 v hv31 k hkn.2.2
          have HL := Lib.hid (goM_letter (n := N) h33 hk (s.data.toList.drop (y + 1)) b m v)
          rw [hkq, Nat.add_sub_cancel_left] at HL
          have hk5 : (k : Int) < 5 := by omega
          have hn5 := hkn.1
          have hp2 : 2 ^ k ≤ 2 ^ 4 := Nat.pow_le_pow_right (by decide) (by omega)
          have hm2 : m ||| 2 ^ k < 2 ^ 5 := Nat.or_lt_two_pow (by omega) (by omega)
          have hv2 : v ||| 2 ^ k < 2 ^ 5 := Nat.or_lt_two_pow (by omega) (by omega)
          have HM2 : Hid (m ||| 2 ^ k < 32 ∧ v ||| 2 ^ k < 32) := Lib.hid ⟨hm2, hv2⟩
          have h97 : (97 + (k : Int)) - 97 = (k : Int) := by omega
          clear hm2 hv2 hp2 hkn hk hkq hq33 h33
          cases b
          case true =>
            have HG2 : Hid (goM N s.data.toList false 0 0 = goM N (s.data.toList.drop (y + 1)) false (m ||| 2 ^ k) v) := Lib.hid (by rw [HGO.out, HD.out, HL.out]; rfl)
            clear HGO HD HL
            go_wp2_with fail
            refine (Widths.inRange _ _ _ _).mono ?_
            rintro e w2 ⟨rfl, rfl⟩
            rw [HIN1.out]
            go_wp2_with fail
            refine (Widths.inRange _ _ _ _).mono ?_
            rintro e w2 ⟨rfl, rfl⟩
            (try rw [h97])
            rw [HIN2.out]
            go_wp2
            go_region_with (fail)
            all_goals
              go_wp2
              go_roundw
              case rel => exact ⟨y + 1, m ||| 2 ^ k, v, false, by go_num, by omega, rfl, HG2.out, ⟨HM2.out.1, hv31⟩, put_other HH0.out (by omega) _, put0 HH1.out _, by simpa using hsz, bD (bS (by dsimp only; omega) HBEL.out)⟩
              case measure => simp [intOf] <;> omega
          case false =>
            have HG2 : Hid (goM N s.data.toList false 0 0 = goM N (s.data.toList.drop (y + 1)) false (m ||| 2 ^ k) (v ||| 2 ^ k)) := Lib.hid (by rw [HGO.out, HD.out, HL.out]; rfl)
            clear HGO HD HL
            go_wp2_with fail
            refine (Widths.inRange _ _ _ _).mono ?_
            rintro e w2 ⟨rfl, rfl⟩
            rw [HIN1.out]
            go_wp2_with fail
            refine (Widths.inRange _ _ _ _).mono ?_
            rintro e w2 ⟨rfl, rfl⟩
            (try rw [h97])
            rw [HIN2.out]
            go_wp2
            go_region_with (fail)
            all_goals
              go_wp2
              go_region_with (fail)
            all_goals
              go_wp2
              go_roundw
              case rel => exact ⟨y + 1, m ||| 2 ^ k, v ||| 2 ^ k, false, by go_num, by omega, rfl, HG2.out, HM2.out, put_other (put_other HH0.out (by omega) _) (by omega) _, put1 (put0 HH1.out _) _, by simpa using hsz, bD (bD (bS (by dsimp only; omega) (bS (by dsimp only; omega) HBEL.out)))⟩
              case measure => simp [intOf] <;> omega
        · have hno := known_none (n := n) (by rw [HN.out]; exact hk)
          have hO2 : O = none := by rw [← HO.out, HGO.out, HD.out, goM_no h33 hk]
          have hR2 : R = none := by rw [← HR.out, hO2]; rfl
          subst hR2
          clear hO2 HO HGO HD hk h33
          rcases hno with hn | ⟨hn, hkb⟩
          · have HIN1 := Lib.hid (inB_no hn)
            clear hn
            go_wp2_with fail
            refine (Widths.inRange _ _ _ _).mono ?_
            rintro e w2 ⟨rfl, rfl⟩
            rw [HIN1.out]
            go_wp2
            exact bodyPost_ret (v := .tuple #[.agg #[.int .i64 0, .int .i64 0], .bool false]) (by simp [results, Tryz.results59, go_sem, k0, k1]) rfl ⟨rfl, bS (by dsimp only; omega) (bS (by dsimp only; omega) HBEL.out)⟩
          · have HIN1 := Lib.hid (inB_yes hn)
            have HIN2 := Lib.hid (inB_no hkb)
            obtain ⟨hn0, hn5⟩ := hn
            clear hkb
            go_wp2_with fail
            refine (Widths.inRange _ _ _ _).mono ?_
            rintro e w2 ⟨rfl, rfl⟩
            rw [HIN1.out]
            go_wp2_with fail
            refine (Widths.inRange _ _ _ _).mono ?_
            rintro e w2 ⟨rfl, rfl⟩
            rw [HIN2.out]
            go_wp2
            exact bodyPost_ret (v := .tuple #[.agg #[.int .i64 0, .int .i64 0], .bool false]) (by simp [results, Tryz.results59, go_sem, k0, k1]) rfl ⟨rfl, bS (by dsimp only; omega) (bS (by dsimp only; omega) HBEL.out)⟩
    · obtain rfl : y = s.size := by omega
      have hO2 : O = some (m, v) := by
        rw [← HO.out, HGO.out, List.drop_eq_nil_of_le (by simp)]
        rfl
      have hR2 := HR.out
      rw [hO2, endM_some] at hR2
      dsimp only at hR2
      clear HO HGO hO2 HR hlt
      by_cases hnil : s.data.toList = []
      · have hs0 := (nil_txt s).1 hnil
        rw [if_pos hnil] at hR2
        subst hR2
        clear hnil
        go_wp2
        exact bodyPost_ret (v := .tuple #[.agg #[.int .i64 0, .int .i64 0], .bool false]) (by simp [results, Tryz.results59, go_sem, k0, k1]) rfl ⟨rfl, bS (by dsimp only; omega) (bS (by dsimp only; omega) HBEL.out)⟩
      · have hs0 := (nil_txt s).2 hnil
        rw [if_neg hnil] at hR2
        clear hnil
        have HF := Lib.hid (Trm.fmtM n m v)
        have HLT := text_is s s.data.toList rfl (fmtTm n m v)
        have hz0 : w.heap.size < wr.heap.size := by omega
        by_cases hfm : fmtTm n m v = s.data.toList
        · have he := HLT.1 hfm
          rw [if_pos hfm] at hR2
          subst hR2
          obtain ⟨t, ht⟩ : ∃ t : ByteArray, (⟨(fmtTm n m v).toArray⟩ : ByteArray) = t := ⟨_, rfl⟩
          rw [ht] at HF he
          clear hfm HLT ht
          go_wp2_with fail
          refine (HF.out _).mono ?_
          rintro e w2 ⟨rfl, hb2⟩
          obtain ⟨q1, q2⟩ := bcell hb2
          have HB2 := Lib.hid (bB hb2 (by omega) HBEL.out)
          have hs2 := hb2.size
          have d0 := keepB hb2 c0
          have d1 := keepB hb2 c1
          have i0 := keepB hb2 k0
          have i1 := keepB hb2 k1
          clear hb2
          go_wp2
          exact bodyPost_ret (v := .tuple #[.agg #[.int .i64 m, .int .i64 v], .bool true]) (by simp [results, Tryz.results59, go_sem, i0, i1]) rfl ⟨rfl, bS (by dsimp only; omega) (bS (by dsimp only; omega) HB2.out)⟩
        · have he := HLT.2 hfm
          rw [if_neg hfm] at hR2
          subst hR2
          obtain ⟨t, ht⟩ : ∃ t : ByteArray, (⟨(fmtTm n m v).toArray⟩ : ByteArray) = t := ⟨_, rfl⟩
          rw [ht] at HF he
          clear hfm HLT ht
          go_wp2_with fail
          refine (HF.out _).mono ?_
          rintro e w2 ⟨rfl, hb2⟩
          obtain ⟨q1, q2⟩ := bcell hb2
          have HB2 := Lib.hid (bB hb2 (by omega) HBEL.out)
          have hs2 := hb2.size
          have i0 := keepB hb2 k0
          have i1 := keepB hb2 k1
          clear hb2
          go_wp2
          exact bodyPost_ret (v := .tuple #[.agg #[.int .i64 0, .int .i64 0], .bool false]) (by simp [results, Tryz.results59, go_sem, i0, i1]) rfl ⟨rfl, bS (by dsimp only; omega) (bS (by dsimp only; omega) HB2.out)⟩

/-- ParseTerm of the model. -/
theorem Ptm.M (n : Int) (s : ByteArray) (hsize : (s.size : Int) ≤ 1048576) (w : World) :
    Calls Tryz.prog 59 #[.int .i64 n, .string s] w fun e w' => e = .returned (parO (parT n s.data.toList)) ∧ Below w.heap.size w w' := by
  rw [← endM_is]
  by_cases h : s.data.toList = [49]
  · have hs : s = ⟨#[49]⟩ := by
      cases s with
      | mk a =>
        cases a with
        | mk l => simp at h; subst h; rfl
    subst hs
    rw [show (⟨#[49]⟩ : ByteArray).data.toList = [49] from rfl, show goS (knownN n) [49] = some (0, 0) from if_pos rfl]
    exact Ptm.M_one n w
  · rw [show goS (knownN n) s.data.toList = goM (knownN n) s.data.toList false 0 0 from if_neg h]
    exact Ptm.M_any n s hsize h w

end Go.Proofs.YtphjaggiddjhgaaGreatDoor
