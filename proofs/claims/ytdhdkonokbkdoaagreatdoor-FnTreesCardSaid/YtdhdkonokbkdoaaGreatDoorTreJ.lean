/-
  Chapter 7: reading a tree, of the program (readTree, parseTree, IsTree).
-/
import Derived.Test.YtdhdkonokbkdoaaGreatDoorTreI
import Derived.Test.YtdhdkonokbkdoaaGreatDoorFrmR
namespace Go.Proofs.YtdhdkonokbkdoaaGreatDoor
open Go.RowKit Plain Go.Shelf
set_option linter.unusedVariables false

theorem trip0 {w : World} {b : Nat} {x y z : Value} {T : TypeId} (h : w.heap[b]? = some (.cells #[x, y, z] T (0, 0))) : w.cell? ⟨b, 0, none⟩ = some x := by simp [World.cell?, h]
theorem trip1 {w : World} {b : Nat} {x y z : Value} {T : TypeId} (h : w.heap[b]? = some (.cells #[x, y, z] T (0, 0))) : w.cell? ⟨b, 1, none⟩ = some y := by simp [World.cell?, h]
theorem trip2 {w : World} {b : Nat} {x y z : Value} {T : TypeId} (h : w.heap[b]? = some (.cells #[x, y, z] T (0, 0))) : w.cell? ⟨b, 2, none⟩ = some z := by simp [World.cell?, h]
theorem tripF {w : World} {b : Nat} {x y z : Value} {T : TypeId} (h : w.heap[b]? = some (.cells #[x, y, z] T (0, 0))) (j : Nat) : w.frozen? ⟨b, j, none⟩ = false := frozen_of_row w b j _ _ h
theorem trip_put1 {w : World} {b : Nat} {x y z : Value} {T : TypeId} (h : w.heap[b]? = some (.cells #[x, y, z] T (0, 0))) (u : Value) : (w.setCell ⟨b, 1, none⟩ u).heap[b]? = some (.cells #[x, u, z] T (0, 0)) := by
  rw [heap_setCell_same w b 1 _ _ u h]; rfl
theorem trip_put2 {w : World} {b : Nat} {x y z : Value} {T : TypeId} (h : w.heap[b]? = some (.cells #[x, y, z] T (0, 0))) (u : Value) : (w.setCell ⟨b, 2, none⟩ u).heap[b]? = some (.cells #[x, y, u] T (0, 0)) := by
  rw [heap_setCell_same w b 2 _ _ u h]; rfl

/-- What a reader of trees leaves. -/
def RdPost (base : Nat) (o : Option (DT × List UInt8)) (p : Option Addr) (rs : ByteArray) (w : World) : Prop := match o with
  | none => p = none ∧ rs = ⟨#[]⟩
  | some (T, r) => ∃ b, p = some ⟨b, 0, none⟩ ∧ rs = ⟨r.toArray⟩ ∧ TrIn base w T b

theorem bad_letterD {c : UInt8} (h : badD c = true) : Lib.indexByte [97, 98, 99, 100, 101] c = -1 := by
  obtain ⟨_, _, n0, n1, n2, n3, n4⟩ := badD_ne h
  have q : ∀ k, k < 256 → (UInt8.ofNat k ≠ 97 ∧ UInt8.ofNat k ≠ 98 ∧ UInt8.ofNat k ≠ 99 ∧ UInt8.ofNat k ≠ 100 ∧ UInt8.ofNat k ≠ 101) → Lib.indexByte [97, 98, 99, 100, 101] (UInt8.ofNat k) = -1 := by decide +kernel
  have := q c.toNat (UInt8.toNat_lt c)
  rw [UInt8.ofNat_toNat] at this
  exact this ⟨n0, n1, n2, n3, n4⟩

theorem newAt (w : World) (k : Nat) (o : Obj) : ((w.drewN k).alloc o).heap[w.heap.size]? = some o := heap_alloc_new (w.drewN k) o
theorem blockOn' {X w' : World} {b : Nat} {o : Obj} (hb : Below X.heap.size X w') (h : X.heap[b]? = some o) : w'.heap[b]? = some o := blockOn h hb
theorem TrIn.drew1 {base : Nat} {w : World} {T : DT} {b : Nat} (h : TrIn base w T b) : TrIn base w.drew T b := h.below (Below.refl _ _).drew
theorem TrIn.on {base : Nat} {X w w' : World} (hb : Below X.heap.size X w') (hX : X.heap = w.heap) {T : DT} {b : Nat} (h : TrIn base w T b) : TrIn base w' T b :=
  TrIn.below hb (h.keep fun _ _ _ _ hc => by rw [← hc]; unfold World.cell?; rw [hX])

set_option maxRecDepth 100000 in
set_option maxHeartbeats 4000000 in
theorem RdT.any (n : Nat) : ∀ (s : ByteArray) (a : Nat) (w : World), s.size ≤ n → a < 32 →
    Calls Tryz.prog 62 #[.string s, .int .i64 (a : Int)] w fun e w' => ∃ p rs, e = .returned (.tuple #[.pointer p, .string rs]) ∧ RdPost w.heap.size (rdd a (lst s)) p rs w' ∧ Below w.heap.size w w' := by
  induction n with
  | zero =>
    intro s a w h ha
    have hne := empty_is s (by omega)
    have hnil : lst s = [] := List.eq_nil_of_length_eq_zero (by rw [lst_len]; omega)
    rw [hnil]
    clear h hnil
    go_enter Tryz.func62, Tryz.ntmps62
    go_wp2_with fail
    go_ret2
    exact ⟨none, ⟨#[]⟩, rfl, ⟨rfl, rfl⟩, Below.refl _ _⟩
  | succ n ih =>
    intro s a w h ha
    by_cases hlt : 0 < s.size
    · have hd : lst s = s[0] :: lst (s.extract 1 s.size) := by rw [lst_tail, ← lst_drop s 0 hlt]; rfl
      have hne := full_ne s hlt
      have hz : (s.extract 1 s.size).size = s.size - 1 := by simp
      rcases cls_tree s[0] with ⟨b, hc⟩ | ⟨i, hc⟩ | hc
      · have HR : Hid (rdd a (lst s) = some (.val b, lst (s.extract 1 s.size))) := Lib.hid (by rw [hd, hc]; exact rdd_con a b _)
        rw [HR.out]
        cases b
        case' false => have q : (s[0].toNat : Int) = 48 := by rw [hc]; rfl
        case' true => have q : (s[0].toNat : Int) = 49 := by rw [hc]; rfl
        all_goals
          clear hd hc ih h hz HR
          go_enter Tryz.func62, Tryz.ntmps62
          go_wp2_with fail
          go_quiet (fail)
          go_wp2_with fail
          go_ret2
          refine ⟨some ⟨w.heap.size, 0, none⟩, _, rfl, ⟨w.heap.size, rfl, (ba_lst _).symm, Nat.le_refl _, ?_, ?_, ?_⟩, bA (by simp) (below_drewN (Below.refl _ _) _)⟩
          all_goals (refine keepN (by simp) rfl)
      · have q : (s[0].toNat : Int) = 97 + (i.val : Int) := by rw [hc]; exact letC_int i
        have hi := i.isLt
        have hdd : lst s = letC i :: lst (s.extract 1 s.size) := by rw [← hc]; exact hd
        have q48 : (97 + (i.val : Int) == 48) = false := by rw [beq_eq_false_iff_ne]; omega
        have q49 : (97 + (i.val : Int) == 49) = false := by rw [beq_eq_false_iff_ne]; omega
        have HI := Lib.hid (Rd.letter_at i (97 + (i.val : Int)) rfl)
        have tn : decide ((i.val : Int) < 0) = false := decide_eq_false (by omega)
        have hor := orw_i64 a ha i.val hi
        have hor' := orw_i64' a ha i.val hi
        have hbit := bit_i64 a i.val (by omega)
        cases hb : a.testBit i.val with
        | true =>
          have HR : Hid (rdd a (lst s) = none) := Lib.hid (by rw [hdd]; exact rdd_asked _ hb)
          rw [bit_of a i.val true hb] at hbit
          rw [HR.out]
          clear hd hdd hc ih h hz HR hb
          generalize i.val = I at *
          go_enter Tryz.func62, Tryz.ntmps62
          go_wp2_with fail
          go_quiet (fail)
          go_wp2_with fail
          refine (HI.out _).mono ?_
          rintro e w' ⟨rfl, rfl⟩
          go_wp2_with fail
          go_ret2
          exact ⟨none, ⟨#[]⟩, rfl, ⟨rfl, rfl⟩, below_drewN (Below.refl _ _) _⟩
        | false =>
          rw [bit_of a i.val false hb] at hbit
          have h32 := (free_with a ha i hb).2
          have IH1 := fun w => ih (s.extract 1 s.size) (withD a i) w (by omega) h32
          cases hr1 : rdd (withD a i) (lst (s.extract 1 s.size)) with
          | none =>
            have HR : Hid (rdd a (lst s) = none) := Lib.hid (by rw [hdd]; exact rdd_none1 hr1)
            rw [hr1] at IH1
            have IHA : ∀ w, Calls Tryz.prog 62 #[.string (s.extract 1 s.size), .int .i64 ((a ||| 2 ^ i.val : Nat) : Int)] w fun e w' => e = .returned (.tuple #[.pointer none, .string ⟨#[]⟩]) ∧ Below w.heap.size w w' := fun w =>
              (IH1 w).mono fun e w' ⟨p, rs, he, ⟨hp, hrs⟩, hbb⟩ => ⟨by rw [he, hp, hrs], hbb⟩
            have HA := Lib.hid IHA
            rw [HR.out]
            clear hd hdd hc ih h hz HR hb IH1 IHA hr1 h32
            generalize i.val = I at *
            generalize a ||| 2 ^ I = A2 at *
            go_enter Tryz.func62, Tryz.ntmps62
            go_wp2_with fail
            go_quiet (fail)
            go_wp2_with fail
            refine (HI.out _).mono ?_
            rintro e w' ⟨rfl, rfl⟩
            go_wp2_with fail
            go_loopw [7, 43] (fun rest y wr => rest = .string (s.extract 1 s.size) ∧ y = .int .i64 0 ∧ wr.heap[w.heap.size]? = some (.cells #[.int .i64 (I : Int), .pointer none, .pointer none] 70 (0, 0)) ∧ Below w.heap.size w wr) (fun _ _ _ => 0)
            case atStart => exact ⟨rfl, rfl, newAt _ _ _, bA (by simp) (below_drewN (Below.refl _ _) _)⟩
            case round =>
              obtain ⟨rfl, rfl, hx, hbel⟩ := hrel
              have HX := Lib.hid hx
              have HB := Lib.hid hbel
              have hlt2 : w.heap.size < wr.heap.size := lt_of_block hx
              clear hx hbel
              go_wp2_with fail
              go_region_with (refine (HA.out _).mono ?_; rintro e w1 ⟨rfl, hb1⟩; have X1 := blockOn' hb1 HX.out; have x1 := trip1 X1; have f1 := tripF X1 1; have HX1 := Lib.hid X1; have HB1 := Lib.hid hb1; clear X1 hb1)
              all_goals
                go_wp2
                go_ret2
                refine ⟨none, ⟨#[]⟩, rfl, ⟨rfl, rfl⟩, ?_⟩
                (repeat (first | (with_reducible exact HB.out) | ((with_reducible refine bS ?_ ?_); (focus (dsimp only; omega))) | (with_reducible refine bD ?_) | ((with_reducible refine bB HB1.out ?_ ?_); (focus (first | omega | (simp; done) | (simp; omega))))))
          | some p1 =>
            obtain ⟨t, r1⟩ := p1
            have hl := congrArg List.length (rdd_sound hr1).1
            rw [List.length_append, lst_len] at hl
            rw [hr1] at IH1
            have IHA : ∀ w, Calls Tryz.prog 62 #[.string (s.extract 1 s.size), .int .i64 ((a ||| 2 ^ i.val : Nat) : Int)] w fun e w' => ∃ bl, e = .returned (.tuple #[.pointer (some ⟨bl, 0, none⟩), .string ⟨r1.toArray⟩]) ∧ TrIn w.heap.size w' t bl ∧ Below w.heap.size w w' := fun w =>
              (IH1 w).mono fun e w' ⟨p, rs, he, ⟨bl, hp, hrs, hti⟩, hbb⟩ => ⟨bl, by rw [he, hp, hrs], hti, hbb⟩
            have HA := Lib.hid IHA
            have IH2 := fun w => ih ⟨r1.toArray⟩ (withD a i) w (by rw [ba_size]; omega) h32
            cases hr2 : rdd (withD a i) r1 with
            | none =>
              have HR : Hid (rdd a (lst s) = none) := Lib.hid (by rw [hdd]; exact rdd_none2 hr1 hr2)
              rw [lst_ba, hr2] at IH2
              have IHC : ∀ w, Calls Tryz.prog 62 #[.string ⟨r1.toArray⟩, .int .i64 ((a ||| 2 ^ i.val : Nat) : Int)] w fun e w' => e = .returned (.tuple #[.pointer none, .string ⟨#[]⟩]) ∧ Below w.heap.size w w' := fun w =>
                (IH2 w).mono fun e w' ⟨p, rs, he, ⟨hp, hrs⟩, hbb⟩ => ⟨by rw [he, hp, hrs], hbb⟩
              have HC := Lib.hid IHC
              rw [HR.out]
              clear hd hdd hc ih h hz HR hb IH1 IHA hr1 h32 hr2 IH2 IHC hl
              generalize i.val = I at *
              generalize a ||| 2 ^ I = A2 at *
              obtain ⟨R1, hR1⟩ : ∃ R1 : ByteArray, ⟨r1.toArray⟩ = R1 := ⟨_, rfl⟩
              rw [hR1] at HA HC
              clear hR1
              go_enter Tryz.func62, Tryz.ntmps62
              go_wp2_with fail
              go_quiet (fail)
              go_wp2_with fail
              refine (HI.out _).mono ?_
              rintro e w' ⟨rfl, rfl⟩
              go_wp2_with fail
              go_loopw [7, 43] (fun rest y wr => ((rest = .string (s.extract 1 s.size) ∧ y = .int .i64 0) ∨ (rest = .string R1 ∧ y = .int .i64 1)) ∧ (∃ P1, wr.heap[w.heap.size]? = some (.cells #[.int .i64 (I : Int), P1, .pointer none] 70 (0, 0))) ∧ Below w.heap.size w wr) (fun _ y _ => 4 - (intOf y).toNat)
              case atStart => exact ⟨.inl ⟨rfl, rfl⟩, ⟨_, newAt _ _ _⟩, bA (by simp) (below_drewN (Below.refl _ _) _)⟩
              case round =>
                obtain ⟨hcase, ⟨P1, hx⟩, hbel⟩ := hrel
                have HX := Lib.hid hx
                have HB := Lib.hid hbel
                have hlt2 : w.heap.size < wr.heap.size := lt_of_block hx
                clear hx hbel
                rcases hcase with ⟨rfl, rfl⟩ | ⟨rfl, rfl⟩
                · go_wp2_with fail
                  go_region_with (refine (HA.out _).mono ?_; rintro e w1 ⟨bl, rfl, hti, hb1⟩; have X1 := blockOn' hb1 HX.out; have x1 := trip1 X1; have f1 := tripF X1 1; have HX1 := Lib.hid X1; have HB1 := Lib.hid hb1; clear X1 hb1 hti)
                  all_goals
                    go_wp2
                    go_roundw
                    case rel =>
                      refine ⟨.inr ⟨rfl, rfl⟩, ⟨_, trip_put1 HX1.out _⟩, ?_⟩
                      (repeat (first | (with_reducible exact HB.out) | ((with_reducible refine bS ?_ ?_); (focus (dsimp only; omega))) | (with_reducible refine bD ?_) | ((with_reducible refine bB HB1.out ?_ ?_); (focus (first | omega | (simp; done) | (simp; omega))))))
                    case measure => simp [intOf]
                · go_wp2_with fail
                  go_region_with (refine (HC.out _).mono ?_; rintro e w1 ⟨rfl, hb1⟩; have X1 := blockOn' hb1 HX.out; have x1 := trip2 X1; have f1 := tripF X1 2; have HX1 := Lib.hid X1; have HB1 := Lib.hid hb1; clear X1 hb1)
                  all_goals
                    go_wp2
                    go_ret2
                    refine ⟨none, ⟨#[]⟩, rfl, ⟨rfl, rfl⟩, ?_⟩
                    (repeat (first | (with_reducible exact HB.out) | ((with_reducible refine bS ?_ ?_); (focus (dsimp only; omega))) | (with_reducible refine bD ?_) | ((with_reducible refine bB HB1.out ?_ ?_); (focus (first | omega | (simp; done) | (simp; omega))))))
            | some p2 =>
              obtain ⟨u, r2⟩ := p2
              have HR : Hid (rdd a (lst s) = some (.ask i t u, r2)) := Lib.hid (by rw [hdd]; exact rdd_some hb hr1 hr2)
              rw [lst_ba, hr2] at IH2
              have IHC : ∀ w, Calls Tryz.prog 62 #[.string ⟨r1.toArray⟩, .int .i64 ((a ||| 2 ^ i.val : Nat) : Int)] w fun e w' => ∃ br, e = .returned (.tuple #[.pointer (some ⟨br, 0, none⟩), .string ⟨r2.toArray⟩]) ∧ TrIn w.heap.size w' u br ∧ Below w.heap.size w w' := fun w =>
                (IH2 w).mono fun e w' ⟨p, rs, he, ⟨br, hp, hrs, hti⟩, hbb⟩ => ⟨br, by rw [he, hp, hrs], hti, hbb⟩
              have HC := Lib.hid IHC
              rw [HR.out]
              clear hd hdd hc ih h hz HR hb IH1 IHA hr1 h32 hr2 IH2 IHC hl
              generalize a ||| 2 ^ i.val = A2 at *
              obtain ⟨R1, hR1⟩ : ∃ R1 : ByteArray, ⟨r1.toArray⟩ = R1 := ⟨_, rfl⟩
              rw [hR1] at HA HC
              clear hR1
              obtain ⟨R2, hR2⟩ : ∃ R2 : ByteArray, ⟨r2.toArray⟩ = R2 := ⟨_, rfl⟩
              have HR2 := Lib.hid hR2
              rw [hR2] at HC
              clear hR2
              go_enter Tryz.func62, Tryz.ntmps62
              go_wp2_with fail
              go_quiet (fail)
              go_wp2_with fail
              refine (HI.out _).mono ?_
              rintro e w' ⟨rfl, rfl⟩
              go_wp2_with fail
              go_loopw [7, 43] (fun rest y wr => ((rest = .string (s.extract 1 s.size) ∧ y = .int .i64 0 ∧ wr.heap[w.heap.size]? = some (.cells #[.int .i64 (i.val : Int), .pointer none, .pointer none] 70 (0, 0))) ∨ (rest = .string R1 ∧ y = .int .i64 1 ∧ ∃ bl, TrIn (w.heap.size + 1) wr t bl ∧ wr.heap[w.heap.size]? = some (.cells #[.int .i64 (i.val : Int), .pointer (some ⟨bl, 0, none⟩), .pointer none] 70 (0, 0))) ∨
                  (rest = .string R2 ∧ y = .int .i64 2 ∧ ∃ bl br, (TrIn (w.heap.size + 1) wr t bl ∧ TrIn (w.heap.size + 1) wr u br) ∧ wr.heap[w.heap.size]? = some (.cells #[.int .i64 (i.val : Int), .pointer (some ⟨bl, 0, none⟩), .pointer (some ⟨br, 0, none⟩)] 70 (0, 0)))) ∧ Below w.heap.size w wr) (fun _ y _ => 4 - (intOf y).toNat)
              case atStart => exact ⟨.inl ⟨rfl, rfl, newAt _ _ _⟩, bA (by simp) (below_drewN (Below.refl _ _) _)⟩
              case round =>
                obtain ⟨hcase, hbel⟩ := hrel
                have HB := Lib.hid hbel
                clear hbel
                rcases hcase with ⟨rfl, rfl, hx⟩ | ⟨rfl, rfl, bl, htl, hx⟩ | ⟨rfl, rfl, bl, br, ⟨htl, htr⟩, hx⟩
                · have HX := Lib.hid hx
                  have hlt2 : w.heap.size < wr.heap.size := lt_of_block hx
                  clear hx
                  go_wp2_with fail
                  go_region_with (refine (HA.out _).mono ?_; rintro e w1 ⟨bl, rfl, hti, hb1⟩; have X1 := blockOn' hb1 HX.out; have x1 := trip1 X1; have f1 := tripF X1 1; have HX1 := Lib.hid X1; have HB1 := Lib.hid hb1; have HTL := Lib.hid hti; clear X1 hb1 hti)
                  all_goals
                    go_wp2
                    go_roundw
                    case rel =>
                      refine ⟨.inr (.inl ⟨rfl, rfl, bl, ?_, trip_put1 HX1.out _⟩), ?_⟩
                      · repeat (first | (with_reducible exact HTL.out.mono (by simp; omega)) | (with_reducible refine TrIn.drew1 ?_) | ((with_reducible refine TrIn.set ?_ ?_); (focus (dsimp only; omega))))
                      · (repeat (first | (with_reducible exact HB.out) | ((with_reducible refine bS ?_ ?_); (focus (dsimp only; omega))) | (with_reducible refine bD ?_) | ((with_reducible refine bB HB1.out ?_ ?_); (focus (first | omega | (simp; done) | (simp; omega))))))
                    case measure => simp [intOf]
                · have HX := Lib.hid hx
                  have HTL := Lib.hid htl
                  have hlt2 : w.heap.size < wr.heap.size := lt_of_block hx
                  clear hx htl
                  go_wp2_with fail
                  go_region_with (refine (HC.out _).mono ?_; rintro e w1 ⟨br, rfl, hti, hb1⟩; have X1 := blockOn' hb1 HX.out; have x1 := trip2 X1; have f1 := tripF X1 2; have HX1 := Lib.hid X1; have HT1 := Lib.hid (TrIn.on (w := wr) hb1 rfl HTL.out); have HB1 := Lib.hid hb1; have HTR := Lib.hid hti; clear X1 hb1 hti)
                  all_goals
                    go_wp2
                    go_roundw
                    case rel =>
                      refine ⟨.inr (.inr ⟨rfl, rfl, bl, br, ⟨?_, ?_⟩, trip_put2 HX1.out _⟩), ?_⟩
                      · repeat (first | (with_reducible exact HT1.out) | (with_reducible refine TrIn.drew1 ?_) | ((with_reducible refine TrIn.set ?_ ?_); (focus (dsimp only; omega))))
                      · repeat (first | (with_reducible exact HTR.out.mono (by simp; omega)) | (with_reducible refine TrIn.drew1 ?_) | ((with_reducible refine TrIn.set ?_ ?_); (focus (dsimp only; omega))))
                      · (repeat (first | (with_reducible exact HB.out) | ((with_reducible refine bS ?_ ?_); (focus (dsimp only; omega))) | (with_reducible refine bD ?_) | ((with_reducible refine bB HB1.out ?_ ?_); (focus (first | omega | (simp; done) | (simp; omega))))))
                    case measure => simp [intOf]
                · have HX := Lib.hid hx
                  have HTL := Lib.hid htl
                  have HTR := Lib.hid htr
                  clear hx htl htr
                  go_wp2_with fail
                  go_ret2
                  exact ⟨some ⟨w.heap.size, 0, none⟩, R2, rfl, ⟨w.heap.size, rfl, HR2.out.symm, Nat.le_refl _, trip0 HX.out, bl, br, trip1 HX.out, trip2 HX.out, HTL.out.mono (by omega), HTR.out.mono (by omega)⟩, HB.out⟩
      · have HR : Hid (rdd a (lst s) = none) := Lib.hid (by rw [hd]; exact rdd_bad a _ hc)
        obtain ⟨q1, q2⟩ := bad_48 hc
        have HI := Rd.letter s[0]
        rw [bad_letterD hc] at HI
        replace HI := Lib.hid HI
        rw [HR.out]
        clear hd hc ih h hz HR
        go_enter Tryz.func62, Tryz.ntmps62
        go_wp2_with fail
        go_quiet (fail)
        go_wp2_with fail
        refine (HI.out _).mono ?_
        rintro e w' ⟨rfl, rfl⟩
        go_wp2_with fail
        go_ret2
        exact ⟨none, ⟨#[]⟩, rfl, ⟨rfl, rfl⟩, below_drewN (Below.refl _ _) _⟩
    · exact ih s a w (by omega) ha

end Go.Proofs.YtdhdkonokbkdoaaGreatDoor
