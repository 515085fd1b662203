/-
  Chapter 11: TableOfCoefficients of the program.
-/
import Derived.Test.YtphjaggiddjhgaaGreatDoorDegT
import Derived.Test.YtphjaggiddjhgaaGreatDoorDegK
import Derived.Test.YtphjaggiddjhgaaGreatDoorBoL
import Derived.Test.YtphjaggiddjhgaaGreatDoorResE
import Derived.Laws.CopyOwn
namespace Go.Proofs.YtphjaggiddjhgaaGreatDoor
open Go.RowKit Plain
set_option linter.unusedVariables false

theorem IntRow.block {w : World} {B g N : Nat} {l : List Int} (hl : l.length = N) (h : IntRow w B (.slice (some ⟨g, 0, none⟩) N N) l) : w.heap[g]? = some (.cells (intsV l).toArray 3 (0, 0)) := by
  rcases h.2 with ⟨e, hn⟩ | ⟨g', cap, cur, e, hb, hg, h1, h2, h3, h4⟩
  · cases e
  · simp only [Value.slice.injEq, Option.some.injEq, Addr.mk.injEq, and_true] at e
    obtain ⟨rfl, e1, rfl⟩ := e
    rw [hg]
    have : cur.toList = intsV l := by rw [← h4, List.take_of_length_le (by simp; omega)]
    rw [← this]
theorem RowAt.of_block {w : World} {B g : Nat} {l : List Int} (hB : B ≤ g) (hl : l.length ≤ 1000) (h : w.heap[g]? = some (.cells (intsV l).toArray 3 (0, 0))) : RowAt w B g l.length l := by
  refine ⟨⟨by simp [intsV], .inr ⟨g, l.length, _, rfl, hB, h, Nat.le_refl _, by unfold maxLen; omega, by simp [intsV], ?_⟩⟩, Nat.le_refl _⟩
  rw [List.take_of_length_le (by simp [intsV])]

/-- 'copy' of a list of ints into a row of the call's own that is as long. -/
theorem wp_copy_ints {w : World} {ops : Array Oper} {rest : List Oper} {o : Oper} {a : Act} {Q : Exit → Act → World → Prop} (hgd : o.guard = none) (d s : Operand)
    (ho : o.op = .call { callee := .builtin .copy, args := #[d, s], argTypes := #[29, 29] }) (g N c2 b off cap : Nat) (l Z : List Int)
    (hd : a.eval d = .slice (some ⟨g, 0, none⟩) N c2) (hs : a.eval s = .slice (some ⟨b, off, none⟩) N cap) (hl : l.length = N) (hZ : Z.length = N)
    (hg : w.heap[g]? = some (.cells (intsV Z).toArray 3 (0, 0))) (hcl : ∀ j, j < N → w.cell? ⟨b, off + j, none⟩ = some (.int .i64 (l.getD j 0)))
    (h : ∀ w', w'.heap[g]? = some (.cells (intsV l).toArray 3 (0, 0)) → w.grownBy w' (some g) → wpList Tryz.prog ops Q rest (a.put o.dst (goInt (intsV l).length)) w') :
    wpList Tryz.prog ops Q (o :: rest) a w := by
  have hlen : (intsV l).length = N := by simp [intsV, hl]
  have hadd : ∀ j, (⟨b, off, none⟩ : Addr).add j = ⟨b, off + j, none⟩ := by intro j; unfold Addr.add; split <;> simp_all
  refine wpList_copy_own hgd d s 29 29 ho 3 Tryz.underlying29 (by kernel_rfl) g 0 N c2 ⟨b, off, none⟩ N cap hd hs _ 3 hg (intsV l) (by rw [hlen]; exact (Nat.min_self _).symm) ?_ ?_ ?_ ?_
  · intro j v hj
    have hjl : j < l.length := by
      rcases Nat.lt_or_ge j l.length with h1 | h1
      · exact h1
      · simp [intsV, List.getElem?_eq_none h1] at hj
    rw [hadd, hcl j (by omega)]
    simp [intsV, List.getElem?_eq_getElem hjl] at hj
    subst hj
    simp [List.getD_eq_getElem?_getD, List.getElem?_eq_getElem hjl]
  · simp [intsV]; omega
  · intro v hv
    simp [intsV] at hv
    obtain ⟨x, _, rfl⟩ := hv
    rfl
  · have e : (((intsV Z).toArray.toList.take 0) ++ (intsV l ++ (intsV Z).toArray.toList.drop (0 + (intsV l).length))).toArray = (intsV l).toArray := by
      rw [List.take_zero, List.nil_append, List.drop_eq_nil_of_le (by simp [intsV]; omega), List.append_nil]
    rw [e]
    refine h _ (setRow_heap w g _ _ _ _ hg) ⟨rfl, rfl, rfl, by simp, fun i hi hne => setRow_other w g i _ (fun e => hne (by rw [e]))⟩

theorem Clo.toc (b g cap x N : Nat) (v : Nat) (hx : (x : Int) < (N : Int)) (W : World) (hc : W.cell? ⟨b, 0, none⟩ = some (.slice (some ⟨g, 0, none⟩) N cap)) (hr : W.cell? ⟨g, x, none⟩ = some (.int .i64 (v : Int))) :
    Calls Tryz.prog 42 #[.int .i64 x, .pointer (some ⟨b, 0, none⟩)] W fun e w' => e = .returned (.int .i64 (v : Int)) ∧ W = w' := by
  go_enter Tryz.func42, Tryz.ntmps42
  go_wp2
  go_ret
  exact ⟨rfl, rfl⟩

theorem Toc.I_none (l : List Int) (a : Option Addr) (cap : Nat) (hz : ∀ m, m ≤ 5 → l.length ≠ 2 ^ m) (hs : (l.length : Int) ≤ 1048576) (w : World) (hT : Tz64 w) :
    Calls Tryz.prog 15 #[.slice a l.length cap] w fun e w' => e = .returned (.tuple #[.agg #[.int .i64 0, .int .i64 0], .bool false]) ∧ Below w.heap.size w w' := by
  have HT : Hid (Tz64 (w.alloc (.cells #[.int .i64 0, .int .i64 0] 25))) := Lib.hid (hT.stays ((Below.refl _ _).alloc (Nat.le_refl _) _) (Nat.le_refl _))
  have HB := Lib.hid (BoL.no l.length hz (by omega))
  clear hz hT
  go_enter Tryz.func15, Tryz.ntmps15
  go_wp2_with fail
  refine (HB.out _ HT.out).mono ?_
  rintro e w1 ⟨rfl, rfl⟩
  go_wp2
  exact bodyPost_ret (v := .tuple #[.agg #[.int .i64 0, .int .i64 0], .bool false]) (by simp [results, Tryz.results15, go_sem]) rfl ⟨rfl, (Below.refl _ _).alloc (Nat.le_refl _) _⟩

theorem seg_toV {m : Nat} (hm : m ≤ 5) (l : List Int) (hl : l.length = 2 ^ m) {x : Nat} (hx : x < 2 ^ m) : (segL 1 m 0 l).getD x 0 = toV l x := by
  have e := putL_in (parF 1 m fun x => l.getD (0 + x) 0) 0 (2 ^ m) l hx (by omega)
  rw [Nat.zero_add] at e
  unfold segL
  rw [e, ← toV_par hm l hx]
  exact parF_congr 1 m _ _ (fun y _ => by rw [Nat.zero_add]; rfl) x hx

set_option maxRecDepth 100000 in
set_option maxHeartbeats 4000000 in
theorem Toc.I_pow (l : List Int) (b off cap m : Nat) (hm : m ≤ 5) (hl : l.length = 2 ^ m) (r : Int × Int × Bool) (hr : TocIs l m r) (w : World) (hT : Tz64 w) (hbw : b < w.heap.size)
    (hcl : ∀ j, j < l.length → w.cell? ⟨b, off + j, none⟩ = some (.int .i64 (l.getD j 0))) :
    Calls Tryz.prog 15 #[.slice (some ⟨b, off, none⟩) l.length cap] w fun e w' => e = .returned (.tuple #[.agg #[.int .i64 r.1, .int .i64 r.2.1], .bool r.2.2]) ∧ Below w.heap.size w w' := by
  have HR := Lib.hid hr
  have HM := Lib.hid hm
  have h32n := two_pow_le m hm
  have HSEG : Hid (∀ x, x < l.length → (segL 1 m 0 l).getD x 0 = toV l x) := Lib.hid (fun x hx => seg_toV hm l hl (by omega))
  have HPA : Hid (∀ (B g cap c : Nat) (w : World), l.length ≤ c → (∀ x, x < l.length → inR l x) → RowAt w B g cap l →
    Calls Tryz.prog 35 #[.slice (some ⟨g, 0, none⟩) l.length c, .int .i64 1] w (PartsOut 1 m 0 l B g cap w)) := Lib.hid (fun B g cap c w h1 h2 h3 => by
      have h5 : ((2 : Int) ^ m) = ((2 ^ m : Nat) : Int) := (Int.natCast_pow 2 m).symm
      have := Parts.any 1 (.inl rfl) m hm 0 l 1000 B g cap c w (by omega) (by omega) (by omega) (by decide) (by rw [h5]; omega) (fun x hx => by rw [Nat.zero_add]; exact h2 x (by omega)) h3
      rwa [← hl] at this)
  have HBL := Lib.hid (BoL.yes l.length m hm hl)
  have HT : Hid (Tz64 (w.alloc (.cells #[.int .i64 0, .int .i64 0] 25))) := Lib.hid (hT.stays ((Below.refl _ _).alloc (Nat.le_refl _) _) (Nat.le_refl _))
  have HL := Lib.hid hl
  have h32 : (l.length : Int) ≤ 32 := by omega
  have hpos : 1 ≤ l.length := by rw [hl]; exact Nat.one_le_two_pow
  have HCL0 := Lib.hid hcl
  have HCL : Hid (∀ o j, j < l.length → (w.alloc o).cell? ⟨b, off + j, none⟩ = some (.int .i64 (l.getD j 0))) := Lib.hid (fun o j hj => keepA (hcl j hj))
  have hmz : (m : Int) ≤ 5 := by omega
  obtain ⟨i0, hi, hz0, hz1, hz2⟩ := info_parts Tryz.infoInt
  have HI0 := Lib.hid hi
  have HZ0 := Lib.hid hz0
  have HZ1 := Lib.hid hz1
  have HZ2 := Lib.hid hz2
  clear hr hl hcl hm hT h32n hi hz0 hz1 hz2
  go_enter Tryz.func15, Tryz.ntmps15
  go_wp2_with fail
  refine (HBL.out _ HT.out).mono ?_
  rintro e w1 ⟨rfl, rfl⟩
  go_wp2_with fail
  have HC1 := Lib.hid (HCL.out (.cells #[.int .i64 0, .int .i64 0] 25))
  go_loop [7, 22] (fun _ i => ∃ k : Nat, i = .int .i64 (k : Int) ∧ k ≤ l.length ∧ Hid (∀ j, j < k → inR l j)) (fun _ i => 33 - (intOf i).toNat)
  case atStart => exact ⟨0, rfl, by omega, Lib.hid (fun y hy => absurd hy (by omega))⟩
  case round =>
    obtain ⟨k, rfl, hk, HOK⟩ := hrel
    by_cases hkl : k < l.length
    · have hkz : (k : Int) < (l.length : Int) := by omega
      have ck := HC1.out k hkl
      by_cases hin : inR l k
      · have HOK2 : Hid (∀ j, j < k + 1 → inR l j) := Lib.hid (fun j hj => by
          rcases (show j < k ∨ j = k by omega) with h1 | rfl
          · exact HOK.out j h1
          · exact hin)
        have h2 : -1000 ≤ l.getD k 0 ∧ l.getD k 0 ≤ 1000 := hin
        generalize l.getD k 0 = y at *
        clear hin
        go_wp2_with fail
        go_round
        case rel => exact ⟨k + 1, by go_num, by omega, HOK2⟩
        case measure => simp [intOf] <;> omega
      · have HBAD : Hid (r = (0, 0, false)) := Lib.hid (HR.out.bad fun hg => hin (hg.1 k (by rw [← HL.out]; exact hkl)))
        have h2 : l.getD k 0 < -1000 ∨ 1000 < l.getD k 0 := by unfold inR at hin; omega
        generalize l.getD k 0 = y at *
        clear hin
        rcases h2 with h2 | h2
        · go_wp2_with fail
          exact bodyPost_ret (v := .tuple #[.agg #[.int .i64 0, .int .i64 0], .bool false]) (by simp [results, Tryz.results15, go_sem]) rfl ⟨by rw [HBAD.out], (Below.refl _ _).alloc (Nat.le_refl _) _⟩
        · have h3 : ¬ y < -1000 := by omega
          go_wp2_with fail
          exact bodyPost_ret (v := .tuple #[.agg #[.int .i64 0, .int .i64 0], .bool false]) (by simp [results, Tryz.results15, go_sem]) rfl ⟨by rw [HBAD.out], (Below.refl _ _).alloc (Nat.le_refl _) _⟩
    · obtain rfl : k = l.length := by omega
      obtain ⟨W1, hW1⟩ : ∃ W1, w.alloc (.cells #[.int .i64 0, .int .i64 0] 25) = W1 := ⟨_, rfl⟩
      have hs1 : W1.heap.size = w.heap.size + 1 := by rw [← hW1]; simp
      have X1 : W1.heap[w.heap.size]? = some (.cells #[.int .i64 0, .int .i64 0] 25 (0, 0)) := by rw [← hW1]; exact heap_alloc_new w _
      have HBW : Hid (Below w.heap.size w W1) := Lib.hid (by rw [← hW1]; exact (Below.refl _ _).alloc (Nat.le_refl _) _)
      have HCW : Hid (∀ j, j < l.length → W1.cell? ⟨b, off + j, none⟩ = some (.int .i64 (l.getD j 0))) := Lib.hid (by rw [← hW1]; exact HC1.out)
      have HX1 := Lib.hid X1
      have HS1 := Lib.hid hs1
      rw [hW1]
      clear hW1 X1 hs1
      go_wp2_with (first
        | (at_make; go_must (refine wpList_make_full _ rfl _ _ 29 rfl W1.heap.size 3 i0 (.int .i64 0) 1 Tryz.underlying29 HI0.out HZ0.out HZ1.out _ _ _ _ l.length rfl rfl rfl rfl (by rw [HZ2.out]; omega) (by unfold maxLen; omega) (Nat.le_refl _) ?_; intro w2 hown hgrow; have HROW := Lib.hid ((IntRow.made hown).block (by rw [List.length_replicate])); have HB2 := Lib.hid ((Below.refl W1.heap.size W1).grown hgrow (Nat.le_refl _) (fun _ h => by cases h)); clear hown hgrow))
        | (refine wp_copy_ints rfl _ _ rfl W1.heap.size l.length l.length b off cap l (List.replicate l.length 0) rfl rfl rfl (by rw [List.length_replicate]) ((Below.heap_alloc w2 _ _ (lt_of_block HROW.out)).trans HROW.out) (fun j hj => keepA (keepB HB2.out (HCW.out j hj))) ?_; intro w3 hx3 hg3; have HX3 := Lib.hid hx3; have HG3 := Lib.hid hg3; have c8 : w3.cell? ⟨w2.heap.size, 0, none⟩ = some (.slice (some ⟨W1.heap.size, 0, none⟩) l.length l.length) := hg3.cell (keepN rfl rfl) (fun e => absurd (Option.some.inj e) (by show w2.heap.size ≠ W1.heap.size; have := lt_of_block HROW.out; omega)); clear hx3 hg3)
        | fail)
      have HB3 : Hid (Below W1.heap.size W1 w3) := Lib.hid ((HB2.out.alloc HB2.out.size _).grown HG3.out (by have := HB2.out.size; simp; omega) (fun k h => by cases h; exact Nat.le_refl _))
      have HROW3 := Lib.hid (RowAt.of_block (B := w.heap.size) (by have := HS1.out; omega) (by omega) HX3.out)
      have HP1 := Lib.hid (HPA.out _ _ _ l.length w3 (Nat.le_refl _) (fun x hx => HOK.out x hx) HROW3.out)
      clear hk hkl
      refine HP1.out.mono ?_
      rintro e w4 ⟨rfl, hr4, hg4⟩
      have c9 : w4.cell? ⟨w2.heap.size, 0, none⟩ = some (.slice (some ⟨W1.heap.size, 0, none⟩) l.length l.length) := hg4.cell c8 (fun e => absurd (Option.some.inj e) (by show w2.heap.size ≠ W1.heap.size; have := lt_of_block HROW.out; omega))
      have HB4 : Hid (Below W1.heap.size W1 w4) := Lib.hid (HB3.out.grown hg4 HB3.out.size (fun k h => by cases h; exact Nat.le_refl _))
      have HCV : Hid (∀ x, x < l.length → w4.cell? ⟨W1.heap.size, x, none⟩ = some (.int .i64 (toV l x))) := Lib.hid (fun x hx => by
        have := hr4.cell x (by rw [segL_len]; exact hx)
        rwa [HSEG.out x hx] at this)
      have HC9 := Lib.hid c9
      clear hr4 hg4 c8
      go_wp2_with fail
      go_loop [10, 44] (fun _ i => ∃ k : Nat, i = .int .i64 (k : Int) ∧ k ≤ l.length ∧ Hid (∀ j, j < k → 0 ≤ toV l j ∧ toV l j ≤ 1)) (fun _ i => 33 - (intOf i).toNat)
      case atStart => exact ⟨0, rfl, by omega, Lib.hid (fun y hy => absurd hy (by omega))⟩
      case round =>
        obtain ⟨k, rfl, hk, HOV⟩ := hrel
        have X4 : w4.heap[w.heap.size]? = some (.cells #[.int .i64 0, .int .i64 0] 25 (0, 0)) := blockC HB4.out HX1.out
        obtain ⟨q0, q1, g0, g1⟩ := cells2 X4
        have hq4 : w.heap.size < w4.heap.size := lt_of_block X4
        by_cases hkl : k < l.length
        · have hkz : (k : Int) < (l.length : Int) := by omega
          have ck := HCV.out k hkl
          by_cases hin : 0 ≤ toV l k ∧ toV l k ≤ 1
          · have HOV2 : Hid (∀ j, j < k + 1 → 0 ≤ toV l j ∧ toV l j ≤ 1) := Lib.hid (fun j hj => by
              rcases (show j < k ∨ j = k by omega) with h1 | rfl
              · exact HOV.out j h1
              · exact hin)
            have HI := Lib.hid (Tab.isVal_yes _ hin)
            generalize toV l k = y at *
            clear hin X4 q0 q1 g0 g1
            go_wp2_with fail
            refine (HI.out _).mono ?_
            rintro e w5 ⟨rfl, rfl⟩
            go_wp2_with fail
            go_round
            case rel => exact ⟨k + 1, by go_num, by omega, HOV2⟩
            case measure => simp [intOf] <;> omega
          · have HBAD : Hid (r = (0, 0, false)) := Lib.hid (HR.out.bad fun hg => hin (hg.2 k (by rw [← HL.out]; exact hkl)))
            have HI := Lib.hid (Tab.isVal_no _ hin)
            generalize toV l k = y at *
            clear hin X4
            go_wp2_with fail
            refine (HI.out _).mono ?_
            rintro e w5 ⟨rfl, rfl⟩
            go_wp2_with fail
            exact bodyPost_ret (v := .tuple #[.agg #[.int .i64 0, .int .i64 0], .bool false]) (by simp [results, Tryz.results15, go_sem, q0, q1]) rfl ⟨by rw [HBAD.out], by repeat (first | exact HBW.out.trans (HB4.out.mono (by have := HS1.out; omega)) | refine bS (by simp) ?_)⟩
        · obtain rfl : k = l.length := by omega
          have HG : Hid (r = ((m : Int), (tabN (toN l) (2 ^ m) : Int), true)) := Lib.hid (HR.out.good ⟨fun j hj => HOK.out j (by rw [HL.out]; exact hj), fun y hy => HOV.out y (by rw [HL.out]; exact hy)⟩)
          have HOVN : Hid (∀ x, x < l.length → toV l x = (toN l x : Int)) := Lib.hid (fun x hx => by have := HOV.out x hx; unfold toN; omega)
          clear q0 q1 g0 g1 hk hkl
          go_wp2_with fail
          refine (Tab.from_any m HM.out (toN l) 42 #[.pointer (some ⟨w2.heap.size, 0, none⟩)] (enters_of Tryz.func42 (by kernel_rfl) rfl) _ ?gv).mono ?_
          case gv =>
            intro W x hx hb
            have hxl : x < l.length := by rw [HL.out]; exact hx
            exact (Clo.toc w2.heap.size W1.heap.size l.length x l.length (toN l x) (by omega) W (cellOn hb HC9.out) (cellOn hb (by rw [← HOVN.out x hxl]; exact HCV.out x hxl))).mono fun e w' h => ⟨h.1, h.2 ▸ Below.refl _ _⟩
          rintro e w5 ⟨rfl, hb5⟩
          have X5 := blockC hb5 X4
          obtain ⟨q0, q1, g0, g1⟩ := cells2 X5
          have hq5 : w.heap.size < w5.heap.size := lt_of_block X5
          have HB5 := Lib.hid (HBW.out.trans ((bB hb5 HB4.out.size HB4.out).mono (by have := HS1.out; omega)))
          clear hb5 X5 X4
          generalize tabN (toN l) (2 ^ m) = T at *
          go_wp2_with fail
          exact bodyPost_ret (v := .tuple #[.agg #[.int .i64 m, .int .i64 T], .bool true]) (by simp [results, Tryz.results15, go_sem, q0, q1]) rfl ⟨by rw [HG.out], by repeat (first | exact HB5.out | refine bS (by simp) ?_)⟩

/-- TableOfCoefficients: what both answer, at every list that the law asks of. -/
theorem Toc.both (l : List Int) (hs : (l.length : Int) ≤ 1048576) : ∃ r : Int × Int × Bool,
    (∀ v w, IntsIn w v l → Calls Tryz.prog 22 #[v] w fun e w' => e = .returned (.tuple #[.agg #[.int .i64 r.1, .int .i64 r.2.1], .bool r.2.2]) ∧ Below w.heap.size w w') ∧
    (∀ v w, IntsIn w v l → Tz64 w → Calls Tryz.prog 15 #[v] w fun e w' => e = .returned (.tuple #[.agg #[.int .i64 r.1, .int .i64 r.2.1], .bool r.2.2]) ∧ Below w.heap.size w w') ∧
    (∀ m, m ≤ 5 → l.length = 2 ^ m → TocIs l m r) := by
  by_cases hz : ∃ m, m ≤ 5 ∧ l.length = 2 ^ m
  · obtain ⟨m, hm, hl⟩ := hz
    obtain ⟨r, hr⟩ : ∃ r, TocIs l m r := by
      by_cases hg : toG l (2 ^ m)
      · exact ⟨_, fun _ => rfl, fun h => absurd hg h⟩
      · exact ⟨_, fun h => absurd h hg, fun _ => rfl⟩
    have hpos : 0 < l.length := by rw [hl]; exact Nat.one_le_two_pow
    refine ⟨r, ?_, ?_, ?_⟩
    · rintro v w ⟨a, cap, rfl, h1, h2, h3⟩
      obtain ⟨b, off, rfl, hbw, hcl⟩ := h3 hpos
      exact Toc.M_pow l b off cap m hm hl r hr w hbw hcl
    · rintro v w ⟨a, cap, rfl, h1, h2, h3⟩ hT
      obtain ⟨b, off, rfl, hbw, hcl⟩ := h3 hpos
      exact Toc.I_pow l b off cap m hm hl r hr w hT hbw hcl
    · intro k hk hlk
      have : k = m := by
        have e : 2 ^ k = 2 ^ m := by rw [← hlk, hl]
        rcases Nat.lt_trichotomy k m with h | h | h
        · exact absurd e (Nat.ne_of_lt (Nat.pow_lt_pow_right (by decide) h))
        · exact h
        · exact absurd e.symm (Nat.ne_of_lt (Nat.pow_lt_pow_right (by decide) h))
      subst this
      exact hr
  · have hz' : ∀ m, m ≤ 5 → l.length ≠ 2 ^ m := fun m hm he => hz ⟨m, hm, he⟩
    refine ⟨(0, 0, false), ?_, ?_, fun m hm he => absurd he (hz' m hm)⟩
    · rintro v w ⟨a, cap, rfl, h1, h2, h3⟩
      exact Toc.M_none l a cap hz' w
    · rintro v w ⟨a, cap, rfl, h1, h2, h3⟩ hT
      exact Toc.I_none l a cap hz' hs w hT

end Go.Proofs.YtphjaggiddjhgaaGreatDoor
