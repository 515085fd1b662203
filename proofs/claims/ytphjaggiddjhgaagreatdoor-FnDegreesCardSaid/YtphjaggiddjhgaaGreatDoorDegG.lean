/-
  Rows of strings that a call made itself; FormatAnf of the program.
-/
import Derived.Test.YtphjaggiddjhgaaGreatDoorDegK
import Derived.Test.YtphjaggiddjhgaaGreatDoorDegF
import Derived.Shelf.Strings.OnBuilder
namespace Go.Proofs.YtphjaggiddjhgaaGreatDoor
open Go.RowKit Plain Go.Shelf
set_option linter.unusedVariables false

theorem Tryz.infoStr : (Tryz.prog.info? 9).map (fun i => (i.zero, i.size, i.bytes)) = some (some (.string ⟨#[]⟩), 1, 16) := by kernel_rfl

def strV (l : List (List UInt8)) : List Value := l.map (fun x => Value.string ⟨x.toArray⟩)
theorem strV_snoc (l : List (List UInt8)) (x : List UInt8) : strV (l ++ [x]) = strV l ++ [.string ⟨x.toArray⟩] := by simp [strV]
def StrRow (w : World) (B : Nat) (v : Value) (l : List (List UInt8)) : Prop := w.ownsRow B 9 1 v l.length (strV l)
theorem StrRow.nil (w : World) (B : Nat) : StrRow w B (.slice none 0 0) [] := ⟨by simp [strV], .inl ⟨rfl, rfl⟩⟩
theorem StrRow.below {w w' : World} {B : Nat} {v : Value} {l : List (List UInt8)} (h : StrRow w B v l) (hb : Below w.heap.size w w') : StrRow w' B v l :=
  World.ownsRow.kept h (grownNone hb) (by cases hv : v.ownBlock <;> simp)
theorem StrRow.shape {w : World} {B : Nat} {v : Value} {l : List (List UInt8)} (h : StrRow w B v l) : (v = .slice none 0 0 ∧ l = []) ∨ ∃ g cap, v = .slice (some ⟨g, 0, none⟩) l.length cap ∧ B ≤ g ∧ g < w.heap.size ∧ l.length ≤ cap := by
  rcases h.2 with ⟨rfl, hn⟩ | ⟨g, cap, cur, rfl, hb, hg, hc, _⟩
  · exact .inl ⟨rfl, List.eq_nil_of_length_eq_zero hn⟩
  · exact .inr ⟨g, cap, rfl, hb, (Array.getElem?_eq_some_iff.1 hg).1, hc⟩
theorem StrRow.cell {w : World} {B g cap : Nat} {l : List (List UInt8)} (h : StrRow w B (.slice (some ⟨g, 0, none⟩) l.length cap) l) (j : Nat) (x : List UInt8) (hj : l[j]? = some x) :
    w.cell? ⟨g, j, none⟩ = some (.string ⟨x.toArray⟩) := by
  have hlt : j < l.length := (List.getElem?_eq_some_iff.1 hj).1
  unfold StrRow at h
  rw [World.ownsRow.cellAt h j (by omega)]
  simp [strV, hj]

/-- One string is appended to a row of strings of the call's own. -/
theorem wp_str {ops : Array Oper} {rest : List Oper} {o : Oper} {a : Act} {Q : Exit → Act → World → Prop} (hgd : o.guard = none) (s x : Operand)
    (ho : o.op = .call { callee := .builtin .append, args := #[s, x], argTypes := #[53, 53] })
    (B : Nat) (w wr : World) (v : Value) (l : List (List UInt8)) (c : List UInt8) (ob : Obj) (hown : StrRow wr B v l) (hb : Below B w wr) (hB : B ≤ wr.heap.size) (hlen : l.length ≤ 10000)
    (hs : a.eval s = v) (hx : a.eval x = .slice (some ⟨wr.heap.size, 0, none⟩) 1 1) (hob : ob = .cells #[.string ⟨c.toArray⟩] 9)
    (h : ∀ v' w1, StrRow w1 B v' (l ++ [c]) → Below B w w1 → wr.grownBy w1 v.ownBlock → wpList Tryz.prog ops Q rest (a.put o.dst v') w1) :
    wpList Tryz.prog ops Q (o :: rest) a (wr.alloc ob) := by
  subst hob
  obtain ⟨i0, hi, hz0, hz1, hz2⟩ := info_parts Tryz.infoStr
  refine wpList_append_own _ hgd s x 53 ho B 9 i0 (.string ⟨#[]⟩) 1 16 Tryz.underlying53 hi hz0 hz1 hz2 rfl (by decide) v l.length (strV l) hs (World.ownsRow.alloc hown _) ⟨wr.heap.size, 0, none⟩ 1 1 [.string ⟨c.toArray⟩] hx rfl ?_ ?_ ?_ ?_ ?_ ?_
  · intro j u hj
    match j, hj with
    | 0, hj =>
      simp at hj
      subst hj
      exact World.cell?_alloc_mark wr _ _ _ 0
    | j + 1, hj => simp at hj
  · intro u hu; simp at hu; subst hu; rfl
  · unfold maxLen; omega
  · omega
  · simp; omega
  · intro v' w1 h1 h2 _
    refine h v' w1 ?_ ((hb.alloc hB _).grown h2 (by simp; omega) (fun j hj => (World.ownsRow.lt hown j hj).1)) ?_
    · unfold StrRow
      rw [strV_snoc, List.length_append, List.length_singleton]
      exact h1
    · refine ⟨h2.os.trans rfl, h2.tape.trans rfl, h2.output.trans rfl, by have := h2.size; simp at this; omega, fun i hi hne => ?_⟩
      rw [h2.block i (by simp; omega) hne, Below.heap_alloc wr _ i hi]

/-- strings.Join at "+". -/
theorem Join.plus (l : List (List UInt8)) (B g cap : Nat) (w : World) (h : StrRow w B (.slice (some ⟨g, 0, none⟩) l.length cap) l) (hg : g < w.heap.size) (hc : l.length ≤ cap) (hN : l.length ≤ 32) (hlen : (Lib.join l [43]).length ≤ 1000) :
    Calls Tryz.prog 44 #[.slice (some ⟨g, 0, none⟩) l.length cap, .string ⟨#[43]⟩] w fun e w' => e = .returned (.string ⟨(Lib.join l [43]).toArray⟩) ∧ Below w.heap.size w w' := by
  have e : (l.map (fun x => (⟨x.toArray⟩ : ByteArray))).map (·.data.toList) = l := by
    rw [List.map_map]
    exact List.map_id'' (fun x => rfl) l
  have hl : (l.map (fun x => (⟨x.toArray⟩ : ByteArray))).length = l.length := List.length_map _
  have := Any.strings_Join Tryz.lays156 Tryz.Builder_Extra_156 g 0 cap (l.map (fun x => (⟨x.toArray⟩ : ByteArray))) ⟨#[43]⟩ w (fun j x hj => by
    rw [List.getElem?_map] at hj
    cases hlj : l[j]? with
    | none => rw [hlj] at hj; cases hj
    | some y =>
      rw [hlj] at hj
      cases hj
      rw [Nat.zero_add]
      exact h.cell j y hlj) hg (by rw [hl]; omega) (by rw [hl]; exact hc) (by rw [e]; exact Nat.le_trans hlen (by decide))
  rw [e, hl] at this
  exact this

theorem Prd.impl (n m : Nat) (hn : n ≤ 5) (hm : m < 2 ^ n) (w : World) :
    Calls Tryz.prog 43 #[.int .i64 n, .agg #[.int .i64 m, .int .i64 m]] w fun e w' => e = .returned (.string ⟨(prT n m).toArray⟩) ∧ Below w.heap.size w w' := by
  have h := Trm.fmtI n m m (by have := two_pow_le n hn; omega) w
  rwa [fmtTm_yes (isTm_self hn hm)] at h

theorem Fm.impl_no (n a : Int) (hb : -9223372036854775808 ≤ a ∧ a ≤ 9223372036854775807) (ht : isT n a = false) (w : World) :
    Calls Tryz.prog 16 #[.agg #[.int .i64 n, .int .i64 a]] w fun e w' => e = .returned (.string ⟨(fmT n a).toArray⟩) ∧ Below w.heap.size w w' := by
  rw [fmT_no ht]
  have HA := Lib.hid (Anf.impl_no n a hb ht)
  clear ht
  go_enter Tryz.func16, Tryz.ntmps16
  go_wp2_with fail
  refine (HA.out _).mono ?_
  rintro e w1 ⟨rfl, hb1⟩
  have hz1 := hb1.size
  simp only [World.size_alloc] at hz1
  go_wp2_with fail
  go_ret
  exact ⟨rfl, bA (by omega) (((Below.refl _ _).alloc (Nat.le_refl _) _).trans (hb1.mono (by simp)))⟩

set_option maxRecDepth 100000 in
set_option maxHeartbeats 1000000 in
theorem Fm.impl_yes (n a : Nat) (hn : n ≤ 5) (ha : (a : Int) ≤ 4294967295) (ht : isT n a = true) (w : World) :
    Calls Tryz.prog 16 #[.agg #[.int .i64 n, .int .i64 a]] w fun e w' => e = .returned (.string ⟨(fmT n a).toArray⟩) ∧ Below w.heap.size w w' := by
  rw [fmT_yes ht]
  have HN := Lib.hid hn
  have HFM : Hid (fmA n a = smT (prL (anP a) n (2 ^ n))) := Lib.hid rfl
  have HLN := Lib.hid (fmA_len (a := a) hn)
  have HA := Lib.hid (Anf.impl_yes n a hn ha ht)
  have HPM : Hid (∀ k : Nat, k < 2 ^ n → ∀ w, Calls Tryz.prog 43 #[.int .i64 n, .agg #[.int .i64 k, .int .i64 k]] w fun e w' => e = .returned (.string ⟨(prT n k).toArray⟩) ∧ Below w.heap.size w w') := Lib.hid (fun k hk w => Prd.impl n k hn hk w)
  have HBT : Hid (∀ m, m < 2 ^ n → bitN (anW n a) m = anN a m) := Lib.hid (fun m hm => anW_bit hm)
  have hr : (anW n a : Int) ≤ 4294967295 := by have := anW_le n a; have := fullN_le n hn; omega
  have hN5 := two_pow_le n hn
  generalize hNe : 2 ^ n = N at *
  have HC := Lib.hid (Tab.countN n N hn hNe)
  generalize anW n a = r at *
  clear ht hn hNe
  go_enter Tryz.func16, Tryz.ntmps16
  go_wp2_with fail
  refine (HA.out _).mono ?_
  rintro e w1 ⟨rfl, hb1⟩
  have hz1 := hb1.size
  simp only [World.size_alloc] at hz1
  have hlt1 : w.heap.size < w1.heap.size := by omega
  have k0 : w1.cell? ⟨w.heap.size, 0, none⟩ = some (.int .i64 n) := keepB hb1 (keepN rfl rfl)
  have HB1 := Lib.hid (((Below.refl w.heap.size w).alloc (Nat.le_refl _) (.cells #[.int .i64 n, .int .i64 a] 25)).trans (hb1.mono (by simp)))
  clear hb1
  go_wp2_with fail
  refine (HC.out _).mono ?_
  rintro e w2 ⟨rfl, rfl⟩
  go_wp2_with fail
  obtain ⟨W2, hW2⟩ : ∃ W2, w1.alloc (.cells #[.int .i64 n, .int .i64 r] 25) = W2 := ⟨_, rfl⟩
  have hz2 : W2.heap.size = w1.heap.size + 1 := by rw [← hW2]; simp
  have HZ2 := Lib.hid hz2
  have HK : Hid (∀ X, Below W2.heap.size W2 X → X.cell? ⟨w.heap.size, 0, none⟩ = some (.int .i64 n) ∧ X.cell? ⟨w1.heap.size, 1, none⟩ = some (.int .i64 r)) := Lib.hid (by
    intro X hX
    have e0 : W2.cell? ⟨w.heap.size, 0, none⟩ = some (.int .i64 n) := by rw [← hW2]; exact keepA k0
    have e1 : W2.cell? ⟨w1.heap.size, 1, none⟩ = some (.int .i64 r) := by rw [← hW2]; exact keepN rfl rfl
    exact ⟨keepB hX e0, keepB hX e1⟩)
  have HBW : Hid (Below w.heap.size w W2) := Lib.hid (by rw [← hW2]; exact bA (by omega) HB1.out)
  rw [hW2]
  clear hW2 k0 hz2 HB1
  go_loopw [5, 6, 17] (fun p _ i wr => ∃ k : Nat, i = .int .i64 (k : Int) ∧ k ≤ N ∧ StrRow wr W2.heap.size p (prL (anP a) n k) ∧ Below W2.heap.size W2 wr) (fun _ _ i _ => N - (intOf i).toNat)
  case atStart => exact ⟨0, rfl, by omega, StrRow.nil _ _, Below.refl _ _⟩
  case round =>
    obtain ⟨k, rfl, hk, hrow, hbel⟩ := hrel
    obtain ⟨c0, c1⟩ := HK.out _ hbel
    have HROW := Lib.hid hrow
    have HBEL := Lib.hid hbel
    have hsz := hbel.size
    clear hrow hbel
    by_cases hlt : k < N
    · have hkz : (k : Int) < (N : Int) := by omega
      have hbt := HBT.out k hlt
      have HAT := Lib.hid (Tab.at r k (by omega) (by omega))
      rw [hbt] at HAT
      have hwr : IntKind.u64.wrap (r : Int) = (r : Int) := by rw [show IntKind.u64.wrap (r : Int) = (r : Int) % 18446744073709551616 from rfl]; omega
      have hb2 := anN_lt a k
      have HP : Hid (anP a k = decide (anN a k = 1)) := Lib.hid rfl
      have HPL : Hid ((prL (anP a) n k).length ≤ 10000) := Lib.hid (by have := prL_len (anP a) n k; omega)
      rcases (show anN a k = 0 ∨ anN a k = 1 by omega) with h0 | h0
      · have HD : Hid (prL (anP a) n (k + 1) = prL (anP a) n k) := Lib.hid (prL_no (by rw [HP.out, h0]; rfl))
        rw [h0] at HAT
        clear h0 hb2 hbt
        go_wp2_with fail
        refine (HAT.out _).mono ?_
        rintro e w3 ⟨rfl, rfl⟩
        go_wp2_with fail
        go_roundw
        case rel => exact ⟨k + 1, by go_num, by omega, by rw [HD.out]; exact HROW.out, HBEL.out⟩
        case measure => simp [intOf] <;> omega
      · have HD : Hid (prL (anP a) n (k + 1) = prL (anP a) n k ++ [prT n k]) := Lib.hid (prL_yes (by rw [HP.out, h0]; rfl))
        have HPK := Lib.hid (HPM.out k hlt)
        rw [h0] at HAT
        generalize prT n k = q at *
        generalize prL (anP a) n k = l at *
        clear h0 hb2 hbt
        go_wp2_with fail
        refine (HAT.out _).mono ?_
        rintro e w3 ⟨rfl, rfl⟩
        go_wp2_with fail
        refine (HPK.out _).mono ?_
        rintro e w3 ⟨rfl, hb3⟩
        have HR3 := Lib.hid (HROW.out.below hb3)
        have HB3 := Lib.hid (bB hb3 hsz HBEL.out)
        have HS3 : Hid (W2.heap.size ≤ w3.heap.size) := Lib.hid (Nat.le_trans hsz hb3.size)
        clear hb3
        go_wp2_with (at_builtin; go_must (refine wp_str rfl _ _ rfl W2.heap.size W2 w3 _ _ q _ HR3.out HB3.out HS3.out HPL.out rfl rfl rfl ?_; intro v1 w4 k1 k2 k3))
        go_roundw
        case rel => exact ⟨k + 1, by go_num, by omega, by rw [HD.out]; exact k1, k2⟩
        case measure => simp [intOf] <;> omega
    · obtain rfl : k = N := by omega
      rcases HROW.out.shape with ⟨rfl, hnil⟩ | ⟨g, cap, rfl, hg1, hg2, hg3⟩
      · have HE : Hid (fmA n a = [48]) := Lib.hid (by rw [HFM.out, smT, if_pos hnil])
        clear hnil
        go_wp2_with fail
        go_ret
        exact ⟨by rw [HE.out]; rfl, HBW.out.trans (HBEL.out.mono (by have := HZ2.out; omega))⟩
      · by_cases hnil : prL (anP a) n k = []
        · have HE : Hid (fmA n a = [48]) := Lib.hid (by rw [HFM.out, smT, if_pos hnil])
          rw [hnil]
          clear hnil
          go_wp2_with fail
          go_ret
          exact ⟨by rw [HE.out]; rfl, HBW.out.trans (HBEL.out.mono (by have := HZ2.out; omega))⟩
        · have HE : Hid (fmA n a = Lib.join (prL (anP a) n k) [43]) := Lib.hid (by rw [HFM.out, smT, if_neg hnil])
          have hlen := prL_len (anP a) n k
          have HJ := Lib.hid (Join.plus (prL (anP a) n k) _ g cap wr HROW.out hg2 hg3 (by omega) (by rw [← HE.out]; have := HLN.out; omega))
          have hpos : 0 < (prL (anP a) n k).length := List.length_pos_iff.2 hnil
          have hz : (((prL (anP a) n k).length : Int) == 0) = false := by rw [beq_eq_false_iff_ne]; omega
          generalize prL (anP a) n k = l at *
          clear hnil
          go_wp2_with fail
          refine HJ.out.mono ?_
          rintro e w3 ⟨rfl, hb3⟩
          go_wp2_with fail
          go_ret
          exact ⟨by rw [HE.out]; rfl, HBW.out.trans ((bB hb3 hsz HBEL.out).mono (by have := HZ2.out; omega))⟩

/-- FormatAnf of the program. -/
theorem Fm.impl (n a : Int) (hb : -9223372036854775808 ≤ a ∧ a ≤ 9223372036854775807) (w : World) :
    Calls Tryz.prog 16 #[.agg #[.int .i64 n, .int .i64 a]] w fun e w' => e = .returned (.string ⟨(fmT n a).toArray⟩) ∧ Below w.heap.size w w' := by
  cases ht : isT n a with
  | false => exact Fm.impl_no n a hb ht w
  | true =>
    obtain ⟨n, a, rfl, rfl, hn, ha⟩ := isT_nat ht
    exact Fm.impl_yes n a hn (by have := fullN_le n hn; omega) ht w

end Go.Proofs.YtphjaggiddjhgaaGreatDoor
