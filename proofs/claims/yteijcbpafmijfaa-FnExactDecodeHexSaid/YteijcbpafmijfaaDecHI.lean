/-
  DecodeHex of the program and of its model: both answer 'Plain.decH'.
-/
import Derived.Test.YteijcbpafmijfaaEncHI
import Derived.Lib.OthersKept
namespace Go.Proofs.Yteijcbpafmijfaa
open Go.RowKit Plain
set_option linter.unusedVariables false

def decText (l : List UInt8) : List UInt8 := (decH l).getD []
def decFine (l : List UInt8) : Bool := (decH l).isSome
theorem ret_text {a b : List UInt8} {x y : Bool} (h : a = b) (g : x = y) : Ending.returned (.tuple #[.string ⟨a.toArray⟩, .bool x]) = .returned (.tuple #[.string ⟨b.toArray⟩, .bool y]) := by rw [h, g]
theorem dec_none {l : List UInt8} (h : decH l = none) : [] = decText l ∧ false = decFine l := by unfold decText decFine; rw [h]; exact ⟨rfl, rfl⟩
theorem dec_some {l m : List UInt8} (h : decH l = some m) : m = decText l ∧ true = decFine l := by unfold decText decFine; rw [h]; exact ⟨rfl, rfl⟩

set_option maxRecDepth 100000 in
theorem Hex.value (r : Int) (hr : 0 ≤ r ∧ r ≤ 2147483647) (w : World) :
    Calls Try.prog 25 #[.int .i32 r] w fun e w' => e = .returned (.int .i64 (digitOf r)) ∧ w = w' := by
  obtain ⟨hr1, hr2⟩ := hr
  by_cases h1 : 48 ≤ r
  · by_cases h2 : r ≤ 57
    · have H : Hid (digitOf r = r - 48) := Lib.hid (if_pos ⟨h1, h2⟩)
      go_enter Try.func25, Try.ntmps25
      go_wp2
      go_ret
      exact ⟨ret_int (by rw [H.out]), rfl⟩
    · by_cases h3 : 97 ≤ r
      · by_cases h4 : r ≤ 102
        · have H : Hid (digitOf r = r - 97 + 10) := Lib.hid (by unfold digitOf; rw [if_neg (by omega), if_pos (by omega)]; omega)
          go_enter Try.func25, Try.ntmps25
          go_wp2
          go_ret
          exact ⟨ret_int (by rw [H.out]), rfl⟩
        · have H : Hid (digitOf r = -1) := Lib.hid (by unfold digitOf; rw [if_neg (by omega), if_neg (by omega)])
          go_enter Try.func25, Try.ntmps25
          go_wp2
          go_ret
          exact ⟨ret_int (by rw [H.out]), rfl⟩
      · have H : Hid (digitOf r = -1) := Lib.hid (by unfold digitOf; rw [if_neg (by omega), if_neg (by omega)])
        go_enter Try.func25, Try.ntmps25
        go_wp2
        go_ret
        exact ⟨ret_int (by rw [H.out]), rfl⟩
  · have h3 : ¬ 97 ≤ r := by omega
    have H : Hid (digitOf r = -1) := Lib.hid (by unfold digitOf; rw [if_neg (by omega), if_neg (by omega)])
    go_enter Try.func25, Try.ntmps25
    go_wp2
    go_ret
    exact ⟨ret_int (by rw [H.out]), rfl⟩

theorem at_list (s : ByteArray) (j : Nat) (h : j < s.size) : s.data.toList[j]? = some s[j] := by
  rw [List.getElem?_eq_getElem (by simpa using h)]; rfl

/-- A row of bytes is no iterator: it stays while an iterator is moved on. -/
theorem ByteRow.apart {w : World} {B : Nat} {v : Value} {l : List UInt8} (h : ByteRow w B v l) {k : Nat} {s : ByteArray} {p : Nat} (hk : w.heap[k]? = some (.stringIter s p)) : some k ≠ v.ownBlock := by
  rcases h.2 with ⟨rfl, _⟩ | ⟨g, cap, cur, rfl, _, hg, _⟩
  · simp [Value.ownBlock]
  · simp only [Value.ownBlock, ne_eq, Option.some.injEq]
    rintro rfl
    rw [hk] at hg
    cases hg

theorem ByteRow.iterAt {w : World} {B : Nat} {v : Value} {l : List UInt8} (h : ByteRow w B v l) {k : Nat} {s : ByteArray} {p : Nat} (hk : w.heap[k]? = some (.stringIter s p)) (p' : Nat) : ByteRow (w.iterAt k s p') B v l :=
  World.ownsRow.kept h (row := some k) ⟨rfl, rfl, rfl, by rw [Lib.iterAt_size]; exact Nat.le_refl _, fun j _ hj => Lib.iterAt_other w k j s p' (fun e => hj (by rw [e]))⟩ (.inr (h.apart hk).symm)

/-- Where the loop over the runes stands: at an even place nothing is pending; behind an odd digit its value is. -/
def HState (s : List UInt8) (p : Nat) (acc : List UInt8) (h : Int) : Prop :=
  -1 ≤ h ∧ h ≤ 15 ∧ ((p % 2 = 0 ∧ HRest s p acc) ∨ ∃ q a, p = q + 1 ∧ q % 2 = 0 ∧ HRest s q acc ∧ s[q]? = some a ∧ 0 ≤ digitOf a.toNat ∧ h = digitOf a.toNat)
theorem HState.start (s : List UInt8) : HState s 0 [] 0 := ⟨by omega, by omega, .inl ⟨rfl, HRest.start s⟩⟩
theorem HState.bad {s : List UInt8} {p : Nat} {acc : List UInt8} {h : Int} (hs : HState s p acc h) (c : UInt8) (hc : s[p]? = some c) (hd : digitOf c.toNat < 0) : decH s = none := by
  rcases hs.2.2 with ⟨_, hr⟩ | ⟨q, a, rfl, _, hr, ha, _, _⟩
  · exact hr.bad c hc hd
  · exact hr.bad2 c hc hd
theorem HState.even {s : List UInt8} {p : Nat} {acc : List UInt8} {h : Int} (hs : HState s p acc h) (hp : p % 2 = 0) (c : UInt8) (hc : s[p]? = some c) (hd : 0 ≤ digitOf c.toNat) : HState s (p + 1) acc (digitOf c.toNat) := by
  rcases hs.2.2 with ⟨_, hr⟩ | ⟨q, a, rfl, hq, hr, ha, _, _⟩
  · exact ⟨by omega, digitOf_le _, .inr ⟨p, c, rfl, hp, hr, hc, hd, rfl⟩⟩
  · omega
theorem HState.odd {s : List UInt8} {p : Nat} {acc : List UInt8} {h : Int} (hs : HState s p acc h) (hp : p % 2 = 1) (c : UInt8) (hc : s[p]? = some c) (hd : 0 ≤ digitOf c.toNat) :
    HState s (p + 1) (acc ++ [UInt8.ofNat (16 * h + digitOf c.toNat).toNat]) h ∧ 0 ≤ h := by
  rcases hs.2.2 with ⟨hp0, hr⟩ | ⟨q, a, rfl, hq, hr, ha, h0, rfl⟩
  · omega
  · exact ⟨⟨hs.1, hs.2.1, .inl ⟨by omega, hr.next a c ha hc h0 hd⟩⟩, h0⟩
theorem HState.last {s : List UInt8} {p : Nat} {acc : List UInt8} {h : Int} (hs : HState s p acc h) (hp : p = s.length) (he : s.length % 2 = 0) : decH s = some acc := by
  rcases hs.2.2 with ⟨hp0, hr⟩ | ⟨q, a, rfl, hq, hr, ha, h0, rfl⟩
  · exact hr.last (by omega)
  · omega

set_option maxRecDepth 100000 in
set_option maxHeartbeats 2000000 in
theorem DecH.impl (s : ByteArray) (hs : (s.size : Int) ≤ 4000000) (w : World) :
    Calls Try.prog 20 #[.string s] w fun e w' => e = .returned (.tuple #[.string ⟨(decText s.data.toList).toArray⟩, .bool (decFine s.data.toList)]) ∧ Below w.heap.size w w' := by
  by_cases hodd : s.size % 2 = 1
  · have HD := Lib.hid (dec_none (decH_odd s.size s.data.toList (by simp) (by simpa using hodd)))
    have ht : ((s.size : Int) % 2 != 0) = true := by rw [bne_iff_ne]; omega
    clear hodd
    go_enter Try.func20, Try.ntmps20
    go_wp2
    go_ret2
    exact ⟨ret_text (a := []) HD.out.1 HD.out.2, Below.refl _ _⟩
  · have ht : ((s.size : Int) % 2 != 0) = false := by rw [bne_eq_false_iff_eq]; omega
    have heven : s.size % 2 = 0 := by omega
    have HE := Lib.hid heven
    clear hodd heven
    obtain ⟨i0, hi, hz0, hz1, hz2⟩ := info_parts Try.infoByte
    go_enter Try.func20, Try.ntmps20
    go_wp2_with (at_make; go_must (refine wpList_make_own _ rfl _ _ 36 rfl w.heap.size 5 i0 (.int .u8 0) 1 Try.underlying36 hi hz0 hz1 _ _ _ (s.size / 2) rfl rfl (by omega) (by rw [hz2]; omega) (by unfold maxLen; omega) (Nat.le_refl _) ?_; intro w1 hown hgrow))
    have hb1 : Below w.heap.size w w1 := (Below.refl _ _).grown hgrow (Nat.le_refl _) (fun _ h => by cases h)
    have hB1 : w.heap.size ≤ w1.heap.size := hb1.size
    clear hgrow hi hz0 hz1 hz2 ht
    go_loopw [4, 5] (fun v h wr => ∃ (p : Nat) (acc : List UInt8) (hv : Int), p ≤ s.size ∧ acc.length ≤ p ∧ h = .int .i64 hv ∧ HState s.data.toList p acc hv ∧ wr.heap[w1.heap.size]? = some (.stringIter s p) ∧ ByteRow wr w.heap.size v acc ∧ Below w.heap.size w wr) (fun _ _ wr => s.size - wr.iterPos w1.heap.size)
    case atStart => exact ⟨0, [], 0, by omega, by simp, rfl, HState.start _, World.iter_heap w1 s 0, World.ownsRow.alloc hown _, hb1.alloc hB1 _⟩
    case round =>
      obtain ⟨p, acc, hv, hps, hal, rfl, hst, hit, hrow, hb⟩ := hrel
      have hB := hb.size
      have HST := Lib.hid hst
      have hv1 := hst.1
      have hv2 := hst.2.1
      clear hst
      by_cases hlt : p < s.size
      · have hd1 := digitOf_le (s[p].toNat : Int)
        have hd2 := digitOf_ge (s[p].toNat : Int)
        have hsp := s[p].toNat_lt
        by_cases ha : s[p].toNat < 128
        · have hnx : ∀ ty, (Instr.next (.pointer (some ⟨w1.heap.size, 0, none⟩)) true ty).run Try.prog wr = _ := fun ty => Lib.run_next_ascii_at wr w1.heap.size s p ty hit hlt ha
          have hit2 := Lib.iterAt_heap wr w1.heap.size s p (p + 1) hit
          have hrow2 := hrow.iterAt hit (p + 1)
          have hb2 := Lib.below_iterAt hb (k := w1.heap.size) hB1 s (p + 1)
          have hB2 := hb2.size
          have HIT := Lib.hid hit
          clear hit
          by_cases hneg : digitOf (s[p].toNat : Int) < 0
          · have HD := Lib.hid (dec_none (HST.out.bad s[p] (at_list s p hlt) hneg))
            go_wp2_with (go_at_call 25; refine (Hex.value _ (by omega) _).mono ?_; rintro e w' ⟨rfl, rfl⟩)
            go_ret2
            exact ⟨ret_text (a := []) HD.out.1 HD.out.2, hb2⟩
          · have hpos : 0 ≤ digitOf (s[p].toNat : Int) := by omega
            clear hneg
            by_cases hev : p % 2 = 0
            · have HN := Lib.hid (HST.out.even hev s[p] (at_list s p hlt) hpos)
              have ht : ((p : Int) % 2 == 0) = true := by rw [beq_iff_eq]; omega
              clear hev
              go_wp2_with (go_at_call 25; refine (Hex.value _ (by omega) _).mono ?_; rintro e w' ⟨rfl, rfl⟩)
              go_roundw
              case rel => exact ⟨p + 1, acc, _, by omega, by omega, rfl, HN.out, hit2, hrow2, hb2⟩
              case measure => simp only [World.iterPos, hit2, HIT.out]; omega
            · have HN := Lib.hid (HST.out.odd (by omega) s[p] (at_list s p hlt) hpos)
              have ht : ((p : Int) % 2 == 0) = false := by rw [beq_eq_false_iff_ne]; omega
              have hv0 := HN.out.2
              have hc : 0 ≤ 16 * hv + digitOf (s[p].toNat : Int) ∧ 16 * hv + digitOf (s[p].toNat : Int) ≤ 255 := by omega
              clear hev
              go_wp2_with (first
                | (go_at_call 25; refine (Hex.value _ (by omega) _).mono ?_; rintro e w' ⟨rfl, rfl⟩)
                | (at_builtin; go_must (refine wp_byteK rfl _ _ rfl w.heap.size w _ _ acc (16 * hv + digitOf (s[p].toNat : Int)) _ hrow2 hb2 hB2 hc (by omega) rfl rfl rfl ?_; intro v1 w2 k1 k2 k3 k4)))
              go_roundw
              case rel => exact ⟨p + 1, _, _, by omega, by simp; omega, rfl, HN.out.1, k4 _ _ hit2 (hrow2.apart hit2), k1, k2⟩
              case measure => simp only [World.iterPos, k4 _ _ hit2 (hrow2.apart hit2), HIT.out]; omega
        · have hnx : ∀ ty, (Instr.next (.pointer (some ⟨w1.heap.size, 0, none⟩)) true ty).run Try.prog wr = _ := fun ty => Lib.run_next_any_at wr w1.heap.size s p ty hit hlt
          have hhi := decode_high s p hlt (by omega)
          have hle := decode_le s p
          have hb2 := Lib.below_iterAt hb (k := w1.heap.size) hB1 s (p + (Utf8.decode s p).2)
          have hneg : digitOf (s[p].toNat : Int) < 0 := by unfold digitOf; rw [if_neg (by omega), if_neg (by omega)]; omega
          have hneg2 : digitOf ((Utf8.decode s p).1 : Int) < 0 := by unfold digitOf; rw [if_neg (by omega), if_neg (by omega)]; omega
          have HD := Lib.hid (dec_none (HST.out.bad s[p] (at_list s p hlt) hneg))
          clear hneg hit
          go_wp2_with (go_at_call 25; refine (Hex.value _ (by omega) _).mono ?_; rintro e w' ⟨rfl, rfl⟩)
          go_ret2
          exact ⟨ret_text (a := []) HD.out.1 HD.out.2, hb2⟩
      · have HD := Lib.hid (dec_some (HST.out.last (by simp; omega) (by simpa using HE.out)))
        have hnx : ∀ ty, (Instr.next (.pointer (some ⟨w1.heap.size, 0, none⟩)) true ty).run Try.prog wr = _ := fun ty => Lib.run_next_end_at wr w1.heap.size s p ty hit hlt
        have gt := hrow.text
        clear hit
        go_wp2
        go_ret2
        exact ⟨ret_text HD.out.1 HD.out.2, hb⟩
end Go.Proofs.Yteijcbpafmijfaa
