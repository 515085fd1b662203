/-
  Chapter 7: trees of pointers, of the program: what lies in memory, isValue, follow, value, queries.
-/
import Derived.Test.YtdhdkonokbkdoaaGreatDoorTreE
import Derived.Test.YtdhdkonokbkdoaaGreatDoorResB
import Derived.BigQuiet
namespace Go.Proofs.YtdhdkonokbkdoaaGreatDoor
open Go.RowKit Plain
set_option linter.unusedVariables false

/-- A tree lies at block b, all of it from block 'base' on. -/
def TrIn (base : Nat) (w : World) : DT → Nat → Prop
  | .val v, b => base ≤ b ∧ w.cell? ⟨b, 0, none⟩ = some (.int .i64 (v.toNat : Int)) ∧ w.cell? ⟨b, 1, none⟩ = some (.pointer none) ∧ w.cell? ⟨b, 2, none⟩ = some (.pointer none)
  | .ask i l r, b => base ≤ b ∧ w.cell? ⟨b, 0, none⟩ = some (.int .i64 (i.val : Int)) ∧ ∃ bl br, w.cell? ⟨b, 1, none⟩ = some (.pointer (some ⟨bl, 0, none⟩)) ∧ w.cell? ⟨b, 2, none⟩ = some (.pointer (some ⟨br, 0, none⟩)) ∧ TrIn base w l bl ∧ TrIn base w r br

theorem TrIn.mono {base base' : Nat} {w : World} (hb : base' ≤ base) : ∀ {T : DT} {b : Nat}, TrIn base w T b → TrIn base' w T b := by
  intro T
  induction T with
  | val v => intro b h; exact ⟨Nat.le_trans hb h.1, h.2⟩
  | ask i l r ihl ihr =>
    intro b h
    obtain ⟨h1, h2, bl, br, h3, h4, h5, h6⟩ := h
    exact ⟨Nat.le_trans hb h1, h2, bl, br, h3, h4, ihl h5, ihr h6⟩

/-- What keeps every cell keeps trees. -/
theorem TrIn.keep {base : Nat} {w w' : World} (hk : ∀ b o v, base ≤ b → w.cell? ⟨b, o, none⟩ = some v → w'.cell? ⟨b, o, none⟩ = some v) : ∀ {T : DT} {b : Nat}, TrIn base w T b → TrIn base w' T b := by
  intro T
  induction T with
  | val v => intro b h; exact ⟨h.1, hk _ _ _ h.1 h.2.1, hk _ _ _ h.1 h.2.2.1, hk _ _ _ h.1 h.2.2.2⟩
  | ask i l r ihl ihr =>
    intro b h
    obtain ⟨h1, h2, bl, br, h3, h4, h5, h6⟩ := h
    exact ⟨h1, hk _ _ _ h1 h2, bl, br, hk _ _ _ h1 h3, hk _ _ _ h1 h4, ihl h5, ihr h6⟩

theorem TrIn.below {base : Nat} {w w' : World} (hb : Below w.heap.size w w') {T : DT} {b : Nat} (h : TrIn base w T b) : TrIn base w' T b :=
  h.keep fun _ _ _ _ hc => cellOn hb hc
theorem TrIn.set {base : Nat} {w : World} {p : Addr} {u : Value} (hp : p.block < base) {T : DT} {b : Nat} (h : TrIn base w T b) : TrIn base (w.setCell p u) T b :=
  h.keep fun b o v hb hc => keepS (by dsimp only; omega) hc
theorem TrIn.drew {base : Nat} {w : World} (n : Nat) {T : DT} {b : Nat} (h : TrIn base w T b) : TrIn base (w.drewN n) T b :=
  h.below (below_drewN (Below.refl _ _) _)

set_option maxRecDepth 100000 in
theorem IsVal.yes (w : World) (b : Nat) (hc : w.cell? ⟨b, 1, none⟩ = some (.pointer none)) :
    Calls Tryz.prog 59 #[.pointer (some ⟨b, 0, none⟩)] w fun e w' => e = .returned (.bool true) ∧ w = w' := by
  go_enter Tryz.func59, Tryz.ntmps59
  go_wp2_with fail
  go_ret
  exact ⟨rfl, rfl⟩
set_option maxRecDepth 100000 in
theorem IsVal.no (w : World) (b : Nat) (a : Addr) (hc : w.cell? ⟨b, 1, none⟩ = some (.pointer (some a))) :
    Calls Tryz.prog 59 #[.pointer (some ⟨b, 0, none⟩)] w fun e w' => e = .returned (.bool false) ∧ w = w' := by
  go_enter Tryz.func59, Tryz.ntmps59
  go_wp2_with fail
  go_ret
  exact ⟨rfl, rfl⟩

set_option maxRecDepth 100000 in
set_option maxHeartbeats 2000000 in
/-- follow. -/
theorem Follow.any (T : DT) (x : Nat) (hx : (x : Int) ≤ 31) (hn5 : numD T x ≤ 5) (base b : Nat) (w : World) (hT : TrIn base w T b) :
    Calls Tryz.prog 66 #[.pointer (some ⟨b, 0, none⟩), .int .i64 (x : Int)] w fun e w' => e = .returned (.tuple #[.int .i64 (valD T x : Int), .int .i64 (numD T x : Int)]) ∧ Below w.heap.size w w' := by
  have HT := Lib.hid hT
  have HV := Lib.hid hn5
  generalize hvt : valD T x = vt at *
  generalize hnt : numD T x = nt at *
  have HVT := Lib.hid hvt
  have HNT := Lib.hid hnt
  clear hvt hnt hn5 hT
  go_enter Tryz.func66, Tryz.ntmps66
  go_wp2_with fail
  go_loopw [0, 6] (fun p c wr => ∃ (U : DT) (k m : Nat), p = .pointer (some ⟨k, 0, none⟩) ∧ c = .int .i64 (m : Int) ∧ TrIn base wr U k ∧ (valD U x = vt ∧ m + numD U x = nt) ∧ Below w.heap.size w wr) (fun _ c _ => 64 - (intOf c).toNat)
  case atStart => exact ⟨T, b, 0, rfl, rfl, HT.out, ⟨HVT.out, by rw [HNT.out]; omega⟩, Below.refl _ _⟩
  case round =>
    obtain ⟨U, k, m, rfl, rfl, hin, ⟨hv, hc⟩, hbel⟩ := hrel
    have HB := Lib.hid hbel
    have hszr := hbel.size
    have hm5 : (m : Int) ≤ 5 := by have := HV.out; omega
    clear hbel
    cases U with
    | val v =>
      obtain ⟨h0, c0, c1, c2⟩ := hin
      have HE : Hid (vt = v.toNat ∧ nt = m) := Lib.hid ⟨hv.symm, by simp only [numD] at hc; omega⟩
      clear hv hc
      go_wp2_with fail
      refine (IsVal.yes _ _ c1).mono ?_
      rintro e w2 ⟨rfl, rfl⟩
      go_wp2_with fail
      go_ret2
      exact ⟨by rw [HE.out.1, HE.out.2]; rfl, HB.out⟩
    | ask i l r =>
      obtain ⟨h0, c0, bl, br, c1, c2, hl, hr⟩ := hin
      have hbit := bit_i64 x i.val (by omega)
      have hi := i.isLt
      cases hb : x.testBit i.val with
      | true =>
        rw [bit_of x i.val true hb] at hbit
        have HO : Hid (valD r x = vt ∧ m + 1 + numD r x = nt) := Lib.hid ⟨by rw [← hv]; simp [valD, hb], by rw [← hc]; simp only [numD, hb]; simp; omega⟩
        have HL := Lib.hid hr
        have hm6 : (m : Int) + 1 ≤ 6 := by omega
        clear hv hc hb hl hr
        generalize i.val = I at *
        go_wp2_with fail
        refine (IsVal.no _ _ _ c1).mono ?_
        rintro e w2 ⟨rfl, rfl⟩
        go_wp2_with fail
        go_quiet (fail)
        go_wp2_with fail
        go_roundw
        case rel => exact ⟨r, br, m + 1, rfl, by go_num, HL.out.drew _, HO.out, below_drewN HB.out _⟩
        case measure => simp [intOf]; omega
      | false =>
        rw [bit_of x i.val false hb] at hbit
        have HO : Hid (valD l x = vt ∧ m + 1 + numD l x = nt) := Lib.hid ⟨by rw [← hv]; simp [valD, hb], by rw [← hc]; simp only [numD, hb]; simp; omega⟩
        have HL := Lib.hid hl
        clear hv hc hb hl hr
        generalize i.val = I at *
        go_wp2_with fail
        refine (IsVal.no _ _ _ c1).mono ?_
        rintro e w2 ⟨rfl, rfl⟩
        go_wp2_with fail
        go_quiet (fail)
        go_wp2_with fail
        go_roundw
        case rel => exact ⟨l, bl, m + 1, rfl, by go_num, HL.out.drew _, HO.out, below_drewN HB.out _⟩
        case measure => simp [intOf]; omega

set_option maxRecDepth 100000 in
/-- value. -/
theorem TrVal.any (T : DT) (x : Nat) (hx : (x : Int) ≤ 31) (hn5 : numD T x ≤ 5) (base b : Nat) (w : World) (hT : TrIn base w T b) :
    Calls Tryz.prog 43 #[.pointer (some ⟨b, 0, none⟩), .int .i64 (x : Int)] w fun e w' => e = .returned (.int .i64 (valD T x : Int)) ∧ Below w.heap.size w w' := by
  have HF := Lib.hid (Follow.any T x hx hn5 base b w hT)
  clear hT hn5
  go_enter Tryz.func43, Tryz.ntmps43
  go_wp2_with fail
  refine HF.out.mono ?_
  rintro e w2 ⟨rfl, hb⟩
  go_wp2_with fail
  go_ret
  exact ⟨rfl, hb⟩

set_option maxRecDepth 100000 in
/-- queries. -/
theorem TrNum.any (T : DT) (x : Nat) (hx : (x : Int) ≤ 31) (hn5 : numD T x ≤ 5) (base b : Nat) (w : World) (hT : TrIn base w T b) :
    Calls Tryz.prog 44 #[.pointer (some ⟨b, 0, none⟩), .int .i64 (x : Int)] w fun e w' => e = .returned (.int .i64 (numD T x : Int)) ∧ Below w.heap.size w w' := by
  have HF := Lib.hid (Follow.any T x hx hn5 base b w hT)
  clear hT hn5
  go_enter Tryz.func44, Tryz.ntmps44
  go_wp2_with fail
  refine HF.out.mono ?_
  rintro e w2 ⟨rfl, hb⟩
  go_wp2_with fail
  go_ret
  exact ⟨rfl, hb⟩

end Go.Proofs.YtdhdkonokbkdoaaGreatDoor
