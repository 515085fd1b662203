/-
  Chapter 9, the program: setSize, cmp.Compare, slices.MinFunc, firstLeast; CertificateSet, CertificateAt.
-/
import Derived.Test.YtbgjiblfnljigaaCerI
namespace Go.Proofs.Ytbgjiblfnljigaa
open Go.RowKit Plain
set_option linter.unusedVariables false

theorem SetSize.any (m : Nat) (hm : (m : Int) ≤ 4294967295) (w : World) :
    Calls Try.prog 66 #[.int .i64 m] w fun e w' => e = .returned (.int .i64 (popN m : Int)) ∧ w = w' := by
  have HO := Lib.hid (Tab.ones64 m hm)
  have HP : Hid (Calls Try.prog 81 #[.int .u64 m] w fun e w' => e = .returned (.int .i64 (popN m : Int)) ∧ w = w') := Lib.hid (by
    go_enter Try.func81, Try.ntmps81
    go_wp2_with fail
    refine (HO.out _).mono ?_
    rintro e w' ⟨rfl, rfl⟩
    go_wp2
    go_ret
    exact ⟨rfl, rfl⟩)
  go_enter Try.func66, Try.ntmps66
  go_wp2_with fail
  refine HP.out.mono ?_
  rintro e w' ⟨rfl, rfl⟩
  go_wp2
  go_ret
  exact ⟨rfl, rfl⟩

theorem Nan.any (x : Int) (w : World) :
    Calls Try.prog 88 #[.int .i64 x] w fun e w' => e = .returned (.bool false) ∧ w = w' := by
  go_enter Try.func88, Try.ntmps88
  go_wp2
  go_ret
  exact ⟨ret_bool (by simp), rfl⟩

def Plain.cmpI (x y : Int) : Int := if x < y then -1 else if y < x then 1 else 0
theorem Cmp.any (x y : Int) (w : World) :
    Calls Try.prog 80 #[.int .i64 x, .int .i64 y] w fun e w' => e = .returned (.int .i64 (cmpI x y)) ∧ w = w' := by
  have HN := Lib.hid (Nan.any x)
  have HM := Lib.hid (Nan.any y)
  rcases (show x < y ∨ y < x ∨ x = y by omega) with h | h | rfl
  · have HE : Hid (cmpI x y = -1) := Lib.hid (if_pos h)
    rw [HE.out]
    go_enter Try.func80, Try.ntmps80
    go_wp2_with fail
    refine (HN.out _).mono ?_
    rintro e w' ⟨rfl, rfl⟩
    go_wp2_with fail
    refine (HM.out _).mono ?_
    rintro e w' ⟨rfl, rfl⟩
    go_wp2
    go_ret
    exact ⟨rfl, rfl⟩
  · have h2 : ¬ x < y := by omega
    have HE : Hid (cmpI x y = 1) := Lib.hid ((if_neg h2).trans (if_pos h))
    rw [HE.out]
    go_enter Try.func80, Try.ntmps80
    go_wp2_with fail
    refine (HN.out _).mono ?_
    rintro e w' ⟨rfl, rfl⟩
    go_wp2_with fail
    refine (HM.out _).mono ?_
    rintro e w' ⟨rfl, rfl⟩
    go_wp2
    go_ret
    exact ⟨rfl, rfl⟩
  · have h2 : ¬ x < x := by omega
    have HE : Hid (cmpI x x = 0) := Lib.hid ((if_neg h2).trans (if_neg h2))
    rw [HE.out]
    go_enter Try.func80, Try.ntmps80
    go_wp2_with fail
    refine (HN.out _).mono ?_
    rintro e w' ⟨rfl, rfl⟩
    go_wp2_with fail
    refine (HM.out _).mono ?_
    rintro e w' ⟨rfl, rfl⟩
    go_wp2
    go_ret
    exact ⟨rfl, rfl⟩

/-- What is asked of the function value that compares two elements by the number of their bits. -/
def Keys (g : Nat) (lb : Array Value) (w : World) : Prop :=
  ∀ (W : World) (x y : Int), (0 ≤ x ∧ x ≤ 31) → (0 ≤ y ∧ y ≤ 31) → Below w.heap.size w W →
    Calls Try.prog g (#[.int .i64 x, .int .i64 y] ++ lb) W fun e w' => e = .returned (.int .i64 (cmpI (popN x.toNat : Int) (popN y.toNat : Int))) ∧ Below W.heap.size W w'

theorem cmpI_lt {x y : Nat} (h : x < y) : decide (cmpI (x : Int) (y : Int) < 0) = true := by
  unfold Plain.cmpI; rw [if_pos (by omega)]; rfl
theorem cmpI_ge {x y : Nat} (h : ¬ x < y) : decide (cmpI (x : Int) (y : Int) < 0) = false := by
  unfold Plain.cmpI; rw [if_neg (by omega)]; split <;> rfl
theorem minI_mem {l : List Int} (h0 : 0 < l.length) : ∀ i, minI (l.getD 0 0) (l.take i) ∈ l := by
  intro i
  induction i with
  | zero => exact getD_mem h0
  | succ i ih =>
    by_cases h : i < l.length
    · rw [minI_take h]
      split
      · exact getD_mem h
      · exact ih
    · rw [List.take_of_length_le (by omega)]
      rwa [List.take_of_length_le (by omega)] at ih

set_option maxRecDepth 100000 in
set_option maxHeartbeats 1000000 in
/-- slices.MinFunc: the first of the elements with fewest bits. -/
theorem MinF.any (l : List Int) (v : Value) (h0 : 0 < l.length) (hx : ∀ x ∈ l, 0 ≤ x ∧ x ≤ 31) (g : Nat) (lb : Array Value) (eg : ∀ args w, (callFunc g args).run Try.prog w = .ok (.enter g args) w) (w : World) (hi : IntsIn w v l) (hk : Keys g lb w) :
    Calls Try.prog 78 #[v, .func (.func g) #[] lb] w fun e w' => e = .returned (.int .i64 (minI (l.getD 0 0) l)) ∧ Below w.heap.size w w' := by
  have HI := Lib.hid hi
  have HK := Lib.hid hk
  have HXL := Lib.hid hx
  obtain ⟨a, cap, rfl, hlen, hbd, hcells⟩ := hi
  obtain ⟨b, off, rfl, hblt, hcel⟩ := hcells h0
  have HC := Lib.hid hcel
  have h0c : w.cell? ⟨b, off, none⟩ = some (.int .i64 (l.getD 0 0)) := hcel 0 h0
  have HB := Lib.hid hblt
  have H0 := Lib.hid h0
  have hl1 : (1 : Int) ≤ (l.length : Int) := by omega
  have hlt1 : decide ((l.length : Int) < 1) = false := decide_eq_false (by omega)
  have hl0 : (0 : Int) < (l.length : Int) := by omega
  have E1 : Hid (l.getD 0 0 = minI (l.getD 0 0) (l.take 1)) := Lib.hid (by
    have e := minI_take (b := l.getD 0 0) h0
    rw [e]
    simp [Plain.minI])
  have HM := Lib.hid (minI_mem h0)
  clear hk hx hcells hcel hblt hbd h0
  generalize l.getD 0 0 = q0 at *
  go_enter Try.func78, Try.ntmps78
  go_wp2_with fail
  go_loopw [5, 6] (fun m i wr => ∃ k : Nat, i = .int .i64 (k : Int) ∧ 1 ≤ k ∧ k ≤ l.length ∧ m = .int .i64 (minI q0 (l.take k)) ∧ Below w.heap.size w wr) (fun _ i _ => l.length - (intOf i).toNat)
  case atStart => exact ⟨1, rfl, by omega, by omega, by rw [← E1.out], Below.refl _ _⟩
  case round =>
    obtain ⟨k, rfl, hk1, hk, rfl, hbel⟩ := hrel
    have HBEL := Lib.hid hbel
    have hsz := hbel.size
    by_cases hlt : k < l.length
    · have hlz : (k : Int) < (l.length : Int) := by omega
      have ck : wr.cell? ⟨b, off + k, none⟩ = some (.int .i64 (l.getD k 0)) := (hbel.cell (p := ⟨b, off + k, none⟩) HB.out).trans (HC.out k hlt)
      have hmk := HXL.out _ (HM.out k)
      have hek := HXL.out _ (getD_mem hlt)
      have HG := Lib.hid (HK.out wr _ _ hek hmk hbel)
      have HT := minI_take (b := q0) hlt
      clear hbel
      by_cases hp : popN (l.getD k 0).toNat < popN (minI q0 (l.take k)).toNat
      · rw [if_pos hp] at HT
        have HTT := Lib.hid HT
        have HD := cmpI_lt hp
        generalize cmpI (popN (l.getD k 0).toNat : Int) (popN (minI q0 (l.take k)).toNat : Int) = z at *
        generalize minI q0 (l.take k) = q at *
        generalize hy : l.getD k 0 = y at *
        have hzl : z < 0 := by simpa using HD
        clear HT hp HD
        go_wp2_with fail
        refine HG.out.mono ?_
        rintro e w2 ⟨rfl, hb2⟩
        have ck2 : w2.cell? ⟨b, off + k, none⟩ = some (.int .i64 y) := keepB hb2 ck
        have hs2 := hb2.size
        have HB2 := Lib.hid (HBEL.out.trans (hb2.mono hsz))
        go_wp2_with fail
        go_roundw
        case rel => exact ⟨k + 1, by go_num, by omega, by omega, by rw [HTT.out], HB2.out⟩
        case measure => simp [intOf]; omega
      · rw [if_neg hp] at HT
        have HTT := Lib.hid HT
        have HD := cmpI_ge hp
        generalize cmpI (popN (l.getD k 0).toNat : Int) (popN (minI q0 (l.take k)).toNat : Int) = z at *
        generalize minI q0 (l.take k) = q at *
        generalize hy : l.getD k 0 = y at *
        have hzl : ¬ z < 0 := by simpa using HD
        clear HT hp HD
        go_wp2_with fail
        refine HG.out.mono ?_
        rintro e w2 ⟨rfl, hb2⟩
        have HB2 := Lib.hid (HBEL.out.trans (hb2.mono hsz))
        go_wp2_with fail
        go_roundw
        case rel => exact ⟨k + 1, by go_num, by omega, by omega, by rw [HTT.out], HB2.out⟩
        case measure => simp [intOf]; omega
    · have HE : Hid (minI q0 (l.take k) = minI q0 l) := Lib.hid (by rw [List.take_of_length_le (by omega)])
      clear hbel
      go_wp2
      go_ret
      exact ⟨ret_int HE.out, HBEL.out⟩

set_option maxRecDepth 100000 in
/-- The comparing function of firstLeast, the key being setSize. -/
theorem Clo.least (b : Nat) (x y : Int) (hx : 0 ≤ x ∧ x ≤ 31) (hy : 0 ≤ y ∧ y ≤ 31) (W : World) (hc : W.cell? ⟨b, 0, none⟩ = some (.func (.func 66) #[] #[])) :
    Calls Try.prog 79 #[.int .i64 x, .int .i64 y, .pointer (some ⟨b, 0, none⟩)] W fun e w' => e = .returned (.int .i64 (cmpI (popN x.toNat : Int) (popN y.toNat : Int))) ∧ Below W.heap.size W w' := by
  obtain ⟨x, rfl⟩ := Int.eq_ofNat_of_zero_le hx.1
  obtain ⟨y, rfl⟩ := Int.eq_ofNat_of_zero_le hy.1
  rw [Int.toNat_natCast, Int.toNat_natCast]
  have HX := Lib.hid (SetSize.any x (by omega))
  have HY := Lib.hid (SetSize.any y (by omega))
  have HZ := Lib.hid (Cmp.any (popN x : Int) (popN y : Int))
  generalize cmpI (popN x : Int) (popN y : Int) = z at *
  generalize popN x = px at *
  generalize popN y = py at *
  clear hx hy
  go_enter Try.func79, Try.ntmps79
  go_wp2_with fail
  go_quiet ((first | (exact quiet_eq (HX.out _)) | (exact quiet_eq (HY.out _)) | (exact quiet_eq (HZ.out _))))
  go_wp2
  go_ret
  exact ⟨rfl, below_drewN (Below.refl _ _) _⟩

end Go.Proofs.Ytbgjiblfnljigaa
