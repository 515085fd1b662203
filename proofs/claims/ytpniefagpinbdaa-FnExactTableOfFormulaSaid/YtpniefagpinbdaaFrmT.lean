/-
  Chapter 5: TableOfFormula of the program and of its model.
-/
import Derived.Test.YtpniefagpinbdaaFrmX
import Derived.Test.YtpniefagpinbdaaFrmM
import Derived.Test.YtpniefagpinbdaaResB
namespace Go.Proofs.Ytpniefagpinbdaa
open Go.RowKit Plain Go.Shelf
set_option linter.unusedVariables false

def Plain.vN (f : Frm) (x : Nat) : Nat := if val x f then 1 else 0
theorem vN_bI (f : Frm) (x : Nat) : bI (val x f) = ((vN f x : Nat) : Int) := by unfold vN bI; cases val x f <;> rfl
theorem Value.at (f : Frm) (x : Nat) (hx : x < 32) (w : World) : Calls Try.prog (fnValue f) #[raw f, .int .i64 (x : Int)] w fun e w' => e = .returned (.int .i64 ((vN f x : Nat) : Int)) ∧ Below w.heap.size w w' := by
  rw [← vN_bI]
  exact Value.any x hx f w

set_option maxRecDepth 100000 in
set_option maxHeartbeats 1000000 in
/-- tableFrom at the method 'value' of a formula. -/
theorem Tab.from_val (n : Nat) (hn : n ≤ 5) (f : Frm) (w : World) :
    Calls Try.prog 34 #[.int .i64 n, .func (.method "loop.example/g03403/impl.value") #[.iface (ty f) (raw f)] #[]] w fun e w' => e = .returned (.agg #[.int .i64 n, .int .i64 (tabN (vN f) (2 ^ n) : Int)]) ∧ Below w.heap.size w w' := by
  obtain ⟨hp1, hp2⟩ := two_pow_int n hn
  have hvb : (tabN (vN f) (2 ^ n) : Int) ≤ 4294967295 := tabN_bound (vN f) _ (by have := two_pow_le n hn; omega)
  have HP := Lib.hid (fun W x hx => Value.at f x (pow5 hn hx) W)
  have hm := inv_value f
  have he := ent_value f
  generalize vN f = v at *
  go_enter Try.func34, Try.ntmps34
  go_wp2_with fail
  refine (Tab.count n hn _).mono ?_
  rintro e w1 ⟨rfl, rfl⟩
  go_wp2_with fail
  go_loopw [5, 6, 9] (fun a _ x wr => ∃ y : Nat, x = .int .i64 (y : Int) ∧ a = .int .u64 (tabN v y : Int) ∧ (y : Int) ≤ 2 ^ n ∧ Below w.heap.size w wr ∧ wr.heap[w.heap.size]? = some (.cells #[.int .i64 0, .int .i64 0] 24 (0, 0))) (fun _ _ x _ => 32 - (intOf x).toNat)
  case atStart => exact ⟨0, rfl, rfl, by omega, (Below.refl _ _).alloc (Nat.le_refl _) _, heap_alloc_new w _⟩
  case round =>
    obtain ⟨y, rfl, rfl, hy, hbel, hcell⟩ := hrel
    have HB := Lib.hid hbel
    have HX := Lib.hid hcell
    have hszr : w.heap.size ≤ wr.heap.size := hbel.size
    clear hbel hcell
    by_cases hlt : (y : Int) < 2 ^ n
    · have hvy := tabN_bound v y (by omega)
      have hy2 : y < 2 ^ n := by rw [up2] at hlt; omega
      by_cases hb : v y = 1
      · have HV := Lib.hid (tabN_yes hb)
        have HC := Lib.hid (HP.out wr y hy2)
        have HE := Lib.hid hb
        clear hb hy2
        go_wp2_with fail
        refine HC.out.mono ?_
        rintro e w' ⟨rfl, hb'⟩
        rw [HE.out]
        have HB' := Lib.hid (HB.out.trans (hb'.mono hszr))
        have HX' := Lib.hid (blockOn HX.out hb')
        clear hb'
        go_wp2_with fail
        refine (Tab.withBit _ _ hvy (by omega) _).mono ?_
        rintro e w2 ⟨rfl, rfl⟩
        go_wp2_with fail
        go_roundw
        case rel => exact ⟨y + 1, by go_num, by rw [HV.out], by omega, HB'.out, HX'.out⟩
        case measure => simp [intOf]; omega
      · have HV := Lib.hid (tabN_no hb)
        have HC := Lib.hid (HP.out wr y hy2)
        have hne : (((v y : Nat) : Int) == 1) = false := by rw [beq_eq_false_iff_ne]; omega
        clear hb hy2
        go_wp2_with fail
        refine HC.out.mono ?_
        rintro e w' ⟨rfl, hb'⟩
        have HB' := Lib.hid (HB.out.trans (hb'.mono hszr))
        have HX' := Lib.hid (blockOn HX.out hb')
        clear hb'
        go_wp2_with fail
        go_roundw
        case rel => exact ⟨y + 1, by go_num, by rw [HV.out], by omega, HB'.out, HX'.out⟩
        case measure => simp [intOf]; omega
    · have he : y = 2 ^ n := by rw [up2] at hy hlt; omega
      have HE : Hid (tabN v y = tabN v (2 ^ n)) := Lib.hid (by rw [he])
      have hvy : (tabN v y : Int) ≤ 9223372036854775807 := by rw [HE.out]; omega
      clear he
      obtain ⟨c0, c1, f0, f1⟩ := cells2 HX.out
      have hlt2 : w.heap.size < wr.heap.size := lt_of_block HX.out
      have HVE := HE
      clear HE
      go_wp2_with fail
      refine (Tab.tableX' n _ hvy _).mono ?_
      rintro e w1 ⟨rfl, rfl⟩
      go_wp2
      rw [← HVE.out]
      obtain ⟨k0, k1⟩ := keepT (u := .int .i64 n) (v := .int .i64 (tabN v y : Int)) c0 c1
      have m0 := keepA (o := .cells #[.int .i64 n, .int .i64 (tabN v y : Int)] 24) k0
      have m1 := keepA (o := .cells #[.int .i64 n, .int .i64 (tabN v y : Int)] 24) k1
      exact bodyPost_ret (v := .agg #[.int .i64 n, .int .i64 (tabN v y : Int)]) (by simp [results, Try.results34, go_sem, m0, m1]) rfl ⟨rfl, bA (by simp; omega) (bS (Nat.le_refl _) (bS (Nat.le_refl _) HB.out))⟩



/-- A letter that is no variable of n. -/
def Plain.bigL (n : Nat) (c : UInt8) : Bool := (([97, 98, 99, 100, 101] : List UInt8).drop n).contains c

/-- What TableOfFormula answers. -/
def tofV (s : ByteArray) (n : Int) : Int × Int × Bool := match asF (lst s) with
  | none => (0, 0, false)
  | some f => if 0 ≤ n ∧ n ≤ 5 ∧ (lst s).any (bigL n.toNat) = false then (n, (tabN (vN f) (2 ^ n.toNat) : Int), true) else (0, 0, false)
theorem tofV_none {s : ByteArray} (n : Int) (h : asF (lst s) = none) : tofV s n = (0, 0, false) := by unfold tofV; rw [h]
theorem tofV_out {s : ByteArray} {f : Frm} {n : Int} (h : asF (lst s) = some f) (hn : ¬ (0 ≤ n ∧ n ≤ 5)) : tofV s n = (0, 0, false) := by
  unfold tofV; rw [h]; exact if_neg fun hh => hn ⟨hh.1, hh.2.1⟩
theorem tofV_big {s : ByteArray} {f : Frm} {m : Nat} (h : asF (lst s) = some f) (hb : (lst s).any (bigL m) = true) : tofV s m = (0, 0, false) := by
  unfold tofV; rw [h]; exact if_neg fun hh => by have := hh.2.2; rw [Int.toNat_natCast, hb] at this; cases this
theorem tofV_yes {s : ByteArray} {f : Frm} {m : Nat} (h : asF (lst s) = some f) (hm : m ≤ 5) (hb : (lst s).any (bigL m) = false) : tofV s m = ((m : Int), (tabN (vN f) (2 ^ m) : Int), true) := by
  unfold tofV; rw [h]; exact if_pos ⟨by omega, by omega, hb⟩

theorem Tof.any (s : ByteArray) (h : isF s = true) (m : Nat) (w : World) :
    Calls Try.prog 33 #[.string s, .string ⟨(([97, 98, 99, 100, 101] : List UInt8).drop m).toArray⟩] w fun e w' => e = .returned (.bool ((lst s).any (bigL m))) ∧ Below w.heap.size w w' := by
  have := Any.contains s h (([97, 98, 99, 100, 101] : List UInt8).drop m) (fun c hc => by
    have hc' := List.mem_of_mem_drop hc
    clear hc
    revert c; decide) (by simp) w
  rw [containsAny_any] at this
  exact this

set_option maxRecDepth 100000 in
set_option maxHeartbeats 2000000 in
/-- TableOfFormula of the program. -/
theorem Tof.impl (s : ByteArray) (n : Int) (w : World) :
    Calls Try.prog 14 #[.string s, .int .i64 n] w fun e w' => e = .returned (.tuple #[.agg #[.int .i64 (tofV s n).1, .int .i64 (tofV s n).2.1], .bool (tofV s n).2.2]) ∧ Below w.heap.size w w' := by
  cases h : asF (lst s) with
  | none =>
    have HI := Is.parse_no h
    rw [tofV_none n h]
    clear h
    go_enter Try.func14, Try.ntmps14
    go_wp2_with fail
    refine (HI.out _).mono ?_
    rintro e w1 ⟨rfl, hb⟩
    obtain ⟨hc, hf⟩ := bcell hb
    have hz2 : w.heap.size < w1.heap.size := by have := hb.size; simp at this; omega
    go_wp2
    exact bodyPost_ret (v := .tuple #[.agg #[.int .i64 0, .int .i64 0], .bool false]) (by simp [results, Try.results14, go_sem, hc]) rfl ⟨rfl, bS (by simp) (bS (by simp) (((Below.refl _ _).alloc (Nat.le_refl _) _).trans (hb.mono (by simp))))⟩
  | some f =>
    have HI := Is.parse_yes h
    by_cases hn : 0 ≤ n ∧ n ≤ 5
    · obtain ⟨m, rfl⟩ := Int.eq_ofNat_of_zero_le hn.1
      have hm5 : m ≤ 5 := by omega
      have HC := Tof.any s (isF_some h) m
      have HB : Hid (∀ w, Calls Try.prog 32 #[.int .i64 (m : Int)] w fun e w' => e = .returned (.bool true) ∧ w = w') := Lib.hid fun w => by have := Tab.bits (m : Int) w; rwa [inB_yes hn] at this
      cases hb : (lst s).any (bigL m) with
      | true =>
        rw [tofV_big h hb]
        rw [hb] at HC
        replace HC := Lib.hid HC
        clear h hn hb
        generalize ty f = tf at HI
        generalize raw f = vf at HI
        rcases cases5 m hm5 with rfl | rfl | rfl | rfl | rfl | rfl
        all_goals clear hm5
        · replace HC : Hid (∀ w, Calls Try.prog 33 #[.string s, .string ⟨#[97, 98, 99, 100, 101]⟩] w fun e w' => e = .returned (.bool true) ∧ Below w.heap.size w w') := HC
          go_enter Try.func14, Try.ntmps14
          go_wp2_with fail
          refine (HI.out _).mono ?_
          rintro e w1 ⟨rfl, hb⟩
          obtain ⟨hc, hf⟩ := bcell hb
          go_wp2_with fail
          refine (HB.out _).mono ?_
          rintro e w2 ⟨rfl, rfl⟩
          go_wp2_with fail
          refine (HC.out _).mono ?_
          rintro e w2 ⟨rfl, hb2⟩
          clear hc hf
          replace hb := bstep hb hb2
          obtain ⟨hc, hf⟩ := bcell hb
          have hz2 : w.heap.size < w2.heap.size := by have := hb.size; simp at this; omega
          go_wp2
          exact bodyPost_ret (v := .tuple #[.agg #[.int .i64 0, .int .i64 0], .bool false]) (by simp [results, Try.results14, go_sem, hc]) rfl ⟨rfl, bS (by simp) (bS (by simp) (((Below.refl _ _).alloc (Nat.le_refl _) _).trans (hb.mono (by simp))))⟩
        · replace HC : Hid (∀ w, Calls Try.prog 33 #[.string s, .string ⟨#[98, 99, 100, 101]⟩] w fun e w' => e = .returned (.bool true) ∧ Below w.heap.size w w') := HC
          go_enter Try.func14, Try.ntmps14
          go_wp2_with fail
          refine (HI.out _).mono ?_
          rintro e w1 ⟨rfl, hb⟩
          obtain ⟨hc, hf⟩ := bcell hb
          go_wp2_with fail
          refine (HB.out _).mono ?_
          rintro e w2 ⟨rfl, rfl⟩
          go_wp2_with fail
          refine (HC.out _).mono ?_
          rintro e w2 ⟨rfl, hb2⟩
          clear hc hf
          replace hb := bstep hb hb2
          obtain ⟨hc, hf⟩ := bcell hb
          have hz2 : w.heap.size < w2.heap.size := by have := hb.size; simp at this; omega
          go_wp2
          exact bodyPost_ret (v := .tuple #[.agg #[.int .i64 0, .int .i64 0], .bool false]) (by simp [results, Try.results14, go_sem, hc]) rfl ⟨rfl, bS (by simp) (bS (by simp) (((Below.refl _ _).alloc (Nat.le_refl _) _).trans (hb.mono (by simp))))⟩
        · replace HC : Hid (∀ w, Calls Try.prog 33 #[.string s, .string ⟨#[99, 100, 101]⟩] w fun e w' => e = .returned (.bool true) ∧ Below w.heap.size w w') := HC
          go_enter Try.func14, Try.ntmps14
          go_wp2_with fail
          refine (HI.out _).mono ?_
          rintro e w1 ⟨rfl, hb⟩
          obtain ⟨hc, hf⟩ := bcell hb
          go_wp2_with fail
          refine (HB.out _).mono ?_
          rintro e w2 ⟨rfl, rfl⟩
          go_wp2_with fail
          refine (HC.out _).mono ?_
          rintro e w2 ⟨rfl, hb2⟩
          clear hc hf
          replace hb := bstep hb hb2
          obtain ⟨hc, hf⟩ := bcell hb
          have hz2 : w.heap.size < w2.heap.size := by have := hb.size; simp at this; omega
          go_wp2
          exact bodyPost_ret (v := .tuple #[.agg #[.int .i64 0, .int .i64 0], .bool false]) (by simp [results, Try.results14, go_sem, hc]) rfl ⟨rfl, bS (by simp) (bS (by simp) (((Below.refl _ _).alloc (Nat.le_refl _) _).trans (hb.mono (by simp))))⟩
        · replace HC : Hid (∀ w, Calls Try.prog 33 #[.string s, .string ⟨#[100, 101]⟩] w fun e w' => e = .returned (.bool true) ∧ Below w.heap.size w w') := HC
          go_enter Try.func14, Try.ntmps14
          go_wp2_with fail
          refine (HI.out _).mono ?_
          rintro e w1 ⟨rfl, hb⟩
          obtain ⟨hc, hf⟩ := bcell hb
          go_wp2_with fail
          refine (HB.out _).mono ?_
          rintro e w2 ⟨rfl, rfl⟩
          go_wp2_with fail
          refine (HC.out _).mono ?_
          rintro e w2 ⟨rfl, hb2⟩
          clear hc hf
          replace hb := bstep hb hb2
          obtain ⟨hc, hf⟩ := bcell hb
          have hz2 : w.heap.size < w2.heap.size := by have := hb.size; simp at this; omega
          go_wp2
          exact bodyPost_ret (v := .tuple #[.agg #[.int .i64 0, .int .i64 0], .bool false]) (by simp [results, Try.results14, go_sem, hc]) rfl ⟨rfl, bS (by simp) (bS (by simp) (((Below.refl _ _).alloc (Nat.le_refl _) _).trans (hb.mono (by simp))))⟩
        · replace HC : Hid (∀ w, Calls Try.prog 33 #[.string s, .string ⟨#[101]⟩] w fun e w' => e = .returned (.bool true) ∧ Below w.heap.size w w') := HC
          go_enter Try.func14, Try.ntmps14
          go_wp2_with fail
          refine (HI.out _).mono ?_
          rintro e w1 ⟨rfl, hb⟩
          obtain ⟨hc, hf⟩ := bcell hb
          go_wp2_with fail
          refine (HB.out _).mono ?_
          rintro e w2 ⟨rfl, rfl⟩
          go_wp2_with fail
          refine (HC.out _).mono ?_
          rintro e w2 ⟨rfl, hb2⟩
          clear hc hf
          replace hb := bstep hb hb2
          obtain ⟨hc, hf⟩ := bcell hb
          have hz2 : w.heap.size < w2.heap.size := by have := hb.size; simp at this; omega
          go_wp2
          exact bodyPost_ret (v := .tuple #[.agg #[.int .i64 0, .int .i64 0], .bool false]) (by simp [results, Try.results14, go_sem, hc]) rfl ⟨rfl, bS (by simp) (bS (by simp) (((Below.refl _ _).alloc (Nat.le_refl _) _).trans (hb.mono (by simp))))⟩
        · replace HC : Hid (∀ w, Calls Try.prog 33 #[.string s, .string ⟨#[]⟩] w fun e w' => e = .returned (.bool true) ∧ Below w.heap.size w w') := HC
          go_enter Try.func14, Try.ntmps14
          go_wp2_with fail
          refine (HI.out _).mono ?_
          rintro e w1 ⟨rfl, hb⟩
          obtain ⟨hc, hf⟩ := bcell hb
          go_wp2_with fail
          refine (HB.out _).mono ?_
          rintro e w2 ⟨rfl, rfl⟩
          go_wp2_with fail
          refine (HC.out _).mono ?_
          rintro e w2 ⟨rfl, hb2⟩
          clear hc hf
          replace hb := bstep hb hb2
          obtain ⟨hc, hf⟩ := bcell hb
          have hz2 : w.heap.size < w2.heap.size := by have := hb.size; simp at this; omega
          go_wp2
          exact bodyPost_ret (v := .tuple #[.agg #[.int .i64 0, .int .i64 0], .bool false]) (by simp [results, Try.results14, go_sem, hc]) rfl ⟨rfl, bS (by simp) (bS (by simp) (((Below.refl _ _).alloc (Nat.le_refl _) _).trans (hb.mono (by simp))))⟩
      | false =>
        rw [tofV_yes h hm5 hb]
        rw [hb] at HC
        replace HC := Lib.hid HC
        have HT := Lib.hid (Tab.from_val m hm5 f)
        generalize tabN (vN f) (2 ^ m) = z at *
        clear h hn hb
        generalize ty f = tf at *
        generalize raw f = vf at *
        rcases cases5 m hm5 with rfl | rfl | rfl | rfl | rfl | rfl
        all_goals clear hm5
        · replace HC : Hid (∀ w, Calls Try.prog 33 #[.string s, .string ⟨#[97, 98, 99, 100, 101]⟩] w fun e w' => e = .returned (.bool false) ∧ Below w.heap.size w w') := HC
          go_enter Try.func14, Try.ntmps14
          go_wp2_with fail
          refine (HI.out _).mono ?_
          rintro e w1 ⟨rfl, hb⟩
          obtain ⟨hc, hf⟩ := bcell hb
          go_wp2_with fail
          refine (HB.out _).mono ?_
          rintro e w2 ⟨rfl, rfl⟩
          go_wp2_with fail
          refine (HC.out _).mono ?_
          rintro e w2 ⟨rfl, hb2⟩
          clear hc hf
          replace hb := bstep hb hb2
          obtain ⟨hc, hf⟩ := bcell hb
          go_wp2_with fail
          refine (HT.out _).mono ?_
          rintro e w3 ⟨rfl, hb3⟩
          clear hc hf
          replace hb := bstep hb hb3
          obtain ⟨hc, hf⟩ := bcell hb
          have hz2 : w.heap.size < w3.heap.size := by have := hb.size; simp at this; omega
          go_wp2
          exact bodyPost_ret (v := .tuple #[.agg #[.int .i64 0, .int .i64 (z : Int)], .bool true]) (by simp [results, Try.results14, go_sem, hc]) rfl ⟨rfl, bS (by simp) (bS (by simp) (((Below.refl _ _).alloc (Nat.le_refl _) _).trans (hb.mono (by simp))))⟩
        · replace HC : Hid (∀ w, Calls Try.prog 33 #[.string s, .string ⟨#[98, 99, 100, 101]⟩] w fun e w' => e = .returned (.bool false) ∧ Below w.heap.size w w') := HC
          go_enter Try.func14, Try.ntmps14
          go_wp2_with fail
          refine (HI.out _).mono ?_
          rintro e w1 ⟨rfl, hb⟩
          obtain ⟨hc, hf⟩ := bcell hb
          go_wp2_with fail
          refine (HB.out _).mono ?_
          rintro e w2 ⟨rfl, rfl⟩
          go_wp2_with fail
          refine (HC.out _).mono ?_
          rintro e w2 ⟨rfl, hb2⟩
          clear hc hf
          replace hb := bstep hb hb2
          obtain ⟨hc, hf⟩ := bcell hb
          go_wp2_with fail
          refine (HT.out _).mono ?_
          rintro e w3 ⟨rfl, hb3⟩
          clear hc hf
          replace hb := bstep hb hb3
          obtain ⟨hc, hf⟩ := bcell hb
          have hz2 : w.heap.size < w3.heap.size := by have := hb.size; simp at this; omega
          go_wp2
          exact bodyPost_ret (v := .tuple #[.agg #[.int .i64 1, .int .i64 (z : Int)], .bool true]) (by simp [results, Try.results14, go_sem, hc]) rfl ⟨rfl, bS (by simp) (bS (by simp) (((Below.refl _ _).alloc (Nat.le_refl _) _).trans (hb.mono (by simp))))⟩
        · replace HC : Hid (∀ w, Calls Try.prog 33 #[.string s, .string ⟨#[99, 100, 101]⟩] w fun e w' => e = .returned (.bool false) ∧ Below w.heap.size w w') := HC
          go_enter Try.func14, Try.ntmps14
          go_wp2_with fail
          refine (HI.out _).mono ?_
          rintro e w1 ⟨rfl, hb⟩
          obtain ⟨hc, hf⟩ := bcell hb
          go_wp2_with fail
          refine (HB.out _).mono ?_
          rintro e w2 ⟨rfl, rfl⟩
          go_wp2_with fail
          refine (HC.out _).mono ?_
          rintro e w2 ⟨rfl, hb2⟩
          clear hc hf
          replace hb := bstep hb hb2
          obtain ⟨hc, hf⟩ := bcell hb
          go_wp2_with fail
          refine (HT.out _).mono ?_
          rintro e w3 ⟨rfl, hb3⟩
          clear hc hf
          replace hb := bstep hb hb3
          obtain ⟨hc, hf⟩ := bcell hb
          have hz2 : w.heap.size < w3.heap.size := by have := hb.size; simp at this; omega
          go_wp2
          exact bodyPost_ret (v := .tuple #[.agg #[.int .i64 2, .int .i64 (z : Int)], .bool true]) (by simp [results, Try.results14, go_sem, hc]) rfl ⟨rfl, bS (by simp) (bS (by simp) (((Below.refl _ _).alloc (Nat.le_refl _) _).trans (hb.mono (by simp))))⟩
        · replace HC : Hid (∀ w, Calls Try.prog 33 #[.string s, .string ⟨#[100, 101]⟩] w fun e w' => e = .returned (.bool false) ∧ Below w.heap.size w w') := HC
          go_enter Try.func14, Try.ntmps14
          go_wp2_with fail
          refine (HI.out _).mono ?_
          rintro e w1 ⟨rfl, hb⟩
          obtain ⟨hc, hf⟩ := bcell hb
          go_wp2_with fail
          refine (HB.out _).mono ?_
          rintro e w2 ⟨rfl, rfl⟩
          go_wp2_with fail
          refine (HC.out _).mono ?_
          rintro e w2 ⟨rfl, hb2⟩
          clear hc hf
          replace hb := bstep hb hb2
          obtain ⟨hc, hf⟩ := bcell hb
          go_wp2_with fail
          refine (HT.out _).mono ?_
          rintro e w3 ⟨rfl, hb3⟩
          clear hc hf
          replace hb := bstep hb hb3
          obtain ⟨hc, hf⟩ := bcell hb
          have hz2 : w.heap.size < w3.heap.size := by have := hb.size; simp at this; omega
          go_wp2
          exact bodyPost_ret (v := .tuple #[.agg #[.int .i64 3, .int .i64 (z : Int)], .bool true]) (by simp [results, Try.results14, go_sem, hc]) rfl ⟨rfl, bS (by simp) (bS (by simp) (((Below.refl _ _).alloc (Nat.le_refl _) _).trans (hb.mono (by simp))))⟩
        · replace HC : Hid (∀ w, Calls Try.prog 33 #[.string s, .string ⟨#[101]⟩] w fun e w' => e = .returned (.bool false) ∧ Below w.heap.size w w') := HC
          go_enter Try.func14, Try.ntmps14
          go_wp2_with fail
          refine (HI.out _).mono ?_
          rintro e w1 ⟨rfl, hb⟩
          obtain ⟨hc, hf⟩ := bcell hb
          go_wp2_with fail
          refine (HB.out _).mono ?_
          rintro e w2 ⟨rfl, rfl⟩
          go_wp2_with fail
          refine (HC.out _).mono ?_
          rintro e w2 ⟨rfl, hb2⟩
          clear hc hf
          replace hb := bstep hb hb2
          obtain ⟨hc, hf⟩ := bcell hb
          go_wp2_with fail
          refine (HT.out _).mono ?_
          rintro e w3 ⟨rfl, hb3⟩
          clear hc hf
          replace hb := bstep hb hb3
          obtain ⟨hc, hf⟩ := bcell hb
          have hz2 : w.heap.size < w3.heap.size := by have := hb.size; simp at this; omega
          go_wp2
          exact bodyPost_ret (v := .tuple #[.agg #[.int .i64 4, .int .i64 (z : Int)], .bool true]) (by simp [results, Try.results14, go_sem, hc]) rfl ⟨rfl, bS (by simp) (bS (by simp) (((Below.refl _ _).alloc (Nat.le_refl _) _).trans (hb.mono (by simp))))⟩
        · replace HC : Hid (∀ w, Calls Try.prog 33 #[.string s, .string ⟨#[]⟩] w fun e w' => e = .returned (.bool false) ∧ Below w.heap.size w w') := HC
          go_enter Try.func14, Try.ntmps14
          go_wp2_with fail
          refine (HI.out _).mono ?_
          rintro e w1 ⟨rfl, hb⟩
          obtain ⟨hc, hf⟩ := bcell hb
          go_wp2_with fail
          refine (HB.out _).mono ?_
          rintro e w2 ⟨rfl, rfl⟩
          go_wp2_with fail
          refine (HC.out _).mono ?_
          rintro e w2 ⟨rfl, hb2⟩
          clear hc hf
          replace hb := bstep hb hb2
          obtain ⟨hc, hf⟩ := bcell hb
          go_wp2_with fail
          refine (HT.out _).mono ?_
          rintro e w3 ⟨rfl, hb3⟩
          clear hc hf
          replace hb := bstep hb hb3
          obtain ⟨hc, hf⟩ := bcell hb
          have hz2 : w.heap.size < w3.heap.size := by have := hb.size; simp at this; omega
          go_wp2
          exact bodyPost_ret (v := .tuple #[.agg #[.int .i64 5, .int .i64 (z : Int)], .bool true]) (by simp [results, Try.results14, go_sem, hc]) rfl ⟨rfl, bS (by simp) (bS (by simp) (((Below.refl _ _).alloc (Nat.le_refl _) _).trans (hb.mono (by simp))))⟩
    · have HB : Hid (∀ w, Calls Try.prog 32 #[.int .i64 n] w fun e w' => e = .returned (.bool false) ∧ w = w') := Lib.hid fun w => by have := Tab.bits n w; rwa [inB_no hn] at this
      rw [tofV_out h hn]
      clear h hn
      generalize ty f = tf at *
      generalize raw f = vf at *
      go_enter Try.func14, Try.ntmps14
      go_wp2_with fail
      refine (HI.out _).mono ?_
      rintro e w1 ⟨rfl, hb⟩
      obtain ⟨hc, hf⟩ := bcell hb
      have hz2 : w.heap.size < w1.heap.size := by have := hb.size; simp at this; omega
      go_wp2_with fail
      refine (HB.out _).mono ?_
      rintro e w2 ⟨rfl, rfl⟩
      go_wp2
      exact bodyPost_ret (v := .tuple #[.agg #[.int .i64 0, .int .i64 0], .bool false]) (by simp [results, Try.results14, go_sem, hc]) rfl ⟨rfl, bS (by simp) (bS (by simp) (((Below.refl _ _).alloc (Nat.le_refl _) _).trans (hb.mono (by simp))))⟩


end Go.Proofs.Ytpniefagpinbdaa
