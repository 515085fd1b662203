/-
  Chapter 7: tableFrom at a tree, TableOfTree and AverageOf of the program.
-/
import Derived.Test.YthdcjldmafhcjaaTreL
import Derived.Test.YthdcjldmafhcjaaTabK
namespace Go.Proofs.Ythdcjldmafhcjaa
open Go.RowKit Plain Go.Shelf
set_option linter.unusedVariables false

set_option maxRecDepth 100000 in
set_option maxHeartbeats 1000000 in
/-- tableFrom, at a tree's method 'value'. -/
theorem Tab.from_tree (n : Nat) (hn : n ≤ 5) (T : DT) (hok : okD 0 T = true) (base b : Nat) (w : World) (hti : TrIn base w T b) :
    Calls Try.prog 78 #[.int .i64 n, .func (.func 79) #[.pointer (some ⟨b, 0, none⟩)] #[]] w fun e w' => e = .returned (.agg #[.int .i64 n, .int .i64 (tabN (valD T) (2 ^ n) : Int)]) ∧ Below w.heap.size w w' := by
  have hp : ∀ (W : World) (x : Nat), x < 2 ^ n → Below w.heap.size w W → Calls Try.prog 79 #[.pointer (some ⟨b, 0, none⟩), .int .i64 x] W fun e w' => e = .returned (.int .i64 (valD T x : Int)) ∧ Below W.heap.size W w' :=
    fun W x hx hb => TrVal.any T x (by have := pow5 hn hx; omega) (num_5 hok x) base b W (hti.below hb)
  have eg : ∀ args w, (callFunc 79 args).run Try.prog w = .ok (.enter 79 args) w := enters_of Try.func79 (by kernel_rfl) rfl
  have HVB := Lib.hid (fun y hy => tabN_bound (valD T) y hy)
  generalize valD T = v at *
  clear hti hok
  obtain ⟨hp1, hp2⟩ := two_pow_int n hn
  have hvb : (tabN v (2 ^ n) : Int) ≤ 4294967295 := HVB.out _ (by have := two_pow_le n hn; omega)
  have HP := Lib.hid hp
  clear hp
  go_enter Try.func78, Try.ntmps78
  go_wp2_with fail
  refine (Tab.count n hn _).mono ?_
  rintro e w1 ⟨rfl, rfl⟩
  go_wp2_with fail
  go_loopw [5, 6, 9] (fun a _ x wr => ∃ y : Nat, x = .int .i64 (y : Int) ∧ a = .int .u64 (tabN v y : Int) ∧ (y : Int) ≤ 2 ^ n ∧ Below w.heap.size w wr ∧ wr.heap[w.heap.size]? = some (.cells #[.int .i64 0, .int .i64 0] 25 (0, 0))) (fun _ _ x _ => 32 - (intOf x).toNat)
  case atStart => exact ⟨0, rfl, rfl, by omega, (Below.refl _ _).alloc (Nat.le_refl _) _, heap_alloc_new w _⟩
  case round =>
    obtain ⟨y, rfl, rfl, hy, hbel, hcell⟩ := hrel
    have HB := Lib.hid hbel
    have HX := Lib.hid hcell
    have hszr : w.heap.size ≤ wr.heap.size := hbel.size
    clear hbel hcell
    by_cases hlt : (y : Int) < 2 ^ n
    · have hvy := tabN_bound v y (by omega)
      have hy2 : y < 2 ^ n := by rw [up2] at hlt; omega
      by_cases hb : v y = 1
      · have HV := Lib.hid (tabN_yes hb)
        have HC := Lib.hid (HP.out wr y hy2 HB.out)
        have HE := Lib.hid hb
        clear hb hy2
        go_wp2_with fail
        refine HC.out.mono ?_
        rintro e w' ⟨rfl, hb'⟩
        rw [HE.out]
        have HB' := Lib.hid (HB.out.trans (hb'.mono hszr))
        have HX' := Lib.hid (blockOn HX.out hb')
        clear hb'
        go_wp2_with fail
        refine (Tab.withBit _ _ hvy (by omega) _).mono ?_
        rintro e w2 ⟨rfl, rfl⟩
        go_wp2_with fail
        go_roundw
        case rel => exact ⟨y + 1, by go_num, by rw [HV.out], by omega, HB'.out, HX'.out⟩
        case measure => simp [intOf]; omega
      · have HV := Lib.hid (tabN_no hb)
        have HC := Lib.hid (HP.out wr y hy2 HB.out)
        have hne : (((v y : Nat) : Int) == 1) = false := by rw [beq_eq_false_iff_ne]; omega
        clear hb hy2
        go_wp2_with fail
        refine HC.out.mono ?_
        rintro e w' ⟨rfl, hb'⟩
        have HB' := Lib.hid (HB.out.trans (hb'.mono hszr))
        have HX' := Lib.hid (blockOn HX.out hb')
        clear hb'
        go_wp2_with fail
        go_roundw
        case rel => exact ⟨y + 1, by go_num, by rw [HV.out], by omega, HB'.out, HX'.out⟩
        case measure => simp [intOf]; omega
    · have he : y = 2 ^ n := by rw [up2] at hy hlt; omega
      have HE : Hid (tabN v y = tabN v (2 ^ n)) := Lib.hid (by rw [he])
      have hvy : (tabN v y : Int) ≤ 9223372036854775807 := by rw [HE.out]; omega
      clear he
      obtain ⟨c0, c1, f0, f1⟩ := cells2 HX.out
      have hlt2 : w.heap.size < wr.heap.size := lt_of_block HX.out
      have HVE := HE
      clear HE
      go_wp2_with fail
      refine (Tab.tableX' n _ hvy _).mono ?_
      rintro e w1 ⟨rfl, rfl⟩
      go_wp2
      rw [← HVE.out]
      obtain ⟨k0, k1⟩ := keepT (u := .int .i64 n) (v := .int .i64 (tabN v y : Int)) c0 c1
      have m0 := keepA (o := .cells #[.int .i64 n, .int .i64 (tabN v y : Int)] 25) k0
      have m1 := keepA (o := .cells #[.int .i64 n, .int .i64 (tabN v y : Int)] 25) k1
      exact bodyPost_ret (v := .agg #[.int .i64 n, .int .i64 (tabN v y : Int)]) (by simp [results, Try.results78, go_sem, m0, m1]) rfl ⟨rfl, bA (by simp; omega) (bS (Nat.le_refl _) (bS (Nat.le_refl _) HB.out))⟩


theorem Tot.any (s : ByteArray) (T : DT) (h : asD (lst s) = some T) (m : Nat) (w : World) :
    Calls Try.prog 77 #[.string s, .string ⟨(([97, 98, 99, 100, 101] : List UInt8).drop m).toArray⟩] w fun e w' => e = .returned (.bool ((lst s).any (bigL m))) ∧ Below w.heap.size w w' := by
  have hz := (asD_some h).2.2
  rw [lst_len] at hz
  have e : (⟨(([97, 98, 99, 100, 101] : List UInt8).drop m).toArray⟩ : ByteArray).data.toList = ([97, 98, 99, 100, 101] : List UInt8).drop m := lst_ba _
  have := Any.strings_ContainsAny_laid Try.lays150 (by kernel_rfl) s ⟨(([97, 98, 99, 100, 101] : List UInt8).drop m).toArray⟩ w (by omega) (by rw [ba_size]; simp; omega) (fun j b hb => by
      obtain ⟨hj, hjb⟩ := List.getElem?_eq_some_iff.1 hb
      rw [← hjb]
      exact (byte_tree h j (by rw [← lst_len]; exact hj)).2) (by
    rw [e]
    intro j b hb
    have hc' := List.mem_of_mem_drop (List.mem_of_getElem? hb)
    clear hb
    revert b; decide)
  rw [e, containsAny_any] at this
  exact this

set_option maxRecDepth 100000 in
set_option maxHeartbeats 2000000 in
/-- TableOfTree of the program. -/
theorem Tot.impl (s : ByteArray) (n : Int) (w : World) :
    Calls Try.prog 37 #[.string s, .int .i64 n] w fun e w' => e = .returned (.tuple #[.agg #[.int .i64 (totD s n).1, .int .i64 (totD s n).2.1], .bool (totD s n).2.2]) ∧ Below w.heap.size w w' := by
  cases h : asD (lst s) with
  | none =>
    have HI := Lib.hid (Ps.bad s h)
    rw [totD_none n h]
    clear h
    go_enter Try.func37, Try.ntmps37
    go_wp2_with fail
    refine (HI.out _).mono ?_
    rintro e w1 ⟨rfl, hb⟩
    obtain ⟨hc, hf⟩ := bcell hb
    have hz2 : w.heap.size < w1.heap.size := by have := hb.size; simp at this; omega
    go_wp2
    exact bodyPost_ret (v := .tuple #[.agg #[.int .i64 0, .int .i64 0], .bool false]) (by simp [results, Try.results37, go_sem, hc]) rfl ⟨rfl, bS (by simp) (bS (by simp) (((Below.refl _ _).alloc (Nat.le_refl _) _).trans (hb.mono (by simp))))⟩
  | some T =>
    have HI := Lib.hid (Ps.good s T h)
    have hok := (asD_some h).2.1
    by_cases hn : 0 ≤ n ∧ n ≤ 5
    · obtain ⟨m, rfl⟩ := Int.eq_ofNat_of_zero_le hn.1
      have hm5 : m ≤ 5 := by omega
      have HC := Tot.any s T h m
      have HB : Hid (∀ w, Calls Try.prog 76 #[.int .i64 (m : Int)] w fun e w' => e = .returned (.bool true) ∧ w = w') := Lib.hid fun w => by have := Tab.bits (m : Int) w; rwa [inB_yes hn] at this
      cases hb : (lst s).any (bigL m) with
      | true =>
        rw [totD_big h hb]
        rw [hb] at HC
        replace HC := Lib.hid HC
        clear h hn hb
        rcases cases5 m hm5 with rfl | rfl | rfl | rfl | rfl | rfl
        all_goals clear hm5
        · replace HC : Hid (∀ w, Calls Try.prog 77 #[.string s, .string ⟨#[97, 98, 99, 100, 101]⟩] w fun e w' => e = .returned (.bool true) ∧ Below w.heap.size w w') := HC
          go_enter Try.func37, Try.ntmps37
          go_wp2_with fail
          refine (HI.out _).mono ?_
          rintro e w1 ⟨pb, rfl, hti, hb⟩
          have HTI := Lib.hid hti
          clear hti
          obtain ⟨hc, hf⟩ := bcell hb
          go_wp2_with fail
          refine (HB.out _).mono ?_
          rintro e w2 ⟨rfl, rfl⟩
          go_wp2_with fail
          refine (HC.out _).mono ?_
          rintro e w2 ⟨rfl, hb2⟩
          have HTI2 := Lib.hid (HTI.out.below hb2)
          clear hc hf HTI
          replace hb := bstep hb hb2
          obtain ⟨hc, hf⟩ := bcell hb
          have hz2 : w.heap.size < w2.heap.size := by have := hb.size; simp at this; omega
          go_wp2
          exact bodyPost_ret (v := .tuple #[.agg #[.int .i64 0, .int .i64 0], .bool false]) (by simp [results, Try.results37, go_sem, hc]) rfl ⟨rfl, bS (by simp) (bS (by simp) (((Below.refl _ _).alloc (Nat.le_refl _) _).trans (hb.mono (by simp))))⟩
        · replace HC : Hid (∀ w, Calls Try.prog 77 #[.string s, .string ⟨#[98, 99, 100, 101]⟩] w fun e w' => e = .returned (.bool true) ∧ Below w.heap.size w w') := HC
          go_enter Try.func37, Try.ntmps37
          go_wp2_with fail
          refine (HI.out _).mono ?_
          rintro e w1 ⟨pb, rfl, hti, hb⟩
          have HTI := Lib.hid hti
          clear hti
          obtain ⟨hc, hf⟩ := bcell hb
          go_wp2_with fail
          refine (HB.out _).mono ?_
          rintro e w2 ⟨rfl, rfl⟩
          go_wp2_with fail
          refine (HC.out _).mono ?_
          rintro e w2 ⟨rfl, hb2⟩
          have HTI2 := Lib.hid (HTI.out.below hb2)
          clear hc hf HTI
          replace hb := bstep hb hb2
          obtain ⟨hc, hf⟩ := bcell hb
          have hz2 : w.heap.size < w2.heap.size := by have := hb.size; simp at this; omega
          go_wp2
          exact bodyPost_ret (v := .tuple #[.agg #[.int .i64 0, .int .i64 0], .bool false]) (by simp [results, Try.results37, go_sem, hc]) rfl ⟨rfl, bS (by simp) (bS (by simp) (((Below.refl _ _).alloc (Nat.le_refl _) _).trans (hb.mono (by simp))))⟩
        · replace HC : Hid (∀ w, Calls Try.prog 77 #[.string s, .string ⟨#[99, 100, 101]⟩] w fun e w' => e = .returned (.bool true) ∧ Below w.heap.size w w') := HC
          go_enter Try.func37, Try.ntmps37
          go_wp2_with fail
          refine (HI.out _).mono ?_
          rintro e w1 ⟨pb, rfl, hti, hb⟩
          have HTI := Lib.hid hti
          clear hti
          obtain ⟨hc, hf⟩ := bcell hb
          go_wp2_with fail
          refine (HB.out _).mono ?_
          rintro e w2 ⟨rfl, rfl⟩
          go_wp2_with fail
          refine (HC.out _).mono ?_
          rintro e w2 ⟨rfl, hb2⟩
          have HTI2 := Lib.hid (HTI.out.below hb2)
          clear hc hf HTI
          replace hb := bstep hb hb2
          obtain ⟨hc, hf⟩ := bcell hb
          have hz2 : w.heap.size < w2.heap.size := by have := hb.size; simp at this; omega
          go_wp2
          exact bodyPost_ret (v := .tuple #[.agg #[.int .i64 0, .int .i64 0], .bool false]) (by simp [results, Try.results37, go_sem, hc]) rfl ⟨rfl, bS (by simp) (bS (by simp) (((Below.refl _ _).alloc (Nat.le_refl _) _).trans (hb.mono (by simp))))⟩
        · replace HC : Hid (∀ w, Calls Try.prog 77 #[.string s, .string ⟨#[100, 101]⟩] w fun e w' => e = .returned (.bool true) ∧ Below w.heap.size w w') := HC
          go_enter Try.func37, Try.ntmps37
          go_wp2_with fail
          refine (HI.out _).mono ?_
          rintro e w1 ⟨pb, rfl, hti, hb⟩
          have HTI := Lib.hid hti
          clear hti
          obtain ⟨hc, hf⟩ := bcell hb
          go_wp2_with fail
          refine (HB.out _).mono ?_
          rintro e w2 ⟨rfl, rfl⟩
          go_wp2_with fail
          refine (HC.out _).mono ?_
          rintro e w2 ⟨rfl, hb2⟩
          have HTI2 := Lib.hid (HTI.out.below hb2)
          clear hc hf HTI
          replace hb := bstep hb hb2
          obtain ⟨hc, hf⟩ := bcell hb
          have hz2 : w.heap.size < w2.heap.size := by have := hb.size; simp at this; omega
          go_wp2
          exact bodyPost_ret (v := .tuple #[.agg #[.int .i64 0, .int .i64 0], .bool false]) (by simp [results, Try.results37, go_sem, hc]) rfl ⟨rfl, bS (by simp) (bS (by simp) (((Below.refl _ _).alloc (Nat.le_refl _) _).trans (hb.mono (by simp))))⟩
        · replace HC : Hid (∀ w, Calls Try.prog 77 #[.string s, .string ⟨#[101]⟩] w fun e w' => e = .returned (.bool true) ∧ Below w.heap.size w w') := HC
          go_enter Try.func37, Try.ntmps37
          go_wp2_with fail
          refine (HI.out _).mono ?_
          rintro e w1 ⟨pb, rfl, hti, hb⟩
          have HTI := Lib.hid hti
          clear hti
          obtain ⟨hc, hf⟩ := bcell hb
          go_wp2_with fail
          refine (HB.out _).mono ?_
          rintro e w2 ⟨rfl, rfl⟩
          go_wp2_with fail
          refine (HC.out _).mono ?_
          rintro e w2 ⟨rfl, hb2⟩
          have HTI2 := Lib.hid (HTI.out.below hb2)
          clear hc hf HTI
          replace hb := bstep hb hb2
          obtain ⟨hc, hf⟩ := bcell hb
          have hz2 : w.heap.size < w2.heap.size := by have := hb.size; simp at this; omega
          go_wp2
          exact bodyPost_ret (v := .tuple #[.agg #[.int .i64 0, .int .i64 0], .bool false]) (by simp [results, Try.results37, go_sem, hc]) rfl ⟨rfl, bS (by simp) (bS (by simp) (((Below.refl _ _).alloc (Nat.le_refl _) _).trans (hb.mono (by simp))))⟩
        · replace HC : Hid (∀ w, Calls Try.prog 77 #[.string s, .string ⟨#[]⟩] w fun e w' => e = .returned (.bool true) ∧ Below w.heap.size w w') := HC
          go_enter Try.func37, Try.ntmps37
          go_wp2_with fail
          refine (HI.out _).mono ?_
          rintro e w1 ⟨pb, rfl, hti, hb⟩
          have HTI := Lib.hid hti
          clear hti
          obtain ⟨hc, hf⟩ := bcell hb
          go_wp2_with fail
          refine (HB.out _).mono ?_
          rintro e w2 ⟨rfl, rfl⟩
          go_wp2_with fail
          refine (HC.out _).mono ?_
          rintro e w2 ⟨rfl, hb2⟩
          have HTI2 := Lib.hid (HTI.out.below hb2)
          clear hc hf HTI
          replace hb := bstep hb hb2
          obtain ⟨hc, hf⟩ := bcell hb
          have hz2 : w.heap.size < w2.heap.size := by have := hb.size; simp at this; omega
          go_wp2
          exact bodyPost_ret (v := .tuple #[.agg #[.int .i64 0, .int .i64 0], .bool false]) (by simp [results, Try.results37, go_sem, hc]) rfl ⟨rfl, bS (by simp) (bS (by simp) (((Below.refl _ _).alloc (Nat.le_refl _) _).trans (hb.mono (by simp))))⟩
      | false =>
        rw [totD_yes h hm5 hb]
        rw [hb] at HC
        replace HC := Lib.hid HC
        have HT := Lib.hid (fun base b w => Tab.from_tree m hm5 T hok base b w)
        generalize tabN (valD T) (2 ^ m) = z at *
        clear h hn hb
        rcases cases5 m hm5 with rfl | rfl | rfl | rfl | rfl | rfl
        all_goals clear hm5
        · replace HC : Hid (∀ w, Calls Try.prog 77 #[.string s, .string ⟨#[97, 98, 99, 100, 101]⟩] w fun e w' => e = .returned (.bool false) ∧ Below w.heap.size w w') := HC
          go_enter Try.func37, Try.ntmps37
          go_wp2_with fail
          refine (HI.out _).mono ?_
          rintro e w1 ⟨pb, rfl, hti, hb⟩
          have HTI := Lib.hid hti
          clear hti
          obtain ⟨hc, hf⟩ := bcell hb
          go_wp2_with fail
          refine (HB.out _).mono ?_
          rintro e w2 ⟨rfl, rfl⟩
          go_wp2_with fail
          refine (HC.out _).mono ?_
          rintro e w2 ⟨rfl, hb2⟩
          have HTI2 := Lib.hid (HTI.out.below hb2)
          clear hc hf HTI
          replace hb := bstep hb hb2
          obtain ⟨hc, hf⟩ := bcell hb
          go_wp2_with fail
          refine (HT.out _ _ _ HTI2.out).mono ?_
          rintro e w3 ⟨rfl, hb3⟩
          clear hc hf
          replace hb := bstep hb hb3
          obtain ⟨hc, hf⟩ := bcell hb
          have hz2 : w.heap.size < w3.heap.size := by have := hb.size; simp at this; omega
          go_wp2
          exact bodyPost_ret (v := .tuple #[.agg #[.int .i64 0, .int .i64 (z : Int)], .bool true]) (by simp [results, Try.results37, go_sem, hc]) rfl ⟨rfl, bS (by simp) (bS (by simp) (((Below.refl _ _).alloc (Nat.le_refl _) _).trans (hb.mono (by simp))))⟩
        · replace HC : Hid (∀ w, Calls Try.prog 77 #[.string s, .string ⟨#[98, 99, 100, 101]⟩] w fun e w' => e = .returned (.bool false) ∧ Below w.heap.size w w') := HC
          go_enter Try.func37, Try.ntmps37
          go_wp2_with fail
          refine (HI.out _).mono ?_
          rintro e w1 ⟨pb, rfl, hti, hb⟩
          have HTI := Lib.hid hti
          clear hti
          obtain ⟨hc, hf⟩ := bcell hb
          go_wp2_with fail
          refine (HB.out _).mono ?_
          rintro e w2 ⟨rfl, rfl⟩
          go_wp2_with fail
          refine (HC.out _).mono ?_
          rintro e w2 ⟨rfl, hb2⟩
          have HTI2 := Lib.hid (HTI.out.below hb2)
          clear hc hf HTI
          replace hb := bstep hb hb2
          obtain ⟨hc, hf⟩ := bcell hb
          go_wp2_with fail
          refine (HT.out _ _ _ HTI2.out).mono ?_
          rintro e w3 ⟨rfl, hb3⟩
          clear hc hf
          replace hb := bstep hb hb3
          obtain ⟨hc, hf⟩ := bcell hb
          have hz2 : w.heap.size < w3.heap.size := by have := hb.size; simp at this; omega
          go_wp2
          exact bodyPost_ret (v := .tuple #[.agg #[.int .i64 1, .int .i64 (z : Int)], .bool true]) (by simp [results, Try.results37, go_sem, hc]) rfl ⟨rfl, bS (by simp) (bS (by simp) (((Below.refl _ _).alloc (Nat.le_refl _) _).trans (hb.mono (by simp))))⟩
        · replace HC : Hid (∀ w, Calls Try.prog 77 #[.string s, .string ⟨#[99, 100, 101]⟩] w fun e w' => e = .returned (.bool false) ∧ Below w.heap.size w w') := HC
          go_enter Try.func37, Try.ntmps37
          go_wp2_with fail
          refine (HI.out _).mono ?_
          rintro e w1 ⟨pb, rfl, hti, hb⟩
          have HTI := Lib.hid hti
          clear hti
          obtain ⟨hc, hf⟩ := bcell hb
          go_wp2_with fail
          refine (HB.out _).mono ?_
          rintro e w2 ⟨rfl, rfl⟩
          go_wp2_with fail
          refine (HC.out _).mono ?_
          rintro e w2 ⟨rfl, hb2⟩
          have HTI2 := Lib.hid (HTI.out.below hb2)
          clear hc hf HTI
          replace hb := bstep hb hb2
          obtain ⟨hc, hf⟩ := bcell hb
          go_wp2_with fail
          refine (HT.out _ _ _ HTI2.out).mono ?_
          rintro e w3 ⟨rfl, hb3⟩
          clear hc hf
          replace hb := bstep hb hb3
          obtain ⟨hc, hf⟩ := bcell hb
          have hz2 : w.heap.size < w3.heap.size := by have := hb.size; simp at this; omega
          go_wp2
          exact bodyPost_ret (v := .tuple #[.agg #[.int .i64 2, .int .i64 (z : Int)], .bool true]) (by simp [results, Try.results37, go_sem, hc]) rfl ⟨rfl, bS (by simp) (bS (by simp) (((Below.refl _ _).alloc (Nat.le_refl _) _).trans (hb.mono (by simp))))⟩
        · replace HC : Hid (∀ w, Calls Try.prog 77 #[.string s, .string ⟨#[100, 101]⟩] w fun e w' => e = .returned (.bool false) ∧ Below w.heap.size w w') := HC
          go_enter Try.func37, Try.ntmps37
          go_wp2_with fail
          refine (HI.out _).mono ?_
          rintro e w1 ⟨pb, rfl, hti, hb⟩
          have HTI := Lib.hid hti
          clear hti
          obtain ⟨hc, hf⟩ := bcell hb
          go_wp2_with fail
          refine (HB.out _).mono ?_
          rintro e w2 ⟨rfl, rfl⟩
          go_wp2_with fail
          refine (HC.out _).mono ?_
          rintro e w2 ⟨rfl, hb2⟩
          have HTI2 := Lib.hid (HTI.out.below hb2)
          clear hc hf HTI
          replace hb := bstep hb hb2
          obtain ⟨hc, hf⟩ := bcell hb
          go_wp2_with fail
          refine (HT.out _ _ _ HTI2.out).mono ?_
          rintro e w3 ⟨rfl, hb3⟩
          clear hc hf
          replace hb := bstep hb hb3
          obtain ⟨hc, hf⟩ := bcell hb
          have hz2 : w.heap.size < w3.heap.size := by have := hb.size; simp at this; omega
          go_wp2
          exact bodyPost_ret (v := .tuple #[.agg #[.int .i64 3, .int .i64 (z : Int)], .bool true]) (by simp [results, Try.results37, go_sem, hc]) rfl ⟨rfl, bS (by simp) (bS (by simp) (((Below.refl _ _).alloc (Nat.le_refl _) _).trans (hb.mono (by simp))))⟩
        · replace HC : Hid (∀ w, Calls Try.prog 77 #[.string s, .string ⟨#[101]⟩] w fun e w' => e = .returned (.bool false) ∧ Below w.heap.size w w') := HC
          go_enter Try.func37, Try.ntmps37
          go_wp2_with fail
          refine (HI.out _).mono ?_
          rintro e w1 ⟨pb, rfl, hti, hb⟩
          have HTI := Lib.hid hti
          clear hti
          obtain ⟨hc, hf⟩ := bcell hb
          go_wp2_with fail
          refine (HB.out _).mono ?_
          rintro e w2 ⟨rfl, rfl⟩
          go_wp2_with fail
          refine (HC.out _).mono ?_
          rintro e w2 ⟨rfl, hb2⟩
          have HTI2 := Lib.hid (HTI.out.below hb2)
          clear hc hf HTI
          replace hb := bstep hb hb2
          obtain ⟨hc, hf⟩ := bcell hb
          go_wp2_with fail
          refine (HT.out _ _ _ HTI2.out).mono ?_
          rintro e w3 ⟨rfl, hb3⟩
          clear hc hf
          replace hb := bstep hb hb3
          obtain ⟨hc, hf⟩ := bcell hb
          have hz2 : w.heap.size < w3.heap.size := by have := hb.size; simp at this; omega
          go_wp2
          exact bodyPost_ret (v := .tuple #[.agg #[.int .i64 4, .int .i64 (z : Int)], .bool true]) (by simp [results, Try.results37, go_sem, hc]) rfl ⟨rfl, bS (by simp) (bS (by simp) (((Below.refl _ _).alloc (Nat.le_refl _) _).trans (hb.mono (by simp))))⟩
        · replace HC : Hid (∀ w, Calls Try.prog 77 #[.string s, .string ⟨#[]⟩] w fun e w' => e = .returned (.bool false) ∧ Below w.heap.size w w') := HC
          go_enter Try.func37, Try.ntmps37
          go_wp2_with fail
          refine (HI.out _).mono ?_
          rintro e w1 ⟨pb, rfl, hti, hb⟩
          have HTI := Lib.hid hti
          clear hti
          obtain ⟨hc, hf⟩ := bcell hb
          go_wp2_with fail
          refine (HB.out _).mono ?_
          rintro e w2 ⟨rfl, rfl⟩
          go_wp2_with fail
          refine (HC.out _).mono ?_
          rintro e w2 ⟨rfl, hb2⟩
          have HTI2 := Lib.hid (HTI.out.below hb2)
          clear hc hf HTI
          replace hb := bstep hb hb2
          obtain ⟨hc, hf⟩ := bcell hb
          go_wp2_with fail
          refine (HT.out _ _ _ HTI2.out).mono ?_
          rintro e w3 ⟨rfl, hb3⟩
          clear hc hf
          replace hb := bstep hb hb3
          obtain ⟨hc, hf⟩ := bcell hb
          have hz2 : w.heap.size < w3.heap.size := by have := hb.size; simp at this; omega
          go_wp2
          exact bodyPost_ret (v := .tuple #[.agg #[.int .i64 5, .int .i64 (z : Int)], .bool true]) (by simp [results, Try.results37, go_sem, hc]) rfl ⟨rfl, bS (by simp) (bS (by simp) (((Below.refl _ _).alloc (Nat.le_refl _) _).trans (hb.mono (by simp))))⟩
    · have HB : Hid (∀ w, Calls Try.prog 76 #[.int .i64 n] w fun e w' => e = .returned (.bool false) ∧ w = w') := Lib.hid fun w => by have := Tab.bits n w; rwa [inB_no hn] at this
      rw [totD_out h hn]
      clear h hn
      go_enter Try.func37, Try.ntmps37
      go_wp2_with fail
      refine (HI.out _).mono ?_
      rintro e w1 ⟨pb, rfl, hti, hb⟩
      clear hti
      obtain ⟨hc, hf⟩ := bcell hb
      have hz2 : w.heap.size < w1.heap.size := by have := hb.size; simp at this; omega
      go_wp2_with fail
      refine (HB.out _).mono ?_
      rintro e w2 ⟨rfl, rfl⟩
      go_wp2
      exact bodyPost_ret (v := .tuple #[.agg #[.int .i64 0, .int .i64 0], .bool false]) (by simp [results, Try.results37, go_sem, hc]) rfl ⟨rfl, bS (by simp) (bS (by simp) (((Below.refl _ _).alloc (Nat.le_refl _) _).trans (hb.mono (by simp))))⟩



end Go.Proofs.Ythdcjldmafhcjaa
