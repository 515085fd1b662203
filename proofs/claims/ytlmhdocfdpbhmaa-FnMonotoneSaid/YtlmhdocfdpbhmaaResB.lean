/-
  Bits put into inputs and taken out; tables made by a function value; VariableTable of the program.
  VariableTable of the program: a table made by a function value.
-/
import Derived.Test.YtlmhdocfdpbhmaaTabK
import Derived.Test.YtlmhdocfdpbhmaaPlainR
import Derived.Carry
import Derived.OneCell
import Derived.Shelf.Abstract

namespace Go.Proofs.Ytlmhdocfdpbhmaa
open Go.RowKit Plain
set_option linter.unusedVariables false

theorem Tab.insI (x i b : Nat) (hx : x < 32) (hi : i < 6) (hb : b < 2) (w : World) :
    Calls Try.prog 128 #[.int .i64 x, .int .i64 i, .int .i64 b] w fun e w' => e = .returned (.int .i64 (insN x i b : Int)) ∧ w = w' := by
  have H := Lib.hid (ins_all x hx i hi b hb).2.2.2.1
  have hx' : (x : Int) ≤ 31 := by omega
  have hi' : (i : Int) ≤ 5 := by omega
  have hb' : (b : Int) ≤ 1 := by omega
  clear hx hi hb
  go_enter Try.func128, Try.ntmps128
  go_wp2
  go_ret
  exact ⟨ret_int H.out, rfl⟩

theorem Tab.insM (x i b : Nat) (hx : x < 32) (hi : i < 6) (hb : b < 2) (w : World) :
    Calls Try.prog 130 #[.int .i64 x, .int .i64 i, .int .i64 b] w fun e w' => e = .returned (.int .i64 (insN x i b : Int)) ∧ ∃ m, w' = w.drewN m := by
  have H := Lib.hid (ins_all x hx i hi b hb).2.2.2.2
  have hx' : (x : Int) ≤ 31 := by omega
  have hi' : (i : Int) ≤ 5 := by omega
  have hb' : (b : Int) ≤ 1 := by omega
  clear hx hi hb
  go_enter Try.func130, Try.ntmps130
  go_wp2
  go_quiet (fail)
  go_wp2
  go_ret
  exact ⟨ret_int H.out, _, rfl⟩

/-- A callee that only draws, met in a region that draws its order. -/
theorem quiet_more {P : Program} {f : FuncId} {args : Array Value} {w : World} {n : Nat} {v : Value}
    (h : Calls P f args (w.drewN n) fun e w' => e = .returned v ∧ ∃ m, w' = (w.drewN n).drewN m) : Calls P f args (w.drewN n) fun e w'' => e = .returned v ∧ ∃ m, w'' = w.drewN m :=
  h.mono fun _ _ ⟨he, m, hm⟩ => ⟨he, n + m, by rw [hm]; simp⟩

/-- A block that lay, lies. -/
theorem blockOn {X w' : World} {b : Nat} {o : Obj} (h : X.heap[b]? = some o) (hb : Below X.heap.size X w') : w'.heap[b]? = some o :=
  (hb.block b (lt_of_block h)).trans h

theorem cells2 {w : World} {b : Nat} {x y : Value} {T : TypeId} (h : w.heap[b]? = some (.cells #[x, y] T (0, 0))) :
    w.cell? ⟨b, 0, none⟩ = some x ∧ w.cell? ⟨b, 1, none⟩ = some y ∧ w.frozen? ⟨b, 0, none⟩ = false ∧ w.frozen? ⟨b, 1, none⟩ = false := by
  refine ⟨?_, ?_, ?_, ?_⟩
  · rw [cell_of_row w b 0 _ _ (0, 0) h]; rfl
  · rw [cell_of_row w b 1 _ _ (0, 0) h]; rfl
  · exact frozen_of_row w b 0 _ _ h
  · exact frozen_of_row w b 1 _ _ h

/-- What is asked of a function value that tells the value at each input. -/
def Gives (g : Nat) (lb : Array Value) (n : Nat) (v : Nat → Nat) (w : World) : Prop :=
  ∀ (W : World) (x : Nat), x < 2 ^ n → Below w.heap.size w W → Calls Try.prog g (#[.int .i64 x] ++ lb) W fun e w' => e = .returned (.int .i64 (v x : Int)) ∧ Below W.heap.size W w'

set_option maxRecDepth 100000 in
set_option maxHeartbeats 1000000 in
/-- tableFrom, whatever the function value. -/
theorem Tab.from_any (n : Nat) (hn : n ≤ 5) (v : Nat → Nat) (g : Nat) (lb : Array Value) (eg : ∀ args w, (callFunc g args).run Try.prog w = .ok (.enter g args) w) (w : World) (hp : Gives g lb n v w) :
    Calls Try.prog 70 #[.int .i64 n, .func (.func g) #[] lb] w fun e w' => e = .returned (.agg #[.int .i64 n, .int .i64 (tabN v (2 ^ n) : Int)]) ∧ Below w.heap.size w w' := by
  obtain ⟨hp1, hp2⟩ := two_pow_int n hn
  have hvb : (tabN v (2 ^ n) : Int) ≤ 4294967295 := tabN_bound v _ (by have := two_pow_le n hn; omega)
  have HP := Lib.hid hp
  clear hp
  go_enter Try.func70, Try.ntmps70
  go_wp2_with fail
  refine (Tab.count n hn _).mono ?_
  rintro e w1 ⟨rfl, rfl⟩
  go_wp2_with fail
  go_loopw [5, 6, 9] (fun a _ x wr => ∃ y : Nat, x = .int .i64 (y : Int) ∧ a = .int .u64 (tabN v y : Int) ∧ (y : Int) ≤ 2 ^ n ∧ Below w.heap.size w wr ∧ wr.heap[w.heap.size]? = some (.cells #[.int .i64 0, .int .i64 0] 27 (0, 0))) (fun _ _ x _ => 32 - (intOf x).toNat)
  case atStart => exact ⟨0, rfl, rfl, by omega, (Below.refl _ _).alloc (Nat.le_refl _) _, heap_alloc_new w _⟩
  case round =>
    obtain ⟨y, rfl, rfl, hy, hbel, hcell⟩ := hrel
    have HB := Lib.hid hbel
    have HX := Lib.hid hcell
    have hszr : w.heap.size ≤ wr.heap.size := hbel.size
    clear hbel hcell
    by_cases hlt : (y : Int) < 2 ^ n
    · have hvy := tabN_bound v y (by omega)
      have hy2 : y < 2 ^ n := by rw [up2] at hlt; omega
      by_cases hb : v y = 1
      · have HV := Lib.hid (tabN_yes hb)
        have HC := Lib.hid (HP.out wr y hy2 HB.out)
        have HE := Lib.hid hb
        clear hb hy2
        go_wp2_with fail
        refine HC.out.mono ?_
        rintro e w' ⟨rfl, hb'⟩
        rw [HE.out]
        have HB' := Lib.hid (HB.out.trans (hb'.mono hszr))
        have HX' := Lib.hid (blockOn HX.out hb')
        clear hb'
        go_wp2_with fail
        refine (Tab.withBit _ _ hvy (by omega) _).mono ?_
        rintro e w2 ⟨rfl, rfl⟩
        go_wp2_with fail
        go_roundw
        case rel => exact ⟨y + 1, by go_num, by rw [HV.out], by omega, HB'.out, HX'.out⟩
        case measure => simp [intOf]; omega
      · have HV := Lib.hid (tabN_no hb)
        have HC := Lib.hid (HP.out wr y hy2 HB.out)
        have hne : (((v y : Nat) : Int) == 1) = false := by rw [beq_eq_false_iff_ne]; omega
        clear hb hy2
        go_wp2_with fail
        refine HC.out.mono ?_
        rintro e w' ⟨rfl, hb'⟩
        have HB' := Lib.hid (HB.out.trans (hb'.mono hszr))
        have HX' := Lib.hid (blockOn HX.out hb')
        clear hb'
        go_wp2_with fail
        go_roundw
        case rel => exact ⟨y + 1, by go_num, by rw [HV.out], by omega, HB'.out, HX'.out⟩
        case measure => simp [intOf]; omega
    · have he : y = 2 ^ n := by rw [up2] at hy hlt; omega
      have HE : Hid (tabN v y = tabN v (2 ^ n)) := Lib.hid (by rw [he])
      have hvy : (tabN v y : Int) ≤ 9223372036854775807 := by rw [HE.out]; omega
      clear he
      obtain ⟨c0, c1, f0, f1⟩ := cells2 HX.out
      have hlt2 : w.heap.size < wr.heap.size := lt_of_block HX.out
      have HVE := HE
      clear HE
      go_wp2_with fail
      refine (Tab.tableX' n _ hvy _).mono ?_
      rintro e w1 ⟨rfl, rfl⟩
      go_wp2
      rw [← HVE.out]
      obtain ⟨k0, k1⟩ := keepT (u := .int .i64 n) (v := .int .i64 (tabN v y : Int)) c0 c1
      have m0 := keepA (o := .cells #[.int .i64 n, .int .i64 (tabN v y : Int)] 27) k0
      have m1 := keepA (o := .cells #[.int .i64 n, .int .i64 (tabN v y : Int)] 27) k1
      exact bodyPost_ret (v := .agg #[.int .i64 n, .int .i64 (tabN v y : Int)]) (by simp [results, Try.results70, go_sem, m0, m1]) rfl ⟨rfl, bA (by simp; omega) (bS (Nat.le_refl _) (bS (Nat.le_refl _) HB.out))⟩

end Go.Proofs.Ytlmhdocfdpbhmaa

namespace Go.Proofs.Ytlmhdocfdpbhmaa
open Go.RowKit Plain
set_option linter.unusedVariables false

theorem varW_tabN (i k : Nat) : varW i k = tabN (fun x => bitN x i) k := by
  induction k with
  | zero => rfl
  | succ k ih =>
    show (if bitN k i = 1 then varW i k ||| 2 ^ k else varW i k) = (if bitN k i = 1 then tabN (fun x => bitN x i) k ||| 2 ^ k else tabN (fun x => bitN x i) k)
    rw [ih]

theorem Gives.of_same {g : Nat} {lb : Array Value} {n : Nat} {v : Nat → Nat} {w : World}
    (h : ∀ (W : World) (x : Nat), x < 2 ^ n → Below w.heap.size w W → Calls Try.prog g (#[.int .i64 x] ++ lb) W fun e w' => e = .returned (.int .i64 (v x : Int)) ∧ W = w') : Gives g lb n v w :=
  fun W x hx hb => (h W x hx hb).mono fun e w' ⟨h1, h2⟩ => ⟨h1, h2 ▸ Below.refl _ _⟩
theorem Gives.of_drew {g : Nat} {lb : Array Value} {n : Nat} {v : Nat → Nat} {w : World}
    (h : ∀ (W : World) (x : Nat), x < 2 ^ n → Below w.heap.size w W → Calls Try.prog g (#[.int .i64 x] ++ lb) W fun e w' => e = .returned (.int .i64 (v x : Int)) ∧ ∃ m, w' = W.drewN m) : Gives g lb n v w :=
  fun W x hx hb => (h W x hx hb).mono fun e w' ⟨h1, m, h2⟩ => ⟨h1, h2 ▸ below_drewN (Below.refl _ _) m⟩
/-- A cell that lay when the function value was made. -/
theorem cellOn {w W : World} {p : Addr} {v : Value} (hb : Below w.heap.size w W) (h : w.cell? p = some v) : W.cell? p = some v :=
  (hb.cell (World.block_lt_of_cell? w p h)).trans h

theorem pow5 {n x : Nat} (hn : n ≤ 5) (hx : x < 2 ^ n) : x < 2 ^ 5 := Nat.lt_of_lt_of_le hx (Nat.pow_le_pow_right (by decide) hn)

end Go.Proofs.Ytlmhdocfdpbhmaa
