/-
  Chapter 14, the program: the list of sums, the first of them that is nearest; NearestAffine, IsAffine.
-/
import Derived.Test.YtbkkohkigpkddaaLinK
import Derived.Deep.RegionWith
import Derived.Deep.RegionHeld3
import Derived.Deep.DrawnRows
namespace Go.Proofs.Ytbkkohkigpkddaa
open Go.RowKit Plain Go.Shelf
set_option linter.unusedVariables false
set_option linter.unusedSimpArgs false
attribute [local go_sem ↓] Go.wp_at_zero Go.wp_at_succ

/-- The first k sums. -/
def Plain.smL (k : Nat) : List Sm := (List.range k).map fun j => (((j / 2 : Nat) : Int), ((j % 2 : Nat) : Int))
theorem smL_len (k : Nat) : (smL k).length = k := by simp [Plain.smL]
theorem smL_getD {j k : Nat} (h : j < k) : (smL k).getD j (0, 0) = (((j / 2 : Nat) : Int), ((j % 2 : Nat) : Int)) := by
  simp [Plain.smL, List.getD_eq_getElem?_getD, h]
theorem smL_two (k : Nat) : smL (2 * (k + 1)) = smL (2 * k) ++ [((k : Int), 0), ((k : Int), 1)] := by
  unfold Plain.smL
  rw [show 2 * (k + 1) = 2 * k + 1 + 1 by omega, List.range_succ, List.range_succ, List.map_append, List.map_append, List.append_assoc]
  congr 1
  simp only [List.map_cons, List.map_nil, List.cons_append, List.nil_append]
  rw [show 2 * k / 2 = k by omega, show 2 * k % 2 = 0 by omega, show (2 * k + 1) / 2 = k by omega, show (2 * k + 1) % 2 = 1 by omega]
  rfl

/-- Two sums, laid in a block just ahead, are appended. -/
theorem wp_two {ops : Array Oper} {rest : List Oper} {o : Oper} {a : Act} {Q : Exit → Act → World → Prop} (hgd : o.guard = none) (s x : Operand)
    (ho : o.op = .call { callee := .builtin .append, args := #[s, x], argTypes := #[51, 51] })
    (B : Nat) (w wr : World) (v : Value) (l : List Sm) (t1 t2 : Sm) (ob : Obj) (hown : SmRow wr B v l) (hb : Below B w wr) (hB : B ≤ wr.heap.size) (hlen : l.length ≤ 1000000)
    (hs : a.eval s = v) (hx : a.eval x = .slice (some ⟨wr.heap.size, 0, none⟩) 2 2) (hob : ob = .cells #[.int .i64 t1.1, .int .i64 t1.2, .int .i64 t2.1, .int .i64 t2.2] 43)
    (h : ∀ v' w1, SmRow w1 B v' (l ++ [t1, t2]) → Below B w w1 → wpList Try.prog ops Q rest (a.put o.dst v') w1) :
    wpList Try.prog ops Q (o :: rest) a (wr.alloc ob) := by
  subst hob
  refine wp_sums hgd s x ho B w _ v l [t1, t2] wr.heap.size 0 2 2 (hown.alloc _) (hb.alloc hB _) (by simp; omega) rfl (by omega) hs hx ?_ ?_
  · intro j hj
    match j, hj with
    | 0, _ => exact ⟨World.cell?_alloc_mark wr _ _ _ 0, World.cell?_alloc_mark wr _ _ _ 1⟩
    | 1, _ => exact ⟨World.cell?_alloc_mark wr _ _ _ 2, World.cell?_alloc_mark wr _ _ _ 3⟩
  · intro v' w1 h1 h2 h3 _
    exact h v' w1 h1 h2

set_option maxRecDepth 100000 in
set_option maxHeartbeats 2000000 in
theorem Sms.any (n : Nat) (hn : n ≤ 5) (w : World) :
    Calls Try.prog 36 #[.int .i64 n] w fun e w' => ∃ v, e = .returned v ∧ SmRow w' w.heap.size v (smL (2 * 2 ^ n)) ∧ Below w.heap.size w w' := by
  have h32 := two_pow_le n hn
  have HC := Lib.hid (Tab.count n hn)
  generalize 2 ^ n = M at *
  go_enter Try.func36, Try.ntmps36
  go_wp2_with fail
  refine (HC.out _).mono ?_
  rintro e w1 ⟨rfl, rfl⟩
  go_wp2_with fail
  go_loopw [3, 7] (fun s i wr => ∃ (k : Nat) (v : Value), i = .int .i64 (k : Int) ∧ v = s ∧ k ≤ M ∧ SmRow wr w.heap.size v (smL (2 * k)) ∧ Below w.heap.size w wr) (fun _ i _ => M - (intOf i).toNat)
  case atStart => exact ⟨0, _, rfl, rfl, by omega, smNil _ _, Below.refl _ _⟩
  case round =>
    obtain ⟨k, v, rfl, rfl, hk, hrow, hbel⟩ := hrel
    have hsz := hbel.size
    have HR := Lib.hid hrow
    have HB := Lib.hid hbel
    clear hrow hbel
    by_cases hlt : k < M
    · have hlz : (k : Int) < (M : Int) := by omega
      have hll := smL_len (2 * k)
      go_wp2_with (at_builtin; go_must (refine wp_two rfl _ _ rfl w.heap.size _ _ _ _ ((k : Int), 0) ((k : Int), 1) _ HR.out HB.out hsz (by omega) rfl rfl rfl ?_; intro v1 w4 k1 k2))
      exact ⟨⟨k + 1, _, by go_num, rfl, by omega, by rw [smL_two]; exact k1, k2⟩, by simp [intOf] <;> omega⟩
    · obtain rfl : k = M := by omega
      have hlz : ¬ (k : Int) < (k : Int) := by omega
      go_wp2
      go_ret
      exact ⟨_, rfl, HR.out, HB.out⟩

set_option maxRecDepth 100000 in
/-- The distance to a sum, of the closure. -/
theorem Key.any (n a u b fb : Nat) (hn : n ≤ 5) (ha : (a : Int) ≤ 4294967295) (hu : u < 32) (hb : b < 2) (w : World) (h0 : w.cell? ⟨fb, 0, none⟩ = some (.int .i64 n)) (h1 : w.cell? ⟨fb, 1, none⟩ = some (.int .i64 a)) :
    Calls Try.prog 33 #[.agg #[.int .i64 u, .int .i64 b], .pointer (some ⟨fb, 0, none⟩)] w fun e w' => e = .returned (.int .i64 (disN (bitN a) (affB u b) (2 ^ n) : Int)) ∧ Below w.heap.size w w' := by
  have HD := Lib.hid (Dst.any n hn (.wrd a) (.sm u b) (show (a : Int) ≤ 18446744073709551615 by omega) ⟨hu, hb⟩)
  unfold vTy vRaw vVal at HD
  dsimp only at HD
  have hwa : IntKind.u64.wrap (a : Int) = a := by rw [IntKind.wrap_u64]; omega
  generalize disN (bitN a) (affB u b) (2 ^ n) = d at *
  have k0 := keepA (o := .cells #[.int .i64 u, .int .i64 b] 43) h0
  have k1 := keepA (o := .cells #[.int .i64 u, .int .i64 b] 43) h1
  go_enter Try.func33, Try.ntmps33
  go_wp2_with fail
  refine (HD.out _).mono ?_
  rintro e w2 ⟨rfl, hb2⟩
  go_wp2
  go_ret
  exact ⟨rfl, ((Below.refl _ _).alloc (Nat.le_refl _) _).trans (hb2.mono (by simp))⟩
end Go.Proofs.Ytbkkohkigpkddaa
