/-
  Chapter 5: the value of a formula at an input, of the program.
-/
import Derived.Test.YtpniefagpinbdaaFrmV
import Derived.Test.YtpniefagpinbdaaWords
namespace Go.Proofs.Ytpniefagpinbdaa
open Go.RowKit Plain Go.Shelf
set_option linter.unusedVariables false
attribute [local go_sem ↓] Go.wp_at_zero Go.wp_at_succ

/-- A value as the program writes it. -/
def bI (b : Bool) : Int := if b then 1 else 0

/-- The number of a formula's method 'value'. -/
def fnValue : Frm → FuncId
  | .con _ => 80
  | .var _ => 92
  | .neg _ => 84
  | .bin _ _ _ => 88

theorem inv_value (f : Frm) : ∀ (n : Nat) (w : World), (method (n + 1) (ty f) (raw f) "loop.example/g03403/impl.value").run Try.prog w = .ok (fnValue f, raw f) w := by
  cases f <;> (intro n w; kernel_rfl)

theorem ent_value (f : Frm) : ∀ args w, (callFunc (fnValue f) args).run Try.prog w = .ok (.enter (fnValue f) args) w := by
  cases f with
  | con b => exact enters_of Try.func80 (by kernel_rfl) rfl
  | var i => exact enters_of Try.func92 (by kernel_rfl) rfl
  | neg f => exact enters_of Try.func84 (by kernel_rfl) rfl
  | bin o f g => exact enters_of Try.func88 (by kernel_rfl) rfl

theorem letter_value (x i : Nat) (hx : x < 32) : bits .and .i64 ((x : Int) / 2 ^ i) 1 = bI (x.testBit i) := by
  rw [bit_i64 x i (by omega)]
  unfold bitN bI
  rw [Nat.testBit_eq_decide_div_mod_eq]
  have := Nat.mod_two_eq_zero_or_one (x / 2 ^ i)
  rcases this with h | h <;> simp [h]

theorem Value.con (b : Bool) (x : Nat) (w : World) : Calls Try.prog 80 #[.int .u8 ((conC b).toNat : Int), .int .i64 (x : Int)] w fun e w' => e = .returned (.int .i64 (bI b)) ∧ Below w.heap.size w w' := by
  cases b
  case false =>
    rw [show ((conC false).toNat : Int) = 48 from rfl]
    go_enter Try.func80, Try.ntmps80
    go_wp2_with fail
    go_ret
    exact ⟨rfl, Below.refl _ _⟩
  case true =>
    rw [show ((conC true).toNat : Int) = 49 from rfl]
    go_enter Try.func80, Try.ntmps80
    go_wp2_with fail
    go_ret
    exact ⟨rfl, Below.refl _ _⟩

theorem Value.var (i : Fin 5) (x : Nat) (hx : x < 32) (w : World) : Calls Try.prog 92 #[.int .i64 (i.val : Int), .int .i64 (x : Int)] w fun e w' => e = .returned (.int .i64 (bI (x.testBit i.val))) ∧ Below w.heap.size w w' := by
  have h := letter_value x i.val hx
  clear hx
  go_enter Try.func92, Try.ntmps92
  go_wp2_with fail
  go_ret
  exact ⟨ret_int (by first | assumption | rfl), Below.refl _ _⟩

theorem Value.neg (f : Frm) (x : Nat) (v r : Int) (hk : (v = 0 ∧ r = 1) ∨ (v = 1 ∧ r = 0))
    (HI : Hid (∀ w, Calls Try.prog (fnValue f) #[raw f, .int .i64 (x : Int)] w fun e w' => e = .returned (.int .i64 v) ∧ Below w.heap.size w w')) (w : World) :
    Calls Try.prog 84 #[.agg #[.iface (ty f) (raw f)], .int .i64 (x : Int)] w fun e w' => e = .returned (.int .i64 r) ∧ Below w.heap.size w w' := by
  have hm := inv_value f
  have he := ent_value f
  rcases hk with ⟨rfl, rfl⟩ | ⟨rfl, rfl⟩
  all_goals
    go_enter Try.func84, Try.ntmps84
    go_wp2_with fail
    refine (HI.out _).mono ?_
    rintro e w1 ⟨rfl, hb⟩
    go_wp2_with fail
    go_ret
    exact ⟨rfl, ((Below.refl _ _).alloc (Nat.le_refl _) _).trans (hb.mono (by simp))⟩

set_option maxRecDepth 100000 in
set_option maxHeartbeats 2000000 in
theorem Value.pair (f g : Frm) (x : Nat) (c va vb vr : Int) (hk : ((c == 38) = true ∧ va = 0 ∧ vb = 0 ∧ vr = 0) ∨ ((c == 38) = true ∧ va = 0 ∧ vb = 1 ∧ vr = 0) ∨ ((c == 38) = true ∧ va = 1 ∧ vb = 0 ∧ vr = 0) ∨ ((c == 38) = true ∧ va = 1 ∧ vb = 1 ∧ vr = 1) ∨ (((c == 38) = false ∧ (c == 124) = true) ∧ va = 0 ∧ vb = 0 ∧ vr = 0) ∨ (((c == 38) = false ∧ (c == 124) = true) ∧ va = 0 ∧ vb = 1 ∧ vr = 1) ∨ (((c == 38) = false ∧ (c == 124) = true) ∧ va = 1 ∧ vb = 0 ∧ vr = 1) ∨ (((c == 38) = false ∧ (c == 124) = true) ∧ va = 1 ∧ vb = 1 ∧ vr = 1) ∨ (((c == 38) = false ∧ (c == 124) = false) ∧ va = 0 ∧ vb = 0 ∧ vr = 0) ∨ (((c == 38) = false ∧ (c == 124) = false) ∧ va = 0 ∧ vb = 1 ∧ vr = 1) ∨ (((c == 38) = false ∧ (c == 124) = false) ∧ va = 1 ∧ vb = 0 ∧ vr = 1) ∨ (((c == 38) = false ∧ (c == 124) = false) ∧ va = 1 ∧ vb = 1 ∧ vr = 0))
    (HF : Hid (∀ w, Calls Try.prog (fnValue f) #[raw f, .int .i64 (x : Int)] w fun e w' => e = .returned (.int .i64 va) ∧ Below w.heap.size w w'))
    (HG : Hid (∀ w, Calls Try.prog (fnValue g) #[raw g, .int .i64 (x : Int)] w fun e w' => e = .returned (.int .i64 vb) ∧ Below w.heap.size w w')) (w : World) :
    Calls Try.prog 88 #[.agg #[.int .u8 c, .iface (ty f) (raw f), .iface (ty g) (raw g)], .int .i64 (x : Int)] w fun e w' => e = .returned (.int .i64 vr) ∧ Below w.heap.size w w' := by
  have hmf := inv_value f
  have hef := ent_value f
  have hmg := inv_value g
  have heg := ent_value g
  rcases hk with ⟨t1, rfl, rfl, rfl⟩ | ⟨t1, rfl, rfl, rfl⟩ | ⟨t1, rfl, rfl, rfl⟩ | ⟨t1, rfl, rfl, rfl⟩ | ⟨⟨t1, t2⟩, rfl, rfl, rfl⟩ | ⟨⟨t1, t2⟩, rfl, rfl, rfl⟩ | ⟨⟨t1, t2⟩, rfl, rfl, rfl⟩ | ⟨⟨t1, t2⟩, rfl, rfl, rfl⟩ | ⟨⟨t1, t2⟩, rfl, rfl, rfl⟩ | ⟨⟨t1, t2⟩, rfl, rfl, rfl⟩ | ⟨⟨t1, t2⟩, rfl, rfl, rfl⟩ | ⟨⟨t1, t2⟩, rfl, rfl, rfl⟩
  all_goals
    go_enter Try.func88, Try.ntmps88
    go_wp2_with fail
    go_region_held3 (fun w' => w'.cell? ⟨w.heap.size, 0, none⟩ = some (.int .u8 c) ∧ w'.cell? ⟨w.heap.size, 1, none⟩ = some (.iface (ty f) (raw f)) ∧ w'.cell? ⟨w.heap.size, 2, none⟩ = some (.iface (ty g) (raw g))) ((first | (go_split_ands; (try dsimp only); (refine ⟨?_, ?_, ?_⟩ <;> (repeat (first | with_reducible assumption | ((with_reducible refine keepU ?_); (with_reducible assumption)) | (with_reducible refine keepD ?_) | ((with_reducible refine keepN ?_ ?_); (focus (simp; done)); (focus rfl)) | (with_reducible refine keepA ?_) | ((with_reducible refine keepS ?_ ?_); (focus (dsimp only; omega))) | (with_reducible refine keepB hb ?_) | (with_reducible refine keepB hb' ?_)))); done) | go_keep))
      (first
        | (with_reducible refine (HF.out _).mono ?_; rintro e w14 ⟨rfl, hb⟩; obtain ⟨hc, hf⟩ := bcell hb; have hs := hb.size; try simp only [World.size_alloc, World.size_drew] at hs)
        | (with_reducible refine (HG.out _).mono ?_; rintro e w15 ⟨rfl, hb'⟩; obtain ⟨hc', hf'⟩ := bcell hb'; have hs' := hb'.size; try simp only [World.size_alloc, World.size_drew] at hs'))
    all_goals
      go_wp2
      go_ret
      refine ⟨rfl, ?_⟩
      repeat (first | (with_reducible exact Below.refl _ _) | (with_reducible assumption) | ((with_reducible refine bS ?_ ?_); (focus (dsimp only; omega))) | ((with_reducible refine bA ?_ ?_); (focus (first | omega | (simp; done) | (simp; omega)))) | (with_reducible refine bD ?_) | ((with_reducible refine bB hb ?_ ?_); (focus (first | omega | (simp; done) | (simp; omega)))) | ((with_reducible refine bB hb' ?_ ?_); (focus (first | omega | (simp; done) | (simp; omega)))))

theorem bI_and (a b : Bool) : ∀ c va vb vr : Int, c = 38 → va = bI a → vb = bI b → vr = bI (a && b) → ((c == 38) = true ∧ va = 0 ∧ vb = 0 ∧ vr = 0) ∨ ((c == 38) = true ∧ va = 0 ∧ vb = 1 ∧ vr = 0) ∨ ((c == 38) = true ∧ va = 1 ∧ vb = 0 ∧ vr = 0) ∨ ((c == 38) = true ∧ va = 1 ∧ vb = 1 ∧ vr = 1) ∨ (((c == 38) = false ∧ (c == 124) = true) ∧ va = 0 ∧ vb = 0 ∧ vr = 0) ∨ (((c == 38) = false ∧ (c == 124) = true) ∧ va = 0 ∧ vb = 1 ∧ vr = 1) ∨ (((c == 38) = false ∧ (c == 124) = true) ∧ va = 1 ∧ vb = 0 ∧ vr = 1) ∨ (((c == 38) = false ∧ (c == 124) = true) ∧ va = 1 ∧ vb = 1 ∧ vr = 1) ∨ (((c == 38) = false ∧ (c == 124) = false) ∧ va = 0 ∧ vb = 0 ∧ vr = 0) ∨ (((c == 38) = false ∧ (c == 124) = false) ∧ va = 0 ∧ vb = 1 ∧ vr = 1) ∨ (((c == 38) = false ∧ (c == 124) = false) ∧ va = 1 ∧ vb = 0 ∧ vr = 1) ∨ (((c == 38) = false ∧ (c == 124) = false) ∧ va = 1 ∧ vb = 1 ∧ vr = 0) := by
  rintro c va vb vr rfl rfl rfl rfl
  cases a <;> cases b <;> decide
theorem bI_or (a b : Bool) : ∀ c va vb vr : Int, c = 124 → va = bI a → vb = bI b → vr = bI (a || b) → ((c == 38) = true ∧ va = 0 ∧ vb = 0 ∧ vr = 0) ∨ ((c == 38) = true ∧ va = 0 ∧ vb = 1 ∧ vr = 0) ∨ ((c == 38) = true ∧ va = 1 ∧ vb = 0 ∧ vr = 0) ∨ ((c == 38) = true ∧ va = 1 ∧ vb = 1 ∧ vr = 1) ∨ (((c == 38) = false ∧ (c == 124) = true) ∧ va = 0 ∧ vb = 0 ∧ vr = 0) ∨ (((c == 38) = false ∧ (c == 124) = true) ∧ va = 0 ∧ vb = 1 ∧ vr = 1) ∨ (((c == 38) = false ∧ (c == 124) = true) ∧ va = 1 ∧ vb = 0 ∧ vr = 1) ∨ (((c == 38) = false ∧ (c == 124) = true) ∧ va = 1 ∧ vb = 1 ∧ vr = 1) ∨ (((c == 38) = false ∧ (c == 124) = false) ∧ va = 0 ∧ vb = 0 ∧ vr = 0) ∨ (((c == 38) = false ∧ (c == 124) = false) ∧ va = 0 ∧ vb = 1 ∧ vr = 1) ∨ (((c == 38) = false ∧ (c == 124) = false) ∧ va = 1 ∧ vb = 0 ∧ vr = 1) ∨ (((c == 38) = false ∧ (c == 124) = false) ∧ va = 1 ∧ vb = 1 ∧ vr = 0) := by
  rintro c va vb vr rfl rfl rfl rfl
  cases a <;> cases b <;> decide
theorem bI_xor (a b : Bool) : ∀ c va vb vr : Int, c = 94 → va = bI a → vb = bI b → vr = bI (a != b) → ((c == 38) = true ∧ va = 0 ∧ vb = 0 ∧ vr = 0) ∨ ((c == 38) = true ∧ va = 0 ∧ vb = 1 ∧ vr = 0) ∨ ((c == 38) = true ∧ va = 1 ∧ vb = 0 ∧ vr = 0) ∨ ((c == 38) = true ∧ va = 1 ∧ vb = 1 ∧ vr = 1) ∨ (((c == 38) = false ∧ (c == 124) = true) ∧ va = 0 ∧ vb = 0 ∧ vr = 0) ∨ (((c == 38) = false ∧ (c == 124) = true) ∧ va = 0 ∧ vb = 1 ∧ vr = 1) ∨ (((c == 38) = false ∧ (c == 124) = true) ∧ va = 1 ∧ vb = 0 ∧ vr = 1) ∨ (((c == 38) = false ∧ (c == 124) = true) ∧ va = 1 ∧ vb = 1 ∧ vr = 1) ∨ (((c == 38) = false ∧ (c == 124) = false) ∧ va = 0 ∧ vb = 0 ∧ vr = 0) ∨ (((c == 38) = false ∧ (c == 124) = false) ∧ va = 0 ∧ vb = 1 ∧ vr = 1) ∨ (((c == 38) = false ∧ (c == 124) = false) ∧ va = 1 ∧ vb = 0 ∧ vr = 1) ∨ (((c == 38) = false ∧ (c == 124) = false) ∧ va = 1 ∧ vb = 1 ∧ vr = 0) := by
  rintro c va vb vr rfl rfl rfl rfl
  cases a <;> cases b <;> decide

theorem bI_two (b : Bool) : (bI b = 0 ∧ bI (!b) = 1) ∨ (bI b = 1 ∧ bI (!b) = 0) := by cases b <;> decide

/-- A formula's value at an input, of the program. -/
theorem Value.any (x : Nat) (hx : x < 32) (f : Frm) : ∀ (w : World), Calls Try.prog (fnValue f) #[raw f, .int .i64 (x : Int)] w fun e w' => e = .returned (.int .i64 (bI (val x f))) ∧ Below w.heap.size w w' := by
  induction f with
  | con b => exact fun w => Value.con b x w
  | var i => exact fun w => Value.var i x hx w
  | neg f ih => exact fun w => Value.neg f x (bI (val x f)) _ (bI_two _) (Lib.hid ih) w
  | bin o f g ihf ihg =>
    intro w
    cases o with
    | band => exact Value.pair f g x 38 (bI (val x f)) (bI (val x g)) _ (bI_and (val x f) (val x g) _ _ _ _ rfl rfl rfl rfl) (Lib.hid ihf) (Lib.hid ihg) w
    | bor => exact Value.pair f g x 124 (bI (val x f)) (bI (val x g)) _ (bI_or (val x f) (val x g) _ _ _ _ rfl rfl rfl rfl) (Lib.hid ihf) (Lib.hid ihg) w
    | bxor => exact Value.pair f g x 94 (bI (val x f)) (bI (val x g)) _ (bI_xor (val x f) (val x g) _ _ _ _ rfl rfl rfl rfl) (Lib.hid ihf) (Lib.hid ihg) w

end Go.Proofs.Ytpniefagpinbdaa
