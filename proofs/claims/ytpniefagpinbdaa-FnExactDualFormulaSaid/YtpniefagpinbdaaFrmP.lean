/-
  Chapter 5: pushing negations down, of the program; dualSymbol.
-/
import Derived.Test.YtpniefagpinbdaaFrmV
namespace Go.Proofs.Ytpniefagpinbdaa
open Go.RowKit Plain Go.Shelf
set_option linter.unusedVariables false
attribute [local go_sem ↓] Go.wp_at_zero Go.wp_at_succ

/-- The exchange of & and |, and of 0 and 1. -/
def Plain.dualC (c : UInt8) : UInt8 := if c = 38 then 124 else if c = 124 then 38 else if c = 48 then 49 else if c = 49 then 48 else c

theorem dualC_other {c : UInt8} (h : ¬ (c = 38 ∨ c = 124 ∨ c = 48 ∨ c = 49)) : dualC c = c := by
  unfold dualC
  rw [if_neg (fun e => h (.inl e)), if_neg (fun e => h (.inr (.inl e))), if_neg (fun e => h (.inr (.inr (.inl e)))), if_neg (fun e => h (.inr (.inr (.inr e))))]

/-- dualSymbol of the program. -/
theorem Dual.any (c : UInt8) (w : World) : Calls Try.prog 39 #[.int .u8 (c.toNat : Int)] w fun e w' => e = .returned (.int .u8 ((dualC c).toNat : Int)) ∧ w = w' := by
  by_cases h : c = 38 ∨ c = 124 ∨ c = 48 ∨ c = 49
  · rcases h with rfl | rfl | rfl | rfl
    all_goals
      first
        | rw [show (((38 : UInt8).toNat : Nat) : Int) = 38 from rfl]
        | rw [show (((124 : UInt8).toNat : Nat) : Int) = 124 from rfl]
        | rw [show (((48 : UInt8).toNat : Nat) : Int) = 48 from rfl]
        | rw [show (((49 : UInt8).toNat : Nat) : Int) = 49 from rfl]
      go_enter Try.func39, Try.ntmps39
      go_wp2_with fail
      go_ret
      exact ⟨rfl, rfl⟩
  · rw [dualC_other h]
    have t1 := no_byte (c := c) 38 (by decide) (fun e => h (.inl e))
    have t2 := no_byte (c := c) 124 (by decide) (fun e => h (.inr (.inl e)))
    have t3 := no_byte (c := c) 48 (by decide) (fun e => h (.inr (.inr (.inl e))))
    have t4 := no_byte (c := c) 49 (by decide) (fun e => h (.inr (.inr (.inr e))))
    have t1' : ((c.toNat : Int) == 38) = false := t1
    have t2' : ((c.toNat : Int) == 124) = false := t2
    have t3' : ((c.toNat : Int) == 48) = false := t3
    have t4' : ((c.toNat : Int) == 49) = false := t4
    clear h t1 t2 t3 t4
    go_enter Try.func39, Try.ntmps39
    go_wp2_with fail
    go_ret
    exact ⟨rfl, rfl⟩

/-- The number of a formula's method 'pushed'. -/
def fnPushed : Frm → FuncId
  | .con _ => 79
  | .var _ => 91
  | .neg _ => 83
  | .bin _ _ _ => 87

theorem inv_pushed (f : Frm) : ∀ (n : Nat) (w : World), (method (n + 1) (ty f) (raw f) "loop.example/g03403/impl.pushed").run Try.prog w = .ok (fnPushed f, raw f) w := by
  cases f <;> (intro n w; kernel_rfl)

theorem ent_pushed (f : Frm) : ∀ args w, (callFunc (fnPushed f) args).run Try.prog w = .ok (.enter (fnPushed f) args) w := by
  cases f with
  | con b => exact enters_of Try.func79 (by kernel_rfl) rfl
  | var i => exact enters_of Try.func91 (by kernel_rfl) rfl
  | neg f => exact enters_of Try.func83 (by kernel_rfl) rfl
  | bin o f g => exact enters_of Try.func87 (by kernel_rfl) rfl

theorem join_txt (x y : List UInt8) (h : x.length + y.length ≤ 1000000000) (w : World) : (Op.stringOp .add ⟨x.toArray⟩ ⟨y.toArray⟩).run Try.prog w = .ok (.string ⟨(x ++ y).toArray⟩) w := by
  rw [run_string_add_sum]
  · rw [ByteArray.mk_append_mk]
  · show x.toArray.size + y.toArray.size ≤ _
    simp only [List.size_toArray]
    omega

/-- A byte below 128 as a string. -/
theorem byte_txt (c : UInt8) (hc : c = 38 ∨ c = 124 ∨ c = 94 ∨ c = 48 ∨ c = 49) (w : World) : (convert 5 9 (.int .u8 (c.toNat : Int))).run Try.prog w = .ok (.string ⟨#[c]⟩) w := by
  rcases hc with rfl | rfl | rfl | rfl | rfl <;> kernel_rfl

theorem const_txt (c : UInt8) (hc : c = 38 ∨ c = 124 ∨ c = 94 ∨ c = 48 ∨ c = 49) (w : World) : (convert 56 9 (.int .u8 (c.toNat : Int))).run Try.prog w = .ok (.string ⟨#[c]⟩) w := by
  rcases hc with rfl | rfl | rfl | rfl | rfl <;> kernel_rfl

theorem Push.con (b n : Bool) (w : World) : Calls Try.prog 79 #[.int .u8 ((conC b).toNat : Int), .bool n] w fun e w' => e = .returned (.string ⟨#[conC (b != n)]⟩) ∧ Below w.heap.size w w' := by
  have h1 : ∀ b : Bool, conC b = 38 ∨ conC b = 124 ∨ conC b = 94 ∨ conC b = 48 ∨ conC b = 49 := by decide
  have h2 : dualC (conC b) = conC (b != true) := by cases b <;> decide
  cases n with
  | false =>
    have ht := byte_txt (conC b) (h1 b)
    have ht2 := const_txt (conC b) (h1 b)
    have HR : Hid (conC (b != false) = conC b) := Lib.hid (by simp)
    clear h1 h2
    generalize conC (b != false) = r at HR
    generalize conC b = c at *
    go_enter Try.func79, Try.ntmps79
    go_wp2_with fail
    go_ret
    exact ⟨by rw [HR.out]; rfl, Below.refl _ _⟩
  | true =>
    have ht := byte_txt (conC (b != true)) (h1 _)
    have ht2 := const_txt (conC (b != true)) (h1 _)
    have HD := Dual.any (conC b)
    rw [h2] at HD
    replace HD := Lib.hid HD
    clear h1 h2
    generalize conC (b != true) = r at *
    generalize conC b = c at *
    go_enter Try.func79, Try.ntmps79
    go_wp2_with fail
    refine (HD.out _).mono ?_
    rintro e w1 ⟨rfl, rfl⟩
    go_wp2_with fail
    go_ret
    exact ⟨rfl, Below.refl _ _⟩

theorem Push.var (i : Fin 5) (n : Bool) (w : World) : Calls Try.prog 91 #[.int .i64 (i.val : Int), .bool n] w fun e w' => e = .returned (.string ⟨(txt (push n (.var i))).toArray⟩) ∧ Below w.heap.size w w' := by
  have hi : i = 0 ∨ i = 1 ∨ i = 2 ∨ i = 3 ∨ i = 4 := by revert i; decide
  have hj : ∀ (c : UInt8) w, (Op.stringOp .add ⟨#[33]⟩ ⟨#[c]⟩).run Try.prog w = .ok (.string ⟨#[33, c]⟩) w := fun c w => join_txt [33] [c] (by simp) w
  rcases hi with rfl | rfl | rfl | rfl | rfl
  all_goals
    cases n
    all_goals
      first
        | rw [show (((0 : Fin 5).val : Nat) : Int) = 0 from rfl]
        | rw [show (((1 : Fin 5).val : Nat) : Int) = 1 from rfl]
        | rw [show (((2 : Fin 5).val : Nat) : Int) = 2 from rfl]
        | rw [show (((3 : Fin 5).val : Nat) : Int) = 3 from rfl]
        | rw [show (((4 : Fin 5).val : Nat) : Int) = 4 from rfl]
      go_enter Try.func91, Try.ntmps91
      go_wp2_with fail
      go_ret
      exact ⟨rfl, Below.refl _ _⟩

theorem Push.neg (f : Frm) (n : Bool) (r : ByteArray)
    (HI : Hid (∀ w, Calls Try.prog (fnPushed f) #[raw f, .bool (!n)] w fun e w' => e = .returned (.string r) ∧ Below w.heap.size w w')) (w : World) :
    Calls Try.prog 83 #[.agg #[.iface (ty f) (raw f)], .bool n] w fun e w' => e = .returned (.string r) ∧ Below w.heap.size w w' := by
  have hm := inv_pushed f
  have he := ent_pushed f
  go_enter Try.func83, Try.ntmps83
  go_wp2_with fail
  refine (HI.out _).mono ?_
  rintro e w1 ⟨rfl, hb⟩
  go_wp2_with fail
  go_ret
  exact ⟨rfl, ((Below.refl _ _).alloc (Nat.le_refl _) _).trans (hb.mono (by simp))⟩

set_option maxRecDepth 100000 in
set_option maxHeartbeats 2000000 in
theorem Push.pairF (f g : Frm) (c : Int) (sX sA sB sXA sR : ByteArray)
    (hcv : ∀ w, (convert 5 9 (.int .u8 c)).run Try.prog w = .ok (.string sX) w)
    (hj1 : ∀ w, (Op.stringOp .add sX sA).run Try.prog w = .ok (.string sXA) w)
    (hj2 : ∀ w, (Op.stringOp .add sXA sB).run Try.prog w = .ok (.string sR) w)
    (HF : Hid (∀ w, Calls Try.prog (fnPushed f) #[raw f, .bool false] w fun e w' => e = .returned (.string sA) ∧ Below w.heap.size w w'))
    (HG : Hid (∀ w, Calls Try.prog (fnPushed g) #[raw g, .bool false] w fun e w' => e = .returned (.string sB) ∧ Below w.heap.size w w')) (w : World) :
    Calls Try.prog 87 #[.agg #[.int .u8 c, .iface (ty f) (raw f), .iface (ty g) (raw g)], .bool false] w fun e w' => e = .returned (.string sR) ∧ Below w.heap.size w w' := by
  have hmf := inv_pushed f
  have hef := ent_pushed f
  have hmg := inv_pushed g
  have heg := ent_pushed g
  go_enter Try.func87, Try.ntmps87
  go_wp2_with fail
  go_region_held3 (fun w' => w'.cell? ⟨w.heap.size, 0, none⟩ = some (.int .u8 c) ∧ w'.cell? ⟨w.heap.size, 1, none⟩ = some (.iface (ty f) (raw f)) ∧ w'.cell? ⟨w.heap.size, 2, none⟩ = some (.iface (ty g) (raw g))) ((first | (go_split_ands; (try dsimp only); (refine ⟨?_, ?_, ?_⟩ <;> (repeat (first | with_reducible assumption | ((with_reducible refine keepU ?_); (with_reducible assumption)) | (with_reducible refine keepD ?_) | ((with_reducible refine keepN ?_ ?_); (focus (simp; done)); (focus rfl)) | (with_reducible refine keepA ?_) | ((with_reducible refine keepS ?_ ?_); (focus (dsimp only; omega))) | (with_reducible refine keepB hb ?_) | (with_reducible refine keepB hb' ?_)))); done) | go_keep))
    (first
      | (with_reducible refine (HF.out _).mono ?_; rintro e w14 ⟨rfl, hb⟩; obtain ⟨hc, hf⟩ := bcell hb; have hs := hb.size; try simp only [World.size_alloc, World.size_drew] at hs)
      | (with_reducible refine (HG.out _).mono ?_; rintro e w15 ⟨rfl, hb'⟩; obtain ⟨hc', hf'⟩ := bcell hb'; have hs' := hb'.size; try simp only [World.size_alloc, World.size_drew] at hs'))
  all_goals
    go_wp2
    go_ret
    refine ⟨rfl, ?_⟩
    repeat (first | (with_reducible exact Below.refl _ _) | (with_reducible assumption) | ((with_reducible refine bS ?_ ?_); (focus (dsimp only; omega))) | ((with_reducible refine bA ?_ ?_); (focus (first | omega | (simp; done) | (simp; omega)))) | (with_reducible refine bD ?_) | ((with_reducible refine bB hb ?_ ?_); (focus (first | omega | (simp; done) | (simp; omega)))) | ((with_reducible refine bB hb' ?_ ?_); (focus (first | omega | (simp; done) | (simp; omega)))))

set_option maxRecDepth 100000 in
set_option maxHeartbeats 2000000 in
theorem Push.pairT (f g : Frm) (c c' : Int) (n2 : Bool) (sX sA sB sXA sR : ByteArray)
    (hcv : ∀ w, (convert 5 9 (.int .u8 c')).run Try.prog w = .ok (.string sX) w)
    (hj1 : ∀ w, (Op.stringOp .add sX sA).run Try.prog w = .ok (.string sXA) w)
    (hj2 : ∀ w, (Op.stringOp .add sXA sB).run Try.prog w = .ok (.string sR) w)
    (ht : (c != 94) = n2)
    (HD : Hid (∀ w, Calls Try.prog 39 #[.int .u8 c] w fun e w' => e = .returned (.int .u8 c') ∧ w = w'))
    (HF : Hid (∀ w, Calls Try.prog (fnPushed f) #[raw f, .bool true] w fun e w' => e = .returned (.string sA) ∧ Below w.heap.size w w'))
    (HG : Hid (∀ w, Calls Try.prog (fnPushed g) #[raw g, .bool n2] w fun e w' => e = .returned (.string sB) ∧ Below w.heap.size w w')) (w : World) :
    Calls Try.prog 87 #[.agg #[.int .u8 c, .iface (ty f) (raw f), .iface (ty g) (raw g)], .bool true] w fun e w' => e = .returned (.string sR) ∧ Below w.heap.size w w' := by
  have hmf := inv_pushed f
  have hef := ent_pushed f
  have hmg := inv_pushed g
  have heg := ent_pushed g
  go_enter Try.func87, Try.ntmps87
  go_wp2_with fail
  go_region_held3 (fun w' => w'.cell? ⟨w.heap.size, 0, none⟩ = some (.int .u8 c) ∧ w'.cell? ⟨w.heap.size, 1, none⟩ = some (.iface (ty f) (raw f)) ∧ w'.cell? ⟨w.heap.size, 2, none⟩ = some (.iface (ty g) (raw g))) ((first | (go_split_ands; (try dsimp only); (refine ⟨?_, ?_, ?_⟩ <;> (repeat (first | with_reducible assumption | ((with_reducible refine keepU ?_); (with_reducible assumption)) | (with_reducible refine keepD ?_) | ((with_reducible refine keepN ?_ ?_); (focus (simp; done)); (focus rfl)) | (with_reducible refine keepA ?_) | ((with_reducible refine keepS ?_ ?_); (focus (dsimp only; omega))) | (with_reducible refine keepB hb ?_) | (with_reducible refine keepB hb' ?_)))); done) | go_keep))
    (first
      | (with_reducible refine (HF.out _).mono ?_; rintro e w14 ⟨rfl, hb⟩; obtain ⟨hc, hf⟩ := bcell hb; have hs := hb.size; try simp only [World.size_alloc, World.size_drew] at hs)
      | (with_reducible refine (HG.out _).mono ?_; rintro e w15 ⟨rfl, hb'⟩; obtain ⟨hc', hf'⟩ := bcell hb'; have hs' := hb'.size; try simp only [World.size_alloc, World.size_drew] at hs')
      | (with_reducible refine (HD.out _).mono ?_; rintro e w16 ⟨rfl, rfl⟩))
  all_goals
    go_wp2
    go_ret
    refine ⟨rfl, ?_⟩
    repeat (first | (with_reducible exact Below.refl _ _) | (with_reducible assumption) | ((with_reducible refine bS ?_ ?_); (focus (dsimp only; omega))) | ((with_reducible refine bA ?_ ?_); (focus (first | omega | (simp; done) | (simp; omega)))) | (with_reducible refine bD ?_) | ((with_reducible refine bB hb ?_ ?_); (focus (first | omega | (simp; done) | (simp; omega)))) | ((with_reducible refine bB hb' ?_ ?_); (focus (first | omega | (simp; done) | (simp; omega)))))

end Go.Proofs.Ytpniefagpinbdaa
