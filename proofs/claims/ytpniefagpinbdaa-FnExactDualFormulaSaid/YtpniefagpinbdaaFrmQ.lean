/-
  Chapter 5: pushing negations down, of the program and of its model; IsFormula of what comes out.
-/
import Derived.Test.YtpniefagpinbdaaFrmM
import Derived.Laws.DeepStrings4
namespace Go.Proofs.Ytpniefagpinbdaa
open Go.RowKit Plain Go.Shelf
set_option linter.unusedVariables false

/-- Pushing negations down, of the program. -/
theorem Push.any (f : Frm) : (txt f).length ≤ 60 → ∀ (n : Bool) (w : World), Calls Try.prog (fnPushed f) #[raw f, .bool n] w fun e w' => e = .returned (.string ⟨(txt (push n f)).toArray⟩) ∧ Below w.heap.size w w' := by
  induction f with
  | con b => exact fun _ n w => Push.con b n w
  | var i => exact fun _ n w => Push.var i n w
  | neg f ih => exact fun h n w => Push.neg f n _ (Lib.hid (ih (by simp [txt] at h; omega) (!n))) w
  | bin o f g ihf ihg =>
    intro h n w
    have h1 : (txt f).length ≤ 60 := by simp [txt] at h; omega
    have h2 : (txt g).length ≤ 60 := by simp [txt] at h; omega
    have l1 := push_len n f
    have l2 := push_len (o.snd n) g
    have hc : ∀ o : Bop, o.code = 38 ∨ o.code = 124 ∨ o.code = 94 ∨ o.code = 48 ∨ o.code = 49 := by intro o; cases o <;> decide
    have j1 := join_txt [(o.neg n).code] (txt (push n f)) (by simp; omega)
    have j2 := join_txt ([(o.neg n).code] ++ txt (push n f)) (txt (push (o.snd n) g)) (by simp; omega)
    cases n with
    | false =>
      have e1 : o.neg false = o := by cases o <;> rfl
      have e2 : o.snd false = false := by cases o <;> rfl
      have := Push.pairF f g (o.code.toNat : Int) _ _ _ _ _ (byte_txt o.code (hc o)) (by rw [e1] at j1; exact j1) (by rw [e1, e2] at j2; exact j2) (Lib.hid (ihf h1 false)) (Lib.hid (ihg h2 false)) w
      show Calls _ _ _ _ (fun e w' => e = .returned (.string ⟨((o.neg false).code :: (txt (push false f) ++ txt (push (o.snd false) g))).toArray⟩) ∧ _)
      rw [e1, e2]
      exact this
    | true =>
      have e3 : dualC o.code = (o.neg true).code := by cases o <;> decide
      have e4 : ((o.code.toNat : Int) != 94) = o.snd true := by cases o <;> decide
      have HD := Dual.any o.code
      rw [e3] at HD
      exact Push.pairT f g (o.code.toNat : Int) ((o.neg true).code.toNat : Int) (o.snd true) _ _ _ _ _ (byte_txt (o.neg true).code (hc _)) j1 j2 e4 (Lib.hid HD) (Lib.hid (ihf h1 true)) (Lib.hid (ihg h2 (o.snd true))) w

theorem one_at (s : ByteArray) (k : Nat) (h : k < s.size) : s.extract k (k + 1) = ⟨#[s[k]]⟩ := by
  have e := Lib.extract_data s k (k + 1)
  have hd := lst_drop s k h
  unfold lst at hd
  rw [hd, Nat.add_sub_cancel_left] at e
  have e2 := ba_lst (s.extract k (k + 1))
  unfold lst at e2
  rw [← e2, e]
  rfl

theorem one_text_at (s : ByteArray) (k : Nat) (h : k < s.size) (w : World) :
    (Instr.slice 9 (.string s) (some (.int .i64 (k : Int))) (some (.int .i64 ((k : Int) + 1))) none).run Try.prog w = .ok (.string ⟨#[s[k]]⟩) w := by
  rw [run_slice_string_if (h := Try.underlying9), if_pos (by omega), if_pos (by omega), ← one_at s k h]
  rfl


set_option maxRecDepth 100000 in
set_option maxHeartbeats 2000000 in
theorem Push.model (s : ByteArray) (hs : (s.size : Int) ≤ 60) (f : Frm) : ∀ (n : Bool) (k : Nat) (w : World), At s k f →
    Calls Try.prog 36 #[.string s, .int .i64 (k : Int), .bool n] w fun e w' => e = .returned (.string ⟨(txt (push n f)).toArray⟩) ∧ w = w' := by
  induction f with
  | con b =>
    intro n k w h
    obtain ⟨hlt, hc⟩ := h.con
    cases b
    case false =>
      have q := num_48 hc
      clear h hc
      cases n
      all_goals
        go_enter Try.func36, Try.ntmps36
        go_wp2_with fail
        go_ret
        exact ⟨rfl, rfl⟩
    case true =>
      have q := num_49 hc
      clear h hc
      cases n
      all_goals
        go_enter Try.func36, Try.ntmps36
        go_wp2_with fail
        go_ret
        exact ⟨rfl, rfl⟩
  | var i =>
    intro n k w h
    obtain ⟨hlt, hc⟩ := h.var
    have hsl := one_text_at s k hlt
    rw [hc] at hsl
    have hj : ∀ (c : UInt8) w, (Op.stringOp .add ⟨#[33]⟩ ⟨#[c]⟩).run Try.prog w = .ok (.string ⟨#[33, c]⟩) w := fun c w => join_txt [33] [c] (by simp) w
    rcases letter_cases i with rfl | rfl | rfl | rfl | rfl
    all_goals
      first | have q := num_97 hc | have q := num_98 hc | have q := num_99 hc | have q := num_100 hc | have q := num_101 hc
      clear h hc
      cases n
      all_goals
        go_enter Try.func36, Try.ntmps36
        go_wp2_with fail
        go_ret
        exact ⟨rfl, rfl⟩
  | neg f ih =>
    intro n k w h
    obtain ⟨hlt, hc⟩ := h.mark
    have q := num_33 hc
    have IH : ∀ w, Calls Try.prog 36 #[.string s, .int .i64 ((k : Int) + 1), .bool (!n)] w fun e w' => e = .returned (.string ⟨(txt (push (!n) f)).toArray⟩) ∧ w = w' := fun w => ih (!n) (k + 1) w h.neg
    have HI := Lib.hid IH
    show Calls _ _ _ _ (fun e w' => e = .returned (.string ⟨(txt (push (!n) f)).toArray⟩) ∧ _)
    clear h hc IH ih
    generalize (⟨(txt (push (!n) f)).toArray⟩ : ByteArray) = r at *
    go_enter Try.func36, Try.ntmps36
    go_wp2_with fail
    refine (HI.out _).mono ?_
    rintro e w1 ⟨rfl, rfl⟩
    go_wp2_with fail
    go_ret
    exact ⟨rfl, rfl⟩
  | bin o f g ihf ihg =>
    intro n k w h
    obtain ⟨hlt, hc⟩ := h.code
    have hl := h.len
    have l1 := push_len n f
    have l2 := push_len (o.snd n) g
    have l3 := h.fst.len
    have l4 := h.snd.len
    have j1 := join_txt [(o.neg n).code] (txt (push n f)) (by simp; omega)
    have j2 := join_txt ([(o.neg n).code] ++ txt (push n f)) (txt (push (o.snd n) g)) (by simp; omega)
    have IHF : ∀ w, Calls Try.prog 36 #[.string s, .int .i64 ((k : Int) + 1), .bool n] w fun e w' => e = .returned (.string ⟨(txt (push n f)).toArray⟩) ∧ w = w' := fun w => ihf n (k + 1) w h.fst
    have IHE : ∀ w, Calls Try.prog 28 #[.string s, .int .i64 ((k : Int) + 1)] w fun e w' => e = .returned (.int .i64 ((k + 1 + (txt f).length : Nat) : Int)) ∧ w = w' := fun w => by
      have := End.any s hs s.size (k + 1) w (by omega) hlt
      rw [h.fst.endZ] at this
      exact this
    have IHG := fun w => ihg (o.snd n) (k + 1 + (txt f).length) w h.snd
    show Calls _ _ _ _ (fun e w' => e = .returned (.string ⟨([(o.neg n).code] ++ txt (push n f) ++ txt (push (o.snd n) g)).toArray⟩) ∧ _)
    generalize k + 1 + (txt f).length = j at IHE IHG
    have hq : ((s[k].toNat : Int) = 38 ∧ n = false ∧ (o.neg n).code = 38 ∧ o.snd n = false) ∨ ((s[k].toNat : Int) = 38 ∧ n = true ∧ (o.neg n).code = 124 ∧ o.snd n = true) ∨
        ((s[k].toNat : Int) = 124 ∧ n = false ∧ (o.neg n).code = 124 ∧ o.snd n = false) ∨ ((s[k].toNat : Int) = 124 ∧ n = true ∧ (o.neg n).code = 38 ∧ o.snd n = true) ∨
        ((s[k].toNat : Int) = 94 ∧ n = false ∧ (o.neg n).code = 94 ∧ o.snd n = false) ∨ ((s[k].toNat : Int) = 94 ∧ n = true ∧ (o.neg n).code = 94 ∧ o.snd n = false) := by
      rw [hc]; cases o <;> cases n <;> decide
    generalize (⟨([(o.neg n).code] ++ txt (push n f) ++ txt (push (o.snd n) g)).toArray⟩ : ByteArray) = sR at *
    generalize (⟨([(o.neg n).code] ++ txt (push n f)).toArray⟩ : ByteArray) = sXA at *
    generalize (⟨(txt (push n f)).toArray⟩ : ByteArray) = sA at *
    generalize (⟨(txt (push (o.snd n) g)).toArray⟩ : ByteArray) = sB at *
    generalize (o.neg n).code = d at *
    generalize o.snd n = n2 at *
    have HF := Lib.hid IHF
    have HE := Lib.hid IHE
    have HG := Lib.hid IHG
    replace j1 : ∀ w, (Op.stringOp .add ⟨#[d]⟩ sA).run Try.prog w = .ok (.string sXA) w := j1
    clear h ihf ihg IHF IHE IHG hl l1 l2 l3 l4 hc
    rcases hq with ⟨q, rfl, rfl, rfl⟩ | ⟨q, rfl, rfl, rfl⟩ | ⟨q, rfl, rfl, rfl⟩ | ⟨q, rfl, rfl, rfl⟩ | ⟨q, rfl, rfl, rfl⟩ | ⟨q, rfl, rfl, rfl⟩
    all_goals
      go_enter Try.func36, Try.ntmps36
      go_wp2_with fail
      refine (HF.out _).mono ?_
      rintro e w1 ⟨rfl, rfl⟩
      go_wp2_with fail
      refine (HE.out _).mono ?_
      rintro e w1 ⟨rfl, rfl⟩
      go_wp2_with fail
      refine (HG.out _).mono ?_
      rintro e w1 ⟨rfl, rfl⟩
      go_wp2_with fail
      go_ret
      exact ⟨rfl, rfl⟩


end Go.Proofs.Ytpniefagpinbdaa
