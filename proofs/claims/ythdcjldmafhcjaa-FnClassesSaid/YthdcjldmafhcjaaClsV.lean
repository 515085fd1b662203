/-
  PermutationsOf of the model: lists of lists that are joined.
  l4Perms of the model, by what is left to choose; PermutationsOf of the model.
-/
import Derived.Test.YthdcjldmafhcjaaClsT

namespace Go.Proofs.Ythdcjldmafhcjaa
open Go.RowKit Plain
set_option linter.unusedVariables false

/-- A list of lists in a row of the call's own; the lists lie anywhere. -/
def RowsIn (w : World) (B : Nat) (v : Value) (L : List (List Int)) : Prop :=
  (∃ g cap, v = .slice (some ⟨g, 0, none⟩) L.length cap) ∧ ∃ us : List Value, us.length = L.length ∧ SlRow w B v us ∧ ∀ j, j < L.length → IntRow w 0 (us.getD j nilS) (L.getD j [])
theorem RowsIn.below {w w' : World} {B : Nat} {v : Value} {L : List (List Int)} (h : RowsIn w B v L) (hb : Below w.heap.size w w') : RowsIn w' B v L := by
  obtain ⟨h0, us, h1, h2, h3⟩ := h
  exact ⟨h0, us, h1, h2.kept (grownNone hb) (by cases hv : v.ownBlock <;> simp), fun j hj => (h3 j hj).below hb⟩
theorem RowsIn.base {w : World} {B C : Nat} {v : Value} {L : List (List Int)} (h : RowsIn w B v L) (hC : C ≤ B) : RowsIn w C v L := by
  obtain ⟨h0, us, h1, h2, h3⟩ := h
  exact ⟨h0, us, h1, h2.base hC, h3⟩
theorem RowsIn.rd {w : World} {B : Nat} {v : Value} {L : List (List Int)} (h : RowsIn w B v L) (hs : Small L) : RowsRd w v L := by
  obtain ⟨h0, us, h1, h2, h3⟩ := h
  exact h2.rd h1 hs.1 fun j hj => (h3 j hj).ints (by have := (hs.2 _ (getD_mem' (d := []) hj)).1; omega) (hs.2 _ (getD_mem' hj)).2
theorem RowsIn.empty {w : World} {B g : Nat} (hg : g = w.heap.size) (hB : B ≤ g) : RowsIn (w.alloc (.cells #[] 34)) B (.slice (some ⟨g, 0, none⟩) 0 0) [] := by
  subst hg
  exact ⟨⟨_, 0, rfl⟩, [], rfl, World.ownsRow_lit (e := 34) (size := 1) (base := B) w #[] 0 hB (by unfold maxLen; omega) rfl, fun j hj => absurd hj (by simp)⟩
theorem RowsIn.one {w : World} {B g : Nat} {ad : Option Addr} {len cap : Nat} {l : List Int} (hg : g = w.heap.size) (hB : B ≤ g) (hs : IntRow w 0 (.slice ad len cap) l) :
    RowsIn (w.alloc (.cells #[.slice ad len cap] 34)) B (.slice (some ⟨g, 0, none⟩) 1 1) [l] := by
  subst hg
  refine ⟨⟨_, 1, rfl⟩, [.slice ad len cap], rfl, ?_, fun j hj => ?_⟩
  · exact World.ownsRow_lit (e := 34) (size := 1) (base := B) w #[.slice ad len cap] 1 hB (by unfold maxLen; omega) rfl
  · obtain rfl : j = 0 := by simp at hj; omega
    exact hs.alloc _
theorem getD_app {α : Type} (l m : List α) (d : α) (j : Nat) : (j < l.length ∧ (l ++ m).getD j d = l.getD j d) ∨ (l.length ≤ j ∧ (l ++ m).getD j d = m.getD (j - l.length) d) := by
  rcases Nat.lt_or_ge j l.length with h | h
  · exact .inl ⟨h, by simp [List.getD_eq_getElem?_getD, List.getElem?_append_left h]⟩
  · exact .inr ⟨h, by simp [List.getD_eq_getElem?_getD, List.getElem?_append_right h]⟩

/-- The lists of a list of lists are appended to another. -/
theorem wp_rows {ops : Array Oper} {rest : List Oper} {o : Oper} {a : Act} {Q : Exit → Act → World → Prop} (hgd : o.guard = none) (s x : Operand)
    (ho : o.op = .call { callee := .builtin .append, args := #[s, x], argTypes := #[30, 30] })
    (B C : Nat) (w wr : World) (v u : Value) (L M : List (List Int)) (hown : RowsIn wr B v L) (hu : RowsIn wr C u M) (hb : Below B w wr) (hB : B ≤ wr.heap.size) (hlen : L.length ≤ 10000) (hlen2 : M.length ≤ 10000)
    (hs : a.eval s = v) (hx : a.eval x = u)
    (h : ∀ v' w1, RowsIn w1 B v' (L ++ M) → Below B w w1 → wpList Try.prog ops Q rest (a.put o.dst v') w1) :
    wpList Try.prog ops Q (o :: rest) a wr := by
  obtain ⟨⟨g, cap, rfl⟩, us, h1, h2, h3⟩ := hown
  obtain ⟨⟨g2, cap2, rfl⟩, us2, k1, k2, k3⟩ := hu
  obtain ⟨i0, hi, hz0, hz1, hz2⟩ := info_parts Try.infoSl
  refine wpList_append_own _ hgd s x 30 ho B 34 i0 (.slice none 0 0) 1 24 Try.underlying30 hi hz0 hz1 hz2 rfl (by decide) _ us.length us hs h2 ⟨g2, 0, none⟩ M.length cap2 us2 hx (by omega) ?_ ?_ ?_ ?_ hB ?_
  · intro j u hj
    have hj2 : j < us2.length := by
      rcases Nat.lt_or_ge j us2.length with h | h
      · exact h
      · rw [List.getElem?_eq_none h] at hj; cases hj
    have hc := World.ownsRow.cellAt (k1 ▸ k2 : SlRow wr C (.slice (some ⟨g2, 0, none⟩) us2.length cap2) us2) j (by omega)
    rw [show (⟨g2, 0, none⟩ : Addr).add j = ⟨g2, j, none⟩ by simp [Addr.add]; omega, hc, hj]
  · intro u hu
    obtain ⟨j, hj, rfl⟩ := List.mem_iff_getElem.1 hu
    have hr := k3 j (by omega)
    rw [List.getD_eq_getElem?_getD, List.getElem?_eq_getElem hj] at hr
    rcases hr.shape with ⟨e, _⟩ | ⟨_, _, e, _⟩
    · simp only [Option.getD_some] at e; rw [e]; rfl
    · simp only [Option.getD_some] at e; rw [e]; rfl
  · unfold maxLen; omega
  · omega
  · intro v' w1 g1 hg h4
    have hap : ∀ (v : Value) (l : List Int), IntRow wr 0 v l → IntRow w1 0 v l := fun v l hv => hv.kept hg (apart h2 hv)
    refine h v' w1 ⟨?_, us ++ us2, by simp [h1, k1], ?_, ?_⟩ (hb.grown hg hB (fun j hj => (h2.lt j hj).1))
    · rcases g1.2 with ⟨e, _⟩ | ⟨g', cap', _, e, _⟩
      · cases (h4.1 e).1
      · exact ⟨g', cap', by rw [e, List.length_append, h1]⟩
    · unfold SlRow
      rw [List.length_append, k1]
      exact g1
    · intro j hj
      rw [List.length_append] at hj
      rcases getD_app L M [] j with ⟨q1, q2⟩ | ⟨q1, q2⟩
      · rcases getD_app us us2 nilS j with ⟨p1, p2⟩ | ⟨p1, p2⟩
        · rw [q2, p2]; exact hap _ _ (h3 j q1)
        · omega
      · rcases getD_app us us2 nilS j with ⟨p1, p2⟩ | ⟨p1, p2⟩
        · omega
        · rw [q2, p2, h1]; exact hap _ _ (k3 _ (by omega))

/-- Ints that are read are appended to a row of ints of the call's own. -/
theorem wp_copy {ops : Array Oper} {rest : List Oper} {o : Oper} {a : Act} {Q : Exit → Act → World → Prop} (hgd : o.guard = none) (s x : Operand)
    (ho : o.op = .call { callee := .builtin .append, args := #[s, x], argTypes := #[34, 34] })
    (B C : Nat) (w wr : World) (v : Value) (l news : List Int) (g cap : Nat) (hown : IntRow wr B v l) (hu : IntRow wr C (.slice (some ⟨g, 0, none⟩) news.length cap) news) (hb : Below B w wr) (hB : B ≤ wr.heap.size) (hlen : l.length ≤ 10000) (hlen2 : news.length ≤ 10000)
    (hs : a.eval s = v) (hx : a.eval x = .slice (some ⟨g, 0, none⟩) news.length cap)
    (h : ∀ v' w1, IntRow w1 B v' (l ++ news) → Below B w w1 → wpList Try.prog ops Q rest (a.put o.dst v') w1) :
    wpList Try.prog ops Q (o :: rest) a wr := by
  obtain ⟨i0, hi, hz0, hz1, hz2⟩ := info_parts Try.infoInt
  refine wpList_append_own _ hgd s x 34 ho B 3 i0 (.int .i64 0) 1 8 Try.underlying34 hi hz0 hz1 hz2 rfl (by decide) _ l.length (intsV l) hs hown ⟨g, 0, none⟩ news.length cap (intsV news) hx (by simp [intsV]) ?_ ?_ ?_ ?_ hB ?_
  · intro j u hj
    have hj2 : j < news.length := by
      rcases Nat.lt_or_ge j news.length with h | h
      · exact h
      · simp [intsV, List.getElem?_eq_none h] at hj
    have hc := World.ownsRow.cellAt hu j (by omega)
    rw [show (⟨g, 0, none⟩ : Addr).add j = ⟨g, j, none⟩ by simp [Addr.add]; omega, hc, hj]
  · intro u hu
    simp only [intsV, List.mem_map] at hu
    obtain ⟨y, _, rfl⟩ := hu
    rfl
  · unfold maxLen; omega
  · omega
  · intro v' w1 g1 hg _
    refine h v' w1 ?_ (hb.grown hg hB (fun j hj => (World.ownsRow.lt hown j hj).1))
    unfold IntRow
    rw [List.length_append, show intsV (l ++ news) = intsV l ++ intsV news by simp [intsV]]
    exact g1

end Go.Proofs.Ythdcjldmafhcjaa

namespace Go.Proofs.Ythdcjldmafhcjaa
open Go.RowKit Plain
set_option linter.unusedVariables false

def Plain.nextM (n k : Nat) (p : List Int) (x : Nat) : List (List Int) := if p.contains (x : Int) then [] else permsM n k (p ++ [(x : Int)])
def Plain.frontM (n k : Nat) (p : List Int) (y : Nat) : List (List Int) := (List.range y).flatMap (nextM n k p)
theorem front_succ (n k : Nat) (p : List Int) (y : Nat) : frontM n k p (y + 1) = frontM n k p y ++ nextM n k p y := by
  unfold frontM; rw [List.range_succ, List.flatMap_append]; simp
theorem front_all (n k : Nat) (p : List Int) : frontM n k p n = permsM n (k + 1) p := rfl
theorem lenM (n : Nat) (hn : n ≤ 4) : ∀ k p, (permsM n k p).length ≤ 4 ^ k := by
  intro k
  induction k with
  | zero => intro p; exact Nat.le_refl _
  | succ k ih =>
    intro p
    rw [← front_all]
    have : ∀ y, (frontM n k p y).length ≤ y * 4 ^ k := by
      intro y
      induction y with
      | zero => simp [frontM]
      | succ y ihy =>
        have h1 : (nextM n k p y).length ≤ 4 ^ k := by
          unfold nextM; split
          · exact Nat.zero_le _
          · exact ih _
        rw [front_succ, List.length_append, Nat.succ_mul]
        omega
    have h2 : n * 4 ^ k ≤ 4 * 4 ^ k := Nat.mul_le_mul_right _ hn
    rw [Nat.pow_succ]
    have := this n
    omega
theorem lenF (n : Nat) (hn : n ≤ 4) (k y : Nat) (p : List Int) (hk : k ≤ 4) (hy : y ≤ 4) : (frontM n k p y).length ≤ 1024 := by
  have : ∀ y, (frontM n k p y).length ≤ y * 256 := by
    intro y
    induction y with
    | zero => simp [frontM]
    | succ y ihy =>
      have h1 : (nextM n k p y).length ≤ 256 := by
        unfold nextM; split
        · exact Nat.zero_le _
        · have h := lenM n hn k (p ++ [(y : Int)])
          have h2 : 4 ^ k ≤ 4 ^ 4 := Nat.pow_le_pow_right (by decide) hk
          omega
      rw [front_succ, List.length_append, Nat.succ_mul]
      omega
  have := this y
  omega
theorem has_take (p : List Int) (k : Nat) (x : Int) (h : k < p.length) : (p.take (k + 1)).contains x = ((p.take k).contains x || (p.getD k 0 == x)) := by
  rw [List.take_succ_eq_append_getElem h, List.getD_eq_getElem?_getD, List.getElem?_eq_getElem h]
  simp only [List.contains_eq_any_beq, List.any_append, List.any_cons, List.any_nil, Bool.or_false, Option.getD_some]
  congr 1
  exact Bool.beq_comm

set_option maxRecDepth 100000 in
theorem Perm.last (n : Nat) (hn : n ≤ 4) (p : List Int) (g cap : Nat) (hp : p.length = n) (w : World) (h : IntRow w 0 (.slice (some ⟨g, 0, none⟩) p.length cap) p) :
    Calls Try.prog 69 #[.int .i64 n, .slice (some ⟨g, 0, none⟩) p.length cap] w fun e w' => (∃ v, e = .returned v ∧ RowsIn w' w.heap.size v [p]) ∧ Below w.heap.size w w' := by
  have HO := Lib.hid (RowsIn.one (B := w.heap.size) rfl (Nat.le_refl _) h)
  have hnz : (p.length : Int) = (n : Int) := by omega
  clear h hp hn
  go_enter Try.func69, Try.ntmps69
  go_wp2
  go_ret
  exact ⟨⟨_, rfl, HO.out⟩, (Below.refl _ _).alloc (Nat.le_refl _) _⟩

set_option maxRecDepth 100000 in
set_option maxHeartbeats 1000000 in
theorem Perm.more (n : Nat) (hn : n ≤ 4) (k : Nat) (ih : ∀ (p : List Int) (g cap : Nat), p.length + k = n → (∀ e ∈ p, 0 ≤ e ∧ e ≤ 1000) → ∀ w, IntRow w 0 (.slice (some ⟨g, 0, none⟩) p.length cap) p →
      Calls Try.prog 69 #[.int .i64 n, .slice (some ⟨g, 0, none⟩) p.length cap] w fun e w' => (∃ v, e = .returned v ∧ RowsIn w' w.heap.size v (permsM n k p)) ∧ Below w.heap.size w w')
    (p : List Int) (g cap : Nat) (hp : p.length + (k + 1) = n) (hs : ∀ e ∈ p, 0 ≤ e ∧ e ≤ 1000) (w : World) (h : IntRow w 0 (.slice (some ⟨g, 0, none⟩) p.length cap) p) :
    Calls Try.prog 69 #[.int .i64 n, .slice (some ⟨g, 0, none⟩) p.length cap] w fun e w' => (∃ v, e = .returned v ∧ RowsIn w' w.heap.size v (permsM n (k + 1) p)) ∧ Below w.heap.size w w' := by
  have HIH := Lib.hid ih
  have HS := Lib.hid hs
  have HP := Lib.hid hp
  have HROW := Lib.hid h
  have hnz : (n : Int) ≤ 4 := by omega
  have hpz : (p.length : Int) < (n : Int) := by omega
  have HN := Lib.hid hn
  have HE := Lib.hid (RowsIn.empty (w := w) (B := w.heap.size) rfl (Nat.le_refl _))
  have hne : ((p.length : Int) == (n : Int)) = false := by simp; omega
  clear ih hs hp h hn
  go_enter Try.func69, Try.ntmps69
  go_wp2
  go_loopw [5, 6, 7, 8] (fun v x _ _ wr => ∃ y : Nat, x = .int .i64 (y : Int) ∧ y ≤ n ∧ RowsIn wr w.heap.size v (frontM n k p y) ∧ Below w.heap.size w wr) (fun _ x _ _ _ => n - (intOf x).toNat)
  case atStart => exact ⟨0, rfl, by omega, HE.out, (Below.refl _ _).alloc (Nat.le_refl _) _⟩
  case round =>
    obtain ⟨y, rfl, hy, hown, hbel⟩ := hrel
    have HOWN := Lib.hid hown
    have HBEL := Lib.hid hbel
    have hwr := hbel.size
    clear hown hbel
    by_cases hlt : y < n
    · have hyz : (y : Int) < (n : Int) := by omega
      have HY := Lib.hid hlt
      have HROWr := Lib.hid (HROW.out.below (w' := wr) (HBEL.out))
      go_wp2
      obtain ⟨wo, rfl⟩ : ∃ wo : World, wo = wr := ⟨_, rfl⟩
      go_loopw [7, 8] (fun u i wr => ∃ j q : Nat, i = .int .i64 (j : Int) ∧ j ≤ p.length ∧ u = .bool ((p.take j).contains (y : Int)) ∧ wr = wo.drewN q) (fun _ i _ => p.length - (intOf i).toNat)
      case atStart => exact ⟨0, 0, rfl, by omega, by simp, rfl⟩
      case round =>
        obtain ⟨j, q, rfl, hj, rfl, rfl⟩ := hrel
        by_cases hlt2 : j < p.length
        · have hcp : wo.cell? ⟨g, j, none⟩ = some (.int .i64 (p.getD j 0)) := HROWr.out.cell j hlt2
          have HT := Lib.hid (has_take p j (y : Int) hlt2)
          have hm := HS.out _ (getD_mem hlt2)
          have hjz : (j : Int) < (p.length : Int) := by omega
          generalize p.getD j 0 = z at hcp HT hm
          generalize (p.take j).contains (y : Int) = c at HT ⊢
          cases c with
          | true =>
            go_wp2
            go_roundw
            case rel => exact ⟨j + 1, _, by go_num, by omega, by rw [HT.out]; rfl, rfl⟩
            case measure => simp [intOf] <;> omega
          | false =>
            go_wp2
            go_roundw
            case rel => exact ⟨j + 1, _, by go_num, by omega, by rw [HT.out]; simp, rfl⟩
            case measure => simp [intOf] <;> omega
        · obtain rfl : j = p.length := by omega
          rw [List.take_length]
          have hbq : Below wo.heap.size wo (wo.drewN q) := below_drewN (Below.refl _ _) q
          have HROW2 := Lib.hid (HROWr.out.below hbq)
          have HOWN2 := Lib.hid (HOWN.out.below hbq)
          have HB2 : Hid (Below w.heap.size w (wo.drewN q)) := Lib.hid (below_drewN HBEL.out q)
          have hwq : w.heap.size ≤ (wo.drewN q).heap.size := HB2.out.size
          have HF := Lib.hid (front_succ n k p y)
          clear hbq HROWr HOWN HBEL HROW hwr
          generalize wo.drewN q = W2 at HROW2 HOWN2 HB2 hwq ⊢
          cases hc : p.contains (y : Int) with
          | true =>
            have HX : Hid (nextM n k p y = []) := Lib.hid (by unfold nextM; rw [if_pos hc])
            clear hc
            go_wp2
            go_roundw
            case rel => exact ⟨y + 1, by go_num, by have := HY.out; omega, by rw [HF.out, HX.out, List.append_nil]; exact HOWN2.out, HB2.out⟩
            case measure => simp [intOf] <;> omega
          | false =>
            have HX : Hid (nextM n k p y = permsM n k (p ++ [(y : Int)])) := Lib.hid (by unfold nextM; rw [if_neg (by rw [hc]; decide)])
            have HL : Hid (IntRow (W2.alloc (.cells #[] 3)) W2.heap.size (.slice (some ⟨W2.heap.size, 0, none⟩) 0 0) []) := Lib.hid (rowLit W2 W2.heap.size W2.heap.size [] rfl (Nat.le_refl _) (by simp)).1
            have HA : Hid (Below W2.heap.size W2 (W2.alloc (.cells #[] 3))) := Lib.hid ((Below.refl _ _).alloc (Nat.le_refl _) _)
            have HLEN : Hid ((frontM n k p y).length ≤ 10000 ∧ (permsM n k (p ++ [(y : Int)])).length ≤ 10000 ∧ p.length ≤ 4 ∧ k ≤ 4) := Lib.hid (by
              have h1 := HP.out
              have h2 := HN.out
              have h3 := HY.out
              have h4 := lenF n h2 k y p (by omega) (by omega)
              have h5 := lenM n h2 k (p ++ [(y : Int)])
              have h6 : 4 ^ k ≤ 4 ^ 4 := Nat.pow_le_pow_right (by decide) (by omega)
              exact ⟨by omega, by omega, by omega, by omega⟩)
            clear hc
            go_wp2_with (first
              | (at_builtin; (refine wp_copy rfl _ _ rfl W2.heap.size 0 W2 (W2.alloc (.cells #[] 3)) _ [] p g cap HL.out (HROW2.out.alloc _) HA.out (by simp) (by simp) (by have := HLEN.out; omega) rfl rfl ?_; intro v1 w1 hrow1 hbel1))
              | (at_builtin; (refine wp_int rfl _ _ rfl W2.heap.size W2 w1 v1 ([] ++ p) (y : Int) _ hrow1 hbel1 hbel1.size (by have := HLEN.out; simp; omega) rfl rfl rfl ?_; intro v2 w2 hrow2 hbel2 hg2))
              | fail)
            obtain ⟨g2, cap2, rfl⟩ : ∃ g2 cap2, v2 = .slice (some ⟨g2, 0, none⟩) (p ++ [(y : Int)]).length cap2 := by
              rcases hrow2.shape with ⟨_, h⟩ | ⟨g2, cap2, h, _⟩
              · simp at h
              · exact ⟨g2, cap2, by simpa using h⟩
            have hrow3 : IntRow w2 0 (.slice (some ⟨g2, 0, none⟩) (p ++ [(y : Int)]).length cap2) (p ++ [(y : Int)]) := by
              rw [List.nil_append] at hrow2
              exact hrow2.base (Nat.zero_le _)
            have HROW3 := Lib.hid hrow3
            have HB3 := Lib.hid hbel2
            clear hrow1 hbel1 hg2 hrow2 hbel2 hrow3
            refine (HIH.out (p ++ [(y : Int)]) g2 cap2 (by have := HP.out; simp; omega) ?_ _ HROW3.out).mono ?_
            · intro e he
              rcases List.mem_append.1 he with he | he
              · exact HS.out e he
              · have := List.mem_singleton.1 he
                have := HN.out
                have := HY.out
                omega
            rintro e w3 ⟨⟨v3, rfl, hown3⟩, hb3⟩
            have hbb := bstep HB3.out hb3
            have HOWN3 := Lib.hid (HOWN2.out.below hbb)
            have HR3 := Lib.hid hown3
            have HB4 := Lib.hid (bstep HB2.out hbb)
            clear hown3 hb3 hbb
            go_wp2_with (first
              | (at_builtin; go_must (refine wp_rows rfl _ _ rfl w.heap.size w2.heap.size w w3 _ v3 _ _ HOWN3.out HR3.out HB4.out HB4.out.size HLEN.out.1 HLEN.out.2.1 rfl rfl ?_; intro v4 w4 hown4 hbel4))
              | fail)
            go_roundw
            case rel => exact ⟨y + 1, by go_num, by have := HY.out; omega, by rw [HF.out, HX.out]; exact hown4, hbel4⟩
            case measure => simp [intOf] <;> omega
    · obtain rfl : y = n := by omega
      rw [front_all] at HOWN
      go_wp2
      go_ret
      exact ⟨⟨_, rfl, HOWN.out⟩, HBEL.out⟩

theorem Perm.model_any (n : Nat) (hn : n ≤ 4) : ∀ (k : Nat) (p : List Int) (g cap : Nat), p.length + k = n → (∀ e ∈ p, 0 ≤ e ∧ e ≤ 1000) → ∀ w, IntRow w 0 (.slice (some ⟨g, 0, none⟩) p.length cap) p →
      Calls Try.prog 69 #[.int .i64 n, .slice (some ⟨g, 0, none⟩) p.length cap] w fun e w' => (∃ v, e = .returned v ∧ RowsIn w' w.heap.size v (permsM n k p)) ∧ Below w.heap.size w w' := by
  intro k
  induction k with
  | zero => exact fun p g cap hp _ w h => Perm.last n hn p g cap (by omega) w h
  | succ k ih => exact fun p g cap hp hs w h => Perm.more n hn k ih p g cap hp hs w h

/-- All orders, from an empty row. -/
theorem Perm.model_in (n : Nat) (hn : n ≤ 4) (g cap : Nat) (w : World) (h : IntRow w 0 (.slice (some ⟨g, 0, none⟩) 0 cap) []) :
    Calls Try.prog 69 #[.int .i64 n, .slice (some ⟨g, 0, none⟩) 0 cap] w fun e w' => (∃ v, e = .returned v ∧ RowsIn w' w.heap.size v (permsL n)) ∧ Below w.heap.size w w' := by
  have := Perm.model_any n hn n [] g cap (by simp) (by simp) w h
  rwa [perms_same n hn] at this

end Go.Proofs.Ythdcjldmafhcjaa
