/-
  Minimal sums, of the program and of its model.
-/
import Derived.Test.YtkamopckpmiioaaTrmE

namespace Go.Proofs.Ytkamopckpmiioaa
open Go.RowKit Plain
set_option linter.unusedVariables false

/-- What a search answers. -/
def OptOut (o : Option (List Tm)) (w : World) (e : Ending) (w' : World) : Prop := TmOut (tiL (o.getD [])) o.isSome w e w'

theorem dropT {L : List Tm} {k : Nat} (h : k < L.length) : L.drop k = L.getD k (0, 0) :: L.drop (k + 1) := by
  rw [List.drop_eq_getElem_cons h]; congr 1
  rw [List.getD_eq_getElem?_getD, List.getElem?_eq_getElem h]; rfl
theorem tiL_drop (L : List Tm) (k : Nat) : (tiL L).drop k = tiL (L.drop k) := by unfold tiL; rw [List.map_drop]
theorem wordsL_drop (n : Nat) (L : List Tm) (k : Nat) : (wordsL n L).drop k = wordsL n (L.drop k) := by unfold wordsL; rw [List.map_drop]
theorem firstC_hit {n : Nat} {L : List Tm} {k c left : Nat} {r : List Tm} (h : k < L.length) (hr : firstC (wT n) (L.drop (k + 1)) c (cutN left (wT n (L.getD k (0, 0)))) = some r) :
    firstC (wT n) (L.drop k) (c + 1) left = some (L.getD k (0, 0) :: r) := by rw [dropT h, firstC_cons, hr]
theorem firstC_miss {n : Nat} {L : List Tm} {k c left : Nat} (h : k < L.length) (hr : firstC (wT n) (L.drop (k + 1)) c (cutN left (wT n (L.getD k (0, 0)))) = none) :
    firstC (wT n) (L.drop k) (c + 1) left = firstC (wT n) (L.drop (k + 1)) (c + 1) left := by rw [dropT h, firstC_cons, hr]

/-- What is left of a slice of terms, of words, behind the first k. -/
theorem slice_terms (b off len cap k : Nat) (hk : k ≤ len) (hc : len ≤ cap) : ∃ A, (len - k = 0 ∨ A = some ⟨b, off + k * 2, none⟩) ∧ ∀ w', (Instr.slice 41 (.slice (some ⟨b, off, none⟩) len cap) (some (.int .i64 (k : Int))) none none).run Try.prog w' = .ok (.slice A (len - k) (cap - k)) w' := by
  have hadd : (⟨b, off, none⟩ : Addr).add (k * 2) = ⟨b, off + k * 2, none⟩ := by unfold Addr.add; split <;> simp_all
  refine ⟨if cap = k then some ⟨b, off, none⟩ else some ⟨b, off + k * 2, none⟩, ?_, fun w' => ?_⟩
  · by_cases h : cap = k
    · exact .inl (by omega)
    · exact .inr (if_neg h)
  · rw [run_slice_l (P := Try.prog) w' 41 (some ⟨b, off, none⟩) len cap (by kernel_rfl) .i64 (k : Int) (by omega) (by omega)]
    have hs : (sizeOf (Try.prog.elem 41)).run Try.prog w' = .ok 2 w' := by kernel_rfl
    rw [hs]
    simp [Result.andThen, sliced, hadd]
theorem slice_words (b off len cap k : Nat) (hk : k ≤ len) (hc : len ≤ cap) : ∃ A, (len - k = 0 ∨ A = some ⟨b, off + k, none⟩) ∧ ∀ w', (Instr.slice 87 (.slice (some ⟨b, off, none⟩) len cap) (some (.int .i64 (k : Int))) none none).run Try.prog w' = .ok (.slice A (len - k) (cap - k)) w' := by
  have hadd : (⟨b, off, none⟩ : Addr).add (k * 1) = ⟨b, off + k, none⟩ := by unfold Addr.add; split <;> simp_all
  refine ⟨if cap = k then some ⟨b, off, none⟩ else some ⟨b, off + k, none⟩, ?_, fun w' => ?_⟩
  · by_cases h : cap = k
    · exact .inl (by omega)
    · exact .inr (if_neg h)
  · rw [run_slice_l (P := Try.prog) w' 87 (some ⟨b, off, none⟩) len cap (by kernel_rfl) .i64 (k : Int) (by omega) (by omega)]
    have hs : (sizeOf (Try.prog.elem 87)).run Try.prog w' = .ok 1 w' := by kernel_rfl
    rw [hs]
    rw [Nat.mul_one] at hadd
    simp [Result.andThen, sliced, hadd]
theorem TmsIn.rest {w : World} {b off cap : Nat} {l : List Ti} {A : Option Addr} (h : TmsIn w (.slice (some ⟨b, off, none⟩) l.length cap) l) (k : Nat) (hk : k ≤ l.length) (hA : l.length - k = 0 ∨ A = some ⟨b, off + k * 2, none⟩) : TmsIn w (.slice A (l.length - k) (cap - k)) (l.drop k) := by
  rcases hA with h0 | rfl
  · obtain ⟨a, cap', e, h1, h1a, h1b, h2, h3⟩ := h
    simp only [Value.slice.injEq, true_and] at e
    obtain ⟨rfl, rfl⟩ := e
    exact ⟨A, cap - k, by rw [List.length_drop], by rw [List.length_drop]; omega, by rw [List.length_drop]; omega, by omega, fun t ht => h2 t (List.mem_of_mem_drop ht), fun h => absurd h (by rw [List.length_drop]; omega)⟩
  · exact h.drop k hk
theorem WdIn.rest {w : World} {b off cap : Nat} {l : List Nat} {A : Option Addr} (h : WdIn w (.slice (some ⟨b, off, none⟩) l.length cap) l) (k : Nat) (hk : k ≤ l.length) (hA : l.length - k = 0 ∨ A = some ⟨b, off + k, none⟩) : WdIn w (.slice A (l.length - k) (cap - k)) (l.drop k) := by
  rcases hA with h0 | rfl
  · obtain ⟨a, cap', e, h1, h1a, h1b, h2, h3⟩ := h
    simp only [Value.slice.injEq, true_and] at e
    obtain ⟨rfl, rfl⟩ := e
    exact ⟨A, cap - k, by rw [List.length_drop], by rw [List.length_drop]; omega, by rw [List.length_drop]; omega, by omega, fun i => by
      have e2 : (l.drop k).getD i 0 = l.getD (k + i) 0 := by simp [List.getD_eq_getElem?_getD]
      rw [e2]; exact h2 _, fun h => absurd h (by rw [List.length_drop]; omega)⟩
  · exact h.drop k hk

theorem run_append_none (ty : TypeId) (w : World) (g n cap : Nat) (hn : n ≤ cap) :
    (Builtin.append_ #[41, 41] ty #[.slice (some ⟨g, 0, none⟩) n cap, .slice none 0 0]).run Try.prog w = .ok (.slice (some ⟨g, 0, none⟩) n cap) w := by
  obtain ⟨i0, hi, hz0, hz1, hz2⟩ := info_parts Try.infoTerm
  simp [Builtin.append_, run_underlying Try.underlying41, sizeOf, typeInfo, hi, Builtin.lenOf, Builtin.firstCells, loadCells, storeCells, hn]

/-- A list of terms is appended to another: 'append(l, m...)', m perhaps nil. -/
theorem wp_joinT {ops : Array Oper} {rest : List Oper} {o : Oper} {a : Act} {Q : Exit → Act → World → Prop} (hgd : o.guard = none) (s x : Operand)
    (ho : o.op = .call { callee := .builtin .append, args := #[s, x], argTypes := #[41, 41] })
    (B C : Nat) (w wr : World) (g cap : Nat) (u : Value) (l news : List Ti) (hown : TmRow wr B (.slice (some ⟨g, 0, none⟩) l.length cap) l) (hu : TmRow wr C u news) (hb : Below B w wr) (hB : B ≤ wr.heap.size) (hlen : l.length + news.length ≤ 1000000)
    (hs : a.eval s = .slice (some ⟨g, 0, none⟩) l.length cap) (hx : a.eval x = u)
    (h : ∀ v' w1, TmRow w1 B v' (l ++ news) → Below B w w1 → wpList Try.prog ops Q rest (a.put o.dst v') w1) :
    wpList Try.prog ops Q (o :: rest) a wr := by
  rcases hu.shape with ⟨rfl, rfl⟩ | ⟨g2, cap2, rfl, _, _, _, _⟩
  · have hc : l.length ≤ cap := by
      rcases hown.shape with ⟨e, _⟩ | ⟨g', cap', e, _, _, hc, _⟩
      · cases e
      · simp only [Value.slice.injEq, true_and] at e
        obtain ⟨_, rfl⟩ := e; exact hc
    have hr := run_append_none o.type wr g l.length cap hc
    refine wpList_plain hgd fun K hK => ?_
    unfold Oper.wp execOp
    simp only [ho, resolve, invoke, builtin, Sem.run_bind, Sem.run_pure, Result.andThen_ok, List.map_toArray, List.map_cons, List.map_nil, hs, hx, hr]
    exact hK _ _ (h _ _ (by rw [List.append_nil]; exact hown) hb)
  · refine wp_terms hgd s x ho B w wr _ l news g2 0 news.length cap2 hown hb hB rfl (by omega) hs hx (fun j hj => ?_) fun v' w1 h1 h2 _ _ => h v' w1 h1 h2
    have := hu.cell j hj
    rw [Nat.zero_add]; exact this

theorem tmLit1 (w : World) (B g : Nat) (t : Ti) (hg : g = w.heap.size) (hB : B ≤ g) : TmRow (w.alloc (.cells #[.int .i64 t.1, .int .i64 t.2] 25)) B (.slice (some ⟨g, 0, none⟩) 1 1) [t] := by
  subst hg
  have h := World.ownsRow_lit (e := 25) (size := 2) (base := B) w #[.int .i64 t.1, .int .i64 t.2] 1 hB (by unfold maxLen; omega) (by simp)
  simpa [TmRow, tmsV] using h

theorem Min.first0 (n : Nat) (L : List Tm) (left : Nat) (hleft : (left : Int) ≤ 4294967295) (ad wad : Option Addr) (cap wcap : Nat) (w : World) :
    Calls Try.prog 71 #[.slice ad L.length cap, .slice wad L.length wcap, .int .i64 0, .int .u64 left] w (OptOut (firstC (wT n) L 0 left) w) := by
  rw [firstC_zero]
  by_cases h : left = 0
  · subst h
    go_enter Try.func71, Try.ntmps71
    go_wp2
    go_ret2
    exact ⟨⟨_, rfl, tmNil _ _⟩, Below.refl _ _⟩
  · rw [if_neg h]
    have hne : ((left : Int) == 0) = false := by rw [beq_eq_false_iff_ne]; omega
    go_enter Try.func71, Try.ntmps71
    go_wp2
    go_ret2
    exact ⟨⟨_, rfl, tmNil _ _⟩, Below.refl _ _⟩

set_option maxRecDepth 100000 in
set_option maxHeartbeats 4000000 in
theorem Min.firstS (n c : Nat) (hn : n ≤ 5) (hc : c ≤ 1000)
    (ih : ∀ (L : List Tm) (left : Nat) (ad wad : Option Addr) (cap wcap : Nat) (w : World), (left : Int) ≤ 4294967295 → L.length ≤ 243 → TmsIn w (.slice ad L.length cap) (tiL L) → WdIn w (.slice wad L.length wcap) (wordsL n L) →
      Calls Try.prog 71 #[.slice ad L.length cap, .slice wad L.length wcap, .int .i64 c, .int .u64 left] w (OptOut (firstC (wT n) L c left) w))
    (L : List Tm) (left : Nat) (ad wad : Option Addr) (cap wcap : Nat) (w : World) (hleft : (left : Int) ≤ 4294967295) (hL : L.length ≤ 243) (h : TmsIn w (.slice ad L.length cap) (tiL L)) (hw : WdIn w (.slice wad L.length wcap) (wordsL n L)) :
    Calls Try.prog 71 #[.slice ad L.length cap, .slice wad L.length wcap, .int .i64 ((c : Int) + 1), .int .u64 left] w (OptOut (firstC (wT n) L (c + 1) left) w) := by
  have HIH := Lib.hid ih
  have HN := Lib.hid hn
  have HLEN := Lib.hid hL
  have HTM := Lib.hid h
  have HWD := Lib.hid hw
  have hc0 : (((c : Int) + 1) == 0) = false := by rw [beq_eq_false_iff_ne]; omega
  have hcz : (c : Int) ≤ 1000 := by omega
  have hlz : (L.length : Int) ≤ 243 := by omega
  clear ih hn hL h hw hc
  go_enter Try.func71, Try.ntmps71
  go_wp2
  go_loopw [10, 11, 12, 13, 20] (fun _ _ _ _ i wr => ∃ k : Nat, i = .int .i64 (k : Int) ∧ k ≤ L.length ∧ firstC (wT n) L (c + 1) left = firstC (wT n) (L.drop k) (c + 1) left ∧ Below w.heap.size w wr) (fun _ _ _ _ i _ => L.length - (intOf i).toNat)
  case atStart => exact ⟨0, rfl, by omega, rfl, Below.refl _ _⟩
  case round =>
    obtain ⟨k, rfl, hk, hf, hbel⟩ := hrel
    have HF := Lib.hid hf
    have HBEL := Lib.hid hbel
    clear hf
    by_cases hlt : k < L.length
    · have hkz : (k : Int) < (L.length : Int) := by omega
      have htm := HTM.out
      have hwd := HWD.out
      obtain ⟨ad', cap', e, hl, hca, hca2, _, hrd⟩ := htm
      rw [tiL_len] at e hl hca hrd
      simp only [Value.slice.injEq, true_and] at e
      obtain ⟨rfl, rfl⟩ := e
      obtain ⟨wad', wcap', e, _, hwca, hwca2, hwb, hwrd⟩ := hwd
      rw [wordsL_len] at e hwca hwrd
      simp only [Value.slice.injEq, true_and] at e
      obtain ⟨rfl, rfl⟩ := e
      obtain ⟨b, off, rfl, hbw, hcl⟩ := hrd (by omega)
      obtain ⟨wb, woff, rfl, hwbw, hwcl⟩ := hwrd (by omega)
      have hcl2 := hcl k hlt
      rw [tiL_getD L k hlt] at hcl2
      have d0 : wr.cell? ⟨b, off + k * 2, none⟩ = some (.int .i64 ((L.getD k (0, 0)).1 : Int)) := (hbel.cell (p := ⟨b, off + k * 2, none⟩) hbw).trans hcl2.1
      have d1 : wr.cell? ⟨b, off + k * 2 + 1, none⟩ = some (.int .i64 ((L.getD k (0, 0)).2 : Int)) := (hbel.cell (p := ⟨b, off + k * 2 + 1, none⟩) hbw).trans hcl2.2
      have hw2 := hwcl k hlt
      rw [wordsL_getD n L k hlt] at hw2
      have d2 := (hbel.cell (p := ⟨wb, woff + k, none⟩) hwbw).trans hw2
      have d2a : (wr.alloc (.cells #[.int .i64 ((L.getD k (0, 0)).1 : Int), .int .i64 ((L.getD k (0, 0)).2 : Int)] 25)).cell? ⟨wb, woff + k, none⟩ = some (.int .u64 (wT n (L.getD k (0, 0)) : Int)) := keepA d2
      have hub := wT_bound n (L.getD k (0, 0)) HN.out
      have hcut := andnotU64 left (wT n (L.getD k (0, 0))) hleft hub
      have HLT := Lib.hid hlt
      have hcl3 := cutN_le left (wT n (L.getD k (0, 0)))
      have HCB : Hid (((cutN left (wT n (L.getD k (0, 0))) : Nat) : Int) ≤ 4294967295) := Lib.hid (by omega)
      have HHIT := Lib.hid (fun r hr => firstC_hit (n := n) (c := c) (left := left) (r := r) hlt hr)
      have HMISS := Lib.hid (fun hr => firstC_miss (n := n) (c := c) (left := left) hlt hr)
      obtain ⟨A1, hA1, hsl1⟩ := slice_terms b off L.length cap (k + 1) (by omega) hca
      obtain ⟨A2, hA2, hsl2⟩ := slice_words wb woff L.length wcap (k + 1) (by omega) hwca
      have hk1 : (((k + 1 : Nat)) : Int) = (k : Int) + 1 := by omega
      rw [hk1] at hsl1 hsl2
      have hwrap : IntKind.i64.wrap ((k : Int) + 1) = (k : Int) + 1 := IntWalk.i64_in _ ⟨by omega, by omega⟩
      have hwrap2 : IntKind.i64.wrap (c : Int) = (c : Int) := IntWalk.i64_in _ ⟨by omega, by omega⟩
      have HC : Hid (∀ X, Below w.heap.size w X → Calls Try.prog 71 #[.slice A1 (L.length - (k + 1)) (cap - (k + 1)), .slice A2 (L.length - (k + 1)) (wcap - (k + 1)), .int .i64 c, .int .u64 (cutN left (wT n (L.getD k (0, 0))))] X (OptOut (firstC (wT n) (L.drop (k + 1)) c (cutN left (wT n (L.getD k (0, 0))))) X)) := Lib.hid (fun X hX => by
        have h1 := HTM.out.below hX
        have h2 := TmsIn.rest (l := tiL L) (by rw [tiL_len]; exact h1) (k + 1) (by rw [tiL_len]; omega) (by rw [tiL_len]; exact hA1)
        rw [tiL_len, tiL_drop] at h2
        have g1 := HWD.out.below hX
        have g2 := WdIn.rest (l := wordsL n L) (by rw [wordsL_len]; exact g1) (k + 1) (by rw [wordsL_len]; omega) (by rw [wordsL_len]; exact hA2)
        rw [wordsL_len, wordsL_drop] at g2
        have := HIH.out (L.drop (k + 1)) (cutN left (wT n (L.getD k (0, 0)))) A1 A2 (cap - (k + 1)) (wcap - (k + 1)) X HCB.out (by rw [List.length_drop]; omega) (by rw [List.length_drop]; exact h2) (by rw [List.length_drop]; exact g2)
        rw [List.length_drop] at this
        exact this)
      clear hcl hcl2 hwcl hw2 hbel hcl3 hrd hwrd hwb d2 hlt hk1 hA1 hA2
      generalize wT n (L.getD k (0, 0)) = u at d2a hub hcut HCB HHIT HMISS HC
      generalize hp : (L.getD k (0, 0)).1 = p at d0 d2a
      generalize hq : (L.getD k (0, 0)).2 = q at d1 d2a
      have HPQ : Hid ((L.getD k (0, 0)) = (p, q)) := Lib.hid (by rw [← hp, ← hq])
      clear hp hq
      rw [HPQ.out] at HHIT
      have hsz := HBEL.out.size
      cases hr : firstC (wT n) (L.drop (k + 1)) c (cutN left u) with
      | some r =>
        have HR := Lib.hid (HHIT.out r hr)
        rw [hr] at HC
        have HRL : Hid (r.length ≤ 243) := Lib.hid (by
          have h1 := (firstC_sound _ _ _ _ _ hr).1.length_le
          rw [List.length_drop] at h1
          have := HLEN.out
          omega)
        clear hr HMISS HHIT
        go_wp2_with fail
        go_region_held3 (fun w' => w'.cell? ⟨wb, woff + k, none⟩ = some (.int .u64 (u : Int))) ((first | ((repeat (first | with_reducible assumption | ((with_reducible refine keepU ?_); (with_reducible assumption)) | (with_reducible refine keepD ?_) | (with_reducible refine keepB hb2 ?_))); done) | go_keep))
          (first | (go_at_call 71; refine (HC.out _ (bD (bA (by omega) HBEL.out))).mono ?_; rintro e w2 ⟨⟨v, rfl, hrow⟩, hb2⟩))
        have q0 : w2.cell? ⟨wr.heap.size, 0, none⟩ = some (.int .i64 (p : Int)) := keepB hb2 (keepD (keepN rfl rfl))
        have q1 : w2.cell? ⟨wr.heap.size, 1, none⟩ = some (.int .i64 (q : Int)) := keepB hb2 (keepD (keepN rfl rfl))
        have HB2 := Lib.hid (bB hb2 (by simp; omega) (bD (bA (o := .cells #[.int .i64 (p : Int), .int .i64 (q : Int)] 25) hsz HBEL.out)))
        have hs2 := hb2.size
        simp only [World.size_drew, World.size_alloc] at hs2
        have HLIT := Lib.hid (tmLit1 w2 w.heap.size w2.heap.size ((p : Int), (q : Int)) rfl (by omega))
        have HRW := Lib.hid (hrow.alloc (.cells #[.int .i64 (p : Int), .int .i64 (q : Int)] 25))
        have HB2A := Lib.hid (bA (o := .cells #[.int .i64 (p : Int), .int .i64 (q : Int)] 25) (by omega) HB2.out)
        have HS2A : Hid (w.heap.size ≤ (w2.alloc (.cells #[.int .i64 (p : Int), .int .i64 (q : Int)] 25)).heap.size) := Lib.hid (by simp; omega)
        have HLL : Hid ([((p : Int), (q : Int))].length + (tiL r).length ≤ 1000000) := Lib.hid (by rw [tiL_len]; have := HRL.out; simp; omega)
        clear hb2 hrow
        go_wp2_with (first | (at_builtin; go_must (refine wp_joinT rfl _ _ rfl w.heap.size _ w (w2.alloc (.cells #[.int .i64 (p : Int), .int .i64 (q : Int)] 25)) w2.heap.size 1 v [((p : Int), (q : Int))] (tiL r) HLIT.out HRW.out HB2A.out HS2A.out HLL.out rfl rfl ?_; intro v' w6 hown6 hbel6)) | fail)
        go_ret2
        rw [HF.out, HR.out]
        exact ⟨⟨_, rfl, hown6⟩, hbel6⟩
      | none =>
        have HR := Lib.hid (HMISS.out hr)
        rw [hr] at HC
        clear hr HMISS HHIT
        go_wp2_with fail
        go_region_held3 (fun w' => w'.cell? ⟨wb, woff + k, none⟩ = some (.int .u64 (u : Int))) ((first | ((repeat (first | with_reducible assumption | ((with_reducible refine keepU ?_); (with_reducible assumption)) | (with_reducible refine keepD ?_) | (with_reducible refine keepB hb2 ?_))); done) | go_keep))
          (first | (go_at_call 71; refine (HC.out _ (bD (bA (by omega) HBEL.out))).mono ?_; rintro e w2 ⟨⟨v, rfl, hrow⟩, hb2⟩))
        have HB2 := Lib.hid (bB hb2 (by simp; omega) (bD (bA (o := .cells #[.int .i64 (p : Int), .int .i64 (q : Int)] 25) hsz HBEL.out)))
        clear hb2 hrow
        go_wp2
        go_roundw
        case rel => exact ⟨k + 1, by go_num, by omega, by rw [HF.out]; exact HR.out, HB2.out⟩
        case measure => simp [intOf] <;> omega
    · obtain rfl : k = L.length := by omega
      have HE : Hid (firstC (wT n) L (c + 1) left = none) := Lib.hid (by rw [HF.out, List.drop_length, firstC_nil])
      clear hbel
      go_wp2
      go_ret2
      rw [HE.out]
      exact ⟨⟨_, rfl, tmNil _ _⟩, HBEL.out⟩

/-- firstChoice of the program. -/
theorem Min.first (n : Nat) (hn : n ≤ 5) : ∀ c : Nat, c ≤ 1000 → ∀ (L : List Tm) (left : Nat) (ad wad : Option Addr) (cap wcap : Nat) (w : World), (left : Int) ≤ 4294967295 → L.length ≤ 243 → TmsIn w (.slice ad L.length cap) (tiL L) → WdIn w (.slice wad L.length wcap) (wordsL n L) →
      Calls Try.prog 71 #[.slice ad L.length cap, .slice wad L.length wcap, .int .i64 c, .int .u64 left] w (OptOut (firstC (wT n) L c left) w) := by
  intro c
  induction c with
  | zero => exact fun _ L left ad wad cap wcap w hleft hL h hw => Min.first0 n L left hleft ad wad cap wcap w
  | succ c ih =>
    intro hc L left ad wad cap wcap w hleft hL h hw
    have := Min.firstS n c hn (by omega) (ih (by omega)) L left ad wad cap wcap w hleft hL h hw
    rw [show (((c + 1 : Nat)) : Int) = (c : Int) + 1 by omega]
    exact this

/-! The model's search. -/
theorem cover_skip {n : Nat} {L : List Tm} {i k left : Nat} (h : i < L.length) (h0 : left ≠ 0) (hz : wT n (L.getD i (0, 0)) &&& left = 0) :
    coverM (wT n) (L.drop i) (k + 1) left = coverM (wT n) (L.drop (i + 1)) (k + 1) left := by rw [dropT h, coverM_skip h0 hz]
theorem cover_hit {n : Nat} {L : List Tm} {i k left : Nat} {r : List Tm} (h : i < L.length) (h0 : left ≠ 0) (hz : wT n (L.getD i (0, 0)) &&& left ≠ 0) (hr : coverM (wT n) (L.drop (i + 1)) k (cutN left (wT n (L.getD i (0, 0)))) = some r) :
    coverM (wT n) (L.drop i) (k + 1) left = some (L.getD i (0, 0) :: r) := by rw [dropT h, coverM_cons h0 hz, hr]
theorem cover_miss {n : Nat} {L : List Tm} {i k left : Nat} (h : i < L.length) (h0 : left ≠ 0) (hz : wT n (L.getD i (0, 0)) &&& left ≠ 0) (hr : coverM (wT n) (L.drop (i + 1)) k (cutN left (wT n (L.getD i (0, 0)))) = none) :
    coverM (wT n) (L.drop i) (k + 1) left = coverM (wT n) (L.drop (i + 1)) (k + 1) left := by rw [dropT h, coverM_cons h0 hz, hr]
theorem cover_sound (W : Tm → Nat) : ∀ (l : List Tm) (k left : Nat) (r : List Tm), coverM W l k left = some r → r.length ≤ l.length := by
  intro l
  induction l with
  | nil =>
    intro k left r h
    by_cases h0 : left = 0
    · subst h0; rw [coverM_done] at h; cases h; exact Nat.le_refl _
    · rw [coverM_nil h0] at h; cases h
  | cons t l ih =>
    intro k left r h
    by_cases h0 : left = 0
    · subst h0; rw [coverM_done] at h; cases h; exact Nat.zero_le _
    · cases k with
      | zero => rw [coverM_zero h0] at h; cases h
      | succ k =>
        by_cases hz : W t &&& left = 0
        · rw [coverM_skip h0 hz] at h
          have := ih _ _ _ h
          simp; omega
        · rw [coverM_cons h0 hz] at h
          split at h
          · rename_i q hq
            cases h
            have := ih _ _ _ hq
            simp; omega
          · have := ih _ _ _ h
            simp; omega

theorem Min.coverD (n a : Nat) (L : List Tm) (k : Nat) (z : Int) (ad : Option Addr) (cap from_ : Nat) (w : World) :
    Calls Try.prog 70 #[.agg #[.int .i64 n, .int .i64 a], .slice ad L.length cap, .int .i64 from_, .int .i64 0, .int .i64 z] w (OptOut (coverM (wT n) (L.drop from_) k 0) w) := by
  rw [coverM_done]
  have HL := Lib.hid (fun (X : World) (hX : w.heap.size ≤ X.heap.size) => tmLit0 X w.heap.size X.heap.size rfl hX)
  have HL2 := Lib.hid (HL.out (w.alloc (.cells #[.int .i64 (n : Int), .int .i64 (a : Int)] 38)) (by simp))
  rw [World.size_alloc] at HL2
  clear HL
  go_enter Try.func70, Try.ntmps70
  go_wp2
  go_ret2
  exact ⟨⟨_, rfl, HL2.out⟩, bA (by simp) (bA (Nat.le_refl _) (Below.refl _ _))⟩

theorem Min.coverZ (n a : Nat) (L : List Tm) (left : Nat) (h0 : left ≠ 0) (ad : Option Addr) (cap from_ : Nat) (w : World) :
    Calls Try.prog 70 #[.agg #[.int .i64 n, .int .i64 a], .slice ad L.length cap, .int .i64 from_, .int .i64 left, .int .i64 0] w (OptOut (coverM (wT n) (L.drop from_) 0 left) w) := by
  rw [coverM_zero h0]
  have hne : ((left : Int) == 0) = false := by rw [beq_eq_false_iff_ne]; omega
  have HL := Lib.hid (fun (X : World) (hX : w.heap.size ≤ X.heap.size) => tmLit0 X w.heap.size X.heap.size rfl hX)
  have HL2 := Lib.hid (HL.out (w.alloc (.cells #[.int .i64 (n : Int), .int .i64 (a : Int)] 38)) (by simp))
  rw [World.size_alloc] at HL2
  clear HL
  go_enter Try.func70, Try.ntmps70
  go_wp2
  go_ret2
  exact ⟨⟨_, rfl, HL2.out⟩, bA (by simp) (bA (Nat.le_refl _) (Below.refl _ _))⟩

set_option maxRecDepth 100000 in
set_option maxHeartbeats 4000000 in
theorem Min.coverS (n a k : Nat) (hn : n ≤ 5) (hk : k ≤ 1000) (L : List Tm) (hL : L.length ≤ 243) (hsm : ∀ t ∈ L, t.1 ≤ 31 ∧ t.2 ≤ 31) (ad : Option Addr) (cap : Nat)
    (ih : ∀ (from_ left : Nat) (w : World), from_ ≤ L.length → (left : Int) ≤ 4294967295 → TmsIn w (.slice ad L.length cap) (tiL L) →
      Calls Try.prog 70 #[.agg #[.int .i64 n, .int .i64 a], .slice ad L.length cap, .int .i64 from_, .int .i64 left, .int .i64 k] w (OptOut (coverM (wT n) (L.drop from_) k left) w))
    (from_ left : Nat) (w : World) (hfrom : from_ ≤ L.length) (hleft : (left : Int) ≤ 4294967295) (h0 : left ≠ 0) (h : TmsIn w (.slice ad L.length cap) (tiL L)) :
    Calls Try.prog 70 #[.agg #[.int .i64 n, .int .i64 a], .slice ad L.length cap, .int .i64 from_, .int .i64 left, .int .i64 ((k : Int) + 1)] w (OptOut (coverM (wT n) (L.drop from_) (k + 1) left) w) := by
  have HIH := Lib.hid ih
  have HN := Lib.hid hn
  have hn5 : (n : Int) ≤ 5 := by omega
  have HLEN := Lib.hid hL
  have HSM := Lib.hid hsm
  have HTM := Lib.hid h
  have hne : ((left : Int) == 0) = false := by rw [beq_eq_false_iff_ne]; omega
  have hkne : (((k : Int) + 1) == 0) = false := by rw [beq_eq_false_iff_ne]; omega
  have hkz : (k : Int) ≤ 1000 := by omega
  have hlz : (L.length : Int) ≤ 243 := by omega
  have H0 := Lib.hid h0
  have HFROM := Lib.hid hfrom
  have hl63 : (left : Int) ≤ 4294967295 := hleft
  clear ih hn hL hsm h hk h0 hfrom
  go_enter Try.func70, Try.ntmps70
  go_wp2
  obtain ⟨W1, hW1⟩ : ∃ W1, w.alloc (.cells #[.int .i64 n, .int .i64 a] 38) = W1 := ⟨_, rfl⟩
  have hs1 : W1.heap.size = w.heap.size + 1 := by rw [← hW1]; simp
  have k0 : W1.cell? ⟨w.heap.size, 0, none⟩ = some (.int .i64 n) := hW1 ▸ keepN rfl rfl
  have k1 : W1.cell? ⟨w.heap.size, 1, none⟩ = some (.int .i64 a) := hW1 ▸ keepN rfl rfl
  have HBW : Hid (Below w.heap.size w W1) := Lib.hid (hW1 ▸ (Below.refl _ _).alloc (Nat.le_refl _) _)
  rw [hW1]
  go_loopw [12, 13, 14, 15] (fun i _ _ _ wr => ∃ y : Nat, i = .int .i64 (y : Int) ∧ y ≤ L.length ∧ coverM (wT n) (L.drop from_) (k + 1) left = coverM (wT n) (L.drop y) (k + 1) left ∧ Below (w.heap.size + 1) W1 wr) (fun i _ _ _ _ => L.length - (intOf i).toNat)
  case atStart => exact ⟨from_, rfl, HFROM.out, rfl, Below.refl _ _⟩
  case round =>
    obtain ⟨i, rfl, hi, hf, hbel⟩ := hrel
    have HF := Lib.hid hf
    have HBEL := Lib.hid hbel
    have hsz := hbel.size
    have hz : w.heap.size < wr.heap.size := by omega
    clear hf
    have HBEL2 := Lib.hid (HBW.out.trans (hbel.mono (by omega)))
    by_cases hlt : i < L.length
    · have hiz : (i : Int) < (L.length : Int) := by omega
      have htm := HTM.out.below HBEL2.out
      obtain ⟨ad', cap', e, hl, hca, hca2, _, hrd⟩ := htm
      rw [tiL_len] at e hl hca hrd
      simp only [Value.slice.injEq, true_and] at e
      obtain ⟨rfl, rfl⟩ := e
      obtain ⟨b, off, rfl, hbw, hcl⟩ := hrd (by omega)
      have hcl2 := hcl i hlt
      rw [tiL_getD L i hlt] at hcl2
      obtain ⟨d0, d1⟩ := hcl2
      have e0 : wr.cell? ⟨w.heap.size, 0, none⟩ = some (.int .i64 n) := (hbel.cell (p := ⟨w.heap.size, 0, none⟩) (by dsimp only; omega)).trans k0
      have e1 : wr.cell? ⟨w.heap.size, 1, none⟩ = some (.int .i64 a) := (hbel.cell (p := ⟨w.heap.size, 1, none⟩) (by dsimp only; omega)).trans k1
      have HW := Lib.hid (Trm.word n (L.getD i (0, 0)).1 (L.getD i (0, 0)).2 HN.out (by have := HSM.out _ (getD_of_lt hlt); omega))
      have e : wT n (L.getD i (0, 0)) = tmW (L.getD i (0, 0)).1 (L.getD i (0, 0)).2 (2 ^ n) := rfl
      have hub := wT_bound n (L.getD i (0, 0)) HN.out
      have hand := and64 (wT n (L.getD i (0, 0))) left (by omega) (by omega)
      have hand2 := and64 left (wT n (L.getD i (0, 0))) (by omega) (by omega)
      have hcle := cutN_le left (wT n (L.getD i (0, 0)))
      have hcsub : (left : Int) - ((left &&& wT n (L.getD i (0, 0)) : Nat) : Int) = ((cutN left (wT n (L.getD i (0, 0))) : Nat) : Int) := by
        have h1 := cutN_sub left (wT n (L.getD i (0, 0)))
        have h2 : left &&& wT n (L.getD i (0, 0)) ≤ left := Nat.and_le_left
        omega
      have HSKIP := Lib.hid (cover_skip (n := n) (k := k) (left := left) hlt H0.out)
      have HHIT := Lib.hid (fun r => cover_hit (n := n) (k := k) (left := left) (r := r) hlt H0.out)
      have HMISS := Lib.hid (cover_miss (n := n) (k := k) (left := left) hlt H0.out)
      have HC : Hid (∀ X, Below w.heap.size w X → Calls Try.prog 70 #[.agg #[.int .i64 n, .int .i64 a], .slice (some ⟨b, off, none⟩) L.length cap, .int .i64 ((i : Int) + 1), .int .i64 (cutN left (wT n (L.getD i (0, 0)))), .int .i64 k] X (OptOut (coverM (wT n) (L.drop (i + 1)) k (cutN left (wT n (L.getD i (0, 0))))) X)) := Lib.hid (fun X hX => by
        have := HIH.out (i + 1) (cutN left (wT n (L.getD i (0, 0)))) X (by omega) (by omega) (HTM.out.below hX)
        rw [show (((i + 1 : Nat)) : Int) = (i : Int) + 1 by omega] at this
        exact this)
      rw [← e] at HW
      clear hcl hbel hrd hlt e
      generalize wT n (L.getD i (0, 0)) = u at HW hub hand hand2 hcle hcsub HSKIP HHIT HMISS HC
      generalize hp : (L.getD i (0, 0)).1 = p at d0 HW
      generalize hq : (L.getD i (0, 0)).2 = q at d1 HW
      have HPQ : Hid ((L.getD i (0, 0)) = (p, q)) := Lib.hid (by rw [← hp, ← hq])
      clear hp hq
      rw [HPQ.out] at HHIT
      by_cases hzero : u &&& left = 0
      · have hbz : (((u &&& left : Nat) : Int) == 0) = true := by rw [hzero]; rfl
        have HR := Lib.hid (HSKIP.out hzero)
        rw [hzero] at hand
        clear HSKIP HHIT HMISS HC hzero hcsub hand2
        go_wp2_with fail
        go_region_held3 (fun w' => w'.cell? ⟨w.heap.size, 0, none⟩ = some (.int .i64 n) ∧ w'.cell? ⟨b, off + i * 2, none⟩ = some (.int .i64 (p : Int)) ∧ w'.cell? ⟨b, off + i * 2 + 1, none⟩ = some (.int .i64 (q : Int))) ((first | (go_split_ands; (try dsimp only); (refine ⟨?_, ?_, ?_⟩ <;> (repeat (first | with_reducible assumption | ((with_reducible refine keepU ?_); (with_reducible assumption)) | (with_reducible refine keepD ?_) | (with_reducible refine keepB hb5 ?_)))); done) | go_keep))
          (first | (go_at_call 67; refine (HW.out _).mono ?_; rintro e w5 ⟨rfl, hb5⟩))
        have HB5 := Lib.hid (bB hb5 (by simp; omega) (bD HBEL.out))
        clear hb5
        go_wp2
        go_roundw
        case rel => exact ⟨i + 1, by go_num, by omega, by rw [HF.out]; exact HR.out, HB5.out⟩
        case measure => simp [intOf] <;> omega
      · have hbz : (((u &&& left : Nat) : Int) == 0) = false := by rw [beq_eq_false_iff_ne]; omega
        cases hr : coverM (wT n) (L.drop (i + 1)) k (cutN left u) with
        | some r =>
          have HR := Lib.hid (HHIT.out r hzero hr)
          rw [hr] at HC
          have HRL : Hid (r.length ≤ 243) := Lib.hid (by
            have h1 := cover_sound _ _ _ _ _ hr
            rw [List.length_drop] at h1
            have := HLEN.out
            omega)
          clear hr HMISS HHIT HSKIP hzero
          go_wp2_with fail
          go_region_held3 (fun w' => w'.cell? ⟨w.heap.size, 0, none⟩ = some (.int .i64 n) ∧ w'.cell? ⟨b, off + i * 2, none⟩ = some (.int .i64 (p : Int)) ∧ w'.cell? ⟨b, off + i * 2 + 1, none⟩ = some (.int .i64 (q : Int))) ((first | (go_split_ands; (try dsimp only); (refine ⟨?_, ?_, ?_⟩ <;> (repeat (first | with_reducible assumption | ((with_reducible refine keepU ?_); (with_reducible assumption)) | (with_reducible refine keepD ?_) | (with_reducible refine keepB hb5 ?_)))); done) | go_keep))
            (first | (go_at_call 67; refine (HW.out _).mono ?_; rintro e w5 ⟨rfl, hb5⟩))
          have HB5 := Lib.hid (bB hb5 (by simp; omega) (bD HBEL2.out))
          have hs5 := hb5.size
          simp only [World.size_drew] at hs5
          have g0 := keepB hb5 (keepD e0)
          have g1 := keepB hb5 (keepD e1)
          have j0 := keepB hb5 (keepD d0)
          have j1 := keepB hb5 (keepD d1)
          clear hb5
          go_wp2_with fail
          refine (HC.out _ HB5.out).mono ?_
          rintro e w6 ⟨⟨v, rfl, hrow⟩, hb6⟩
          have q0 := keepB hb6 j0
          have q1 := keepB hb6 j1
          have HB6 := Lib.hid (bB hb6 HB5.out.size HB5.out)
          have hs6 := hb6.size
          have HLIT := Lib.hid (tmLit1 w6 w.heap.size w6.heap.size ((p : Int), (q : Int)) rfl HB6.out.size)
          have HRW := Lib.hid (hrow.alloc (.cells #[.int .i64 (p : Int), .int .i64 (q : Int)] 25))
          have HB6A := Lib.hid (bA (o := .cells #[.int .i64 (p : Int), .int .i64 (q : Int)] 25) HB6.out.size HB6.out)
          have HS6A := Lib.hid HB6A.out.size
          have HLL : Hid ([((p : Int), (q : Int))].length + (tiL r).length ≤ 1000000) := Lib.hid (by rw [tiL_len]; have := HRL.out; simp; omega)
          clear hb6 hrow
          go_wp2_with (first | (at_builtin; go_must (refine wp_joinT rfl _ _ rfl w.heap.size _ w (w6.alloc (.cells #[.int .i64 (p : Int), .int .i64 (q : Int)] 25)) w6.heap.size 1 v [((p : Int), (q : Int))] (tiL r) HLIT.out HRW.out HB6A.out HS6A.out HLL.out rfl rfl ?_; intro v' w7 hown7 hbel7)) | fail)
          go_ret2
          rw [HF.out, HR.out]
          exact ⟨⟨_, rfl, hown7⟩, hbel7⟩
        | none =>
          have HR := Lib.hid (HMISS.out hzero hr)
          rw [hr] at HC
          clear hr HMISS HHIT HSKIP hzero
          go_wp2_with fail
          go_region_held3 (fun w' => w'.cell? ⟨w.heap.size, 0, none⟩ = some (.int .i64 n) ∧ w'.cell? ⟨b, off + i * 2, none⟩ = some (.int .i64 (p : Int)) ∧ w'.cell? ⟨b, off + i * 2 + 1, none⟩ = some (.int .i64 (q : Int))) ((first | (go_split_ands; (try dsimp only); (refine ⟨?_, ?_, ?_⟩ <;> (repeat (first | with_reducible assumption | ((with_reducible refine keepU ?_); (with_reducible assumption)) | (with_reducible refine keepD ?_) | (with_reducible refine keepB hb5 ?_)))); done) | go_keep))
            (first | (go_at_call 67; refine (HW.out _).mono ?_; rintro e w5 ⟨rfl, hb5⟩))
          have HB5 := Lib.hid (bB hb5 (by simp; omega) (bD HBEL2.out))
          have HB5' := Lib.hid (bB hb5 (by simp; omega) (bD HBEL.out))
          have hs5 := hb5.size
          simp only [World.size_drew] at hs5
          have g0 := keepB hb5 (keepD e0)
          have g1 := keepB hb5 (keepD e1)
          have j0 := keepB hb5 (keepD d0)
          have j1 := keepB hb5 (keepD d1)
          clear hb5
          go_wp2_with fail
          refine (HC.out _ HB5.out).mono ?_
          rintro e w6 ⟨⟨v, rfl, hrow⟩, hb6⟩
          have HB6 := Lib.hid (bB hb6 (by have := HB5'.out.size; omega) HB5'.out)
          clear hb6 hrow
          go_wp2
          go_roundw
          case rel => exact ⟨i + 1, by go_num, by omega, by rw [HF.out]; exact HR.out, HB6.out⟩
          case measure => simp [intOf] <;> omega
    · obtain rfl : i = L.length := by omega
      have HE : Hid (coverM (wT n) (L.drop from_) (k + 1) left = none) := Lib.hid (by rw [HF.out, List.drop_length, coverM_nil H0.out])
      have HL2 := Lib.hid (tmLit0 wr w.heap.size wr.heap.size rfl (by omega))
      clear hbel
      go_wp2
      go_ret2
      rw [HE.out]
      exact ⟨⟨_, rfl, HL2.out⟩, bA (by omega) HBEL2.out⟩

/-- l6Cover of the model. -/
theorem Min.cover (n a : Nat) (hn : n ≤ 5) (L : List Tm) (hL : L.length ≤ 243) (hsm : ∀ t ∈ L, t.1 ≤ 31 ∧ t.2 ≤ 31) (ad : Option Addr) (cap : Nat) : ∀ k : Nat, k ≤ 1000 → ∀ (from_ left : Nat) (w : World), from_ ≤ L.length → (left : Int) ≤ 4294967295 → TmsIn w (.slice ad L.length cap) (tiL L) →
      Calls Try.prog 70 #[.agg #[.int .i64 n, .int .i64 a], .slice ad L.length cap, .int .i64 from_, .int .i64 left, .int .i64 k] w (OptOut (coverM (wT n) (L.drop from_) k left) w) := by
  intro k
  induction k with
  | zero =>
    intro _ from_ left w _ _ _
    by_cases h0 : left = 0
    · subst h0; exact Min.coverD n a L 0 0 ad cap from_ w
    · exact Min.coverZ n a L left h0 ad cap from_ w
  | succ k ih =>
    intro hk from_ left w hf hl h
    by_cases h0 : left = 0
    · subst h0; exact Min.coverD n a L (k + 1) _ ad cap from_ w
    · rw [show (((k + 1 : Nat)) : Int) = (k : Int) + 1 by omega]
      exact Min.coverS n a k hn (by omega) L hL hsm ad cap (ih (by omega)) from_ left w hf hl h0 h

/-! MinimalSum. -/
def Plain.minOk (n a : Int) : Bool := isT n a && decide (n ≤ 4)
def Plain.minT (n a : Int) : List Ti := if minOk n a = true then tiL (minS n.toNat a.toNat) else []
theorem minT_no {n a : Int} (h : minOk n a = false) : minT n a = [] := if_neg (by rw [h]; decide)
theorem minT_yes {n a : Nat} (h : minOk n a = true) : minT n a = tiL (minS n a) := by unfold minT; rw [if_pos h]; rfl
theorem minOk_nat {n a : Int} (h : minOk n a = true) : ∃ k x : Nat, n = k ∧ a = x ∧ k ≤ 4 ∧ x < 2 ^ 2 ^ k ∧ isT k x = true := by
  unfold minOk at h
  rw [Bool.and_eq_true, decide_eq_true_iff] at h
  obtain ⟨k, x, rfl, rfl, hk, hx⟩ := isT_nat h.1
  refine ⟨k, x, rfl, rfl, by omega, ?_, h.1⟩
  have : 0 < 2 ^ 2 ^ k := Nat.two_pow_pos _
  unfold fullN at hx; omega
theorem minT_ok (n a : Int) : (minT n a).length ≤ 243 ∧ Small2 (minT n a) := by
  cases h : minOk n a with
  | false => rw [minT_no h]; exact ⟨by decide, fun t h => absurd h (by simp)⟩
  | true =>
    obtain ⟨k, x, rfl, rfl, hk, hx, _⟩ := minOk_nat h
    have hs := (minS_sub hk hx).1
    rw [minT_yes h, tiL_len]
    exact ⟨Nat.le_trans hs.length_le (primes_len (by omega)), tiL_small fun t h => prime_small (by omega) t (hs.subset h)⟩

end Go.Proofs.Ytkamopckpmiioaa
