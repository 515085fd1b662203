/-
  Essential prime terms, of the program and of its model.
-/
import Derived.Test.YtkamopckpmiioaaTrmW
import Derived.Test.YtkamopckpmiioaaTrmI
import Derived.Deep.RegionHeld3
import Derived.Deep.DeepCutAuto
import Derived.Deep.DrawnRows

namespace Go.Proofs.Ytkamopckpmiioaa
open Go.RowKit Plain
set_option linter.unusedVariables false

/-! A row that began as an empty one of no capacity. -/
def OutR (w : World) (b0 B : Nat) (v : Value) (l : List Ti) : Prop := (v = .slice (some ⟨b0, 0, none⟩) 0 0 ∧ l = []) ∨ TmRow w B v l
theorem OutR.below {w w' : World} {b0 B : Nat} {v : Value} {l : List Ti} (h : OutR w b0 B v l) (hb : Below w.heap.size w w') : OutR w' b0 B v l := by
  rcases h with h | h
  · exact .inl h
  · exact .inr (h.below hb)
theorem wp_term0 {ops : Array Oper} {rest : List Oper} {o : Oper} {a : Act} {Q : Exit → Act → World → Prop} (hgd : o.guard = none) (s x : Operand)
    (ho : o.op = .call { callee := .builtin .append, args := #[s, x], argTypes := #[41, 41] })
    (b0 B : Nat) (w wr : World) (t : Ti) (hb : Below B w wr) (hB : B ≤ wr.heap.size)
    (hs : a.eval s = .slice (some ⟨b0, 0, none⟩) 0 0) (hx : a.eval x = .slice (some ⟨wr.heap.size, 0, none⟩) 1 1)
    (h : ∀ v' w1, TmRow w1 B v' [t] → Below B w w1 → wpList Try.prog ops Q rest (a.put o.dst v') w1) :
    wpList Try.prog ops Q (o :: rest) a (wr.alloc (.cells #[.int .i64 t.1, .int .i64 t.2] 25)) := by
  obtain ⟨i0, hi, hz0, hz1, hz2⟩ := info_parts Try.infoTerm
  have hnews : ∀ j u, [Value.int .i64 t.1, Value.int .i64 t.2][j]? = some u → (wr.alloc (.cells #[.int .i64 t.1, .int .i64 t.2] 25)).cell? ((⟨wr.heap.size, 0, none⟩ : Addr).add j) = some u := by
    intro j u hj
    match j, hj with
    | 0, hj => simp at hj; subst hj; exact World.cell?_alloc_mark wr _ _ _ 0
    | 1, hj => simp at hj; subst hj; exact World.cell?_alloc_mark wr _ _ _ 1
    | j + 2, hj => simp at hj
  have hfit : Builtin.nextslicecap (0 + 1) 0 * i0.bytes ≤ 281474976710656 := by rw [nextslicecap_zero (by decide), hz2]; decide
  have hr := run_append_grow (P := Try.prog) (wr.alloc (.cells #[.int .i64 t.1, .int .i64 t.2] 25)) 41 o.type 25 i0 (.agg #[.int .i64 0, .int .i64 0]) Try.underlying41 hi hz0
    ⟨b0, 0, none⟩ 0 0 [] (by simp) (fun j u h => by simp at h) ⟨wr.heap.size, 0, none⟩ 1 1 [.int .i64 t.1, .int .i64 t.2] (by rw [hz1]; rfl) hnews (by decide) (by decide) hfit
  have hge := grownCap_ge (wr.alloc (.cells #[.int .i64 t.1, .int .i64 t.2] 25)) (0 + 1) 0 25
  have hcm := grownCap_le_maxLen (wr.alloc (.cells #[.int .i64 t.1, .int .i64 t.2] 25)) (0 + 1) 0 25 (by unfold maxLen; decide)
  generalize grownCap (wr.alloc (.cells #[.int .i64 t.1, .int .i64 t.2] 25)) (0 + 1) 0 25 = cp at hr hge hcm
  refine wpList_plain hgd fun K hK => ?_
  unfold Oper.wp execOp
  simp only [ho, resolve, invoke, builtin, Sem.run_bind, Sem.run_pure, Result.andThen_ok, List.map_toArray, List.map_cons, List.map_nil, hs, hx, hr]
  refine hK _ _ (h _ _ ⟨rfl, .inr ⟨_, cp, _, rfl, ?_, heap_alloc_new (World.drew _) _, hge, hcm, ?_, ?_⟩⟩ ?_)
  · simp; omega
  · have e : (Value.agg #[.int .i64 0, .int .i64 0]).cells.size = 2 := rfl
    simp only [Array.size_append, List.size_toArray, size_zeroCells, e, List.length_nil, List.length_cons]
    omega
  · simp [tmsV]
  · exact bA (by simp; omega) (bD (bA hB hb))
theorem wp_termO {ops : Array Oper} {rest : List Oper} {o : Oper} {a : Act} {Q : Exit → Act → World → Prop} (hgd : o.guard = none) (s x : Operand)
    (ho : o.op = .call { callee := .builtin .append, args := #[s, x], argTypes := #[41, 41] })
    (b0 B : Nat) (w wr : World) (v : Value) (l : List Ti) (t : Ti) (ob : Obj) (hown : OutR wr b0 B v l) (hb : Below B w wr) (hB : B ≤ wr.heap.size) (hlen : l.length ≤ 1000000)
    (hs : a.eval s = v) (hx : a.eval x = .slice (some ⟨wr.heap.size, 0, none⟩) 1 1) (hob : ob = .cells #[.int .i64 t.1, .int .i64 t.2] 25)
    (h : ∀ v' w1, TmRow w1 B v' (l ++ [t]) → Below B w w1 → wpList Try.prog ops Q rest (a.put o.dst v') w1) :
    wpList Try.prog ops Q (o :: rest) a (wr.alloc ob) := by
  rcases hown with ⟨rfl, rfl⟩ | hown
  · subst hob
    exact wp_term0 hgd s x ho b0 B w wr t hb hB hs hx h
  · exact wp_term hgd s x ho B w wr v l t ob hown hb hB hlen hs hx hob fun v' w1 h1 h2 _ => h v' w1 h1 h2

/-- What EssentialPrimes answers. -/
def Plain.essT (n a : Int) : List Ti := if isT n a = true then tiL (essL n.toNat a.toNat) else []
theorem essT_yes {n a : Nat} (h : isT n a = true) : essT n a = tiL (essL n a) := by unfold essT; rw [if_pos h]; rfl
theorem essT_no {n a : Int} (h : isT n a = false) : essT n a = [] := if_neg (by rw [h]; decide)
theorem essT_ok (n a : Int) : (essT n a).length ≤ 243 ∧ Small2 (essT n a) := by
  cases ht : isT n a with
  | false => rw [essT_no ht]; exact ⟨by decide, fun t h => absurd h (by simp)⟩
  | true =>
    obtain ⟨k, x, rfl, rfl, hk, hx⟩ := isT_nat ht
    have hs := ess_sub k x
    rw [essT_yes ht, tiL_len]
    exact ⟨Nat.le_trans hs.length_le (primes_len hk), tiL_small fun t h => prime_small hk t (hs.subset h)⟩

theorem Ess.M_no (n a : Int) (ht : isT n a = false) (w : World) :
    Calls Try.prog 34 #[.agg #[.int .i64 n, .int .i64 a]] w (TmOut [] false w) := by
  have H := Lib.hid ht
  clear ht
  have HL := Lib.hid (fun (X : World) (hX : w.heap.size ≤ X.heap.size) => tmLit0 X w.heap.size X.heap.size rfl hX)
  go_enter Try.func34, Try.ntmps34
  go_wp2_with fail
  refine (Tab.model _ _ _).mono ?_
  rintro e w1 ⟨rfl, hb1⟩
  have HR := Lib.hid ((HL.out (w.alloc (.cells #[.int .i64 n, .int .i64 a] 38)) (by simp)).below hb1)
  have HB := Lib.hid (bB hb1 (by simp; omega) (bA (by simp) (bA (Nat.le_refl _) (Below.refl w.heap.size w))))
  rw [World.size_alloc] at HR
  rw [H.out]
  clear hb1
  go_wp2
  go_ret2
  exact ⟨⟨_, rfl, HR.out⟩, HB.out⟩

set_option maxRecDepth 100000 in
set_option maxHeartbeats 4000000 in
theorem Ess.M_yes (n a : Nat) (hn : n ≤ 5) (ha : (a : Int) ≤ 4294967295) (ht : isT n a = true) (w : World) :
    Calls Try.prog 34 #[.agg #[.int .i64 n, .int .i64 a]] w (TmOut (tiL (essL n a)) true w) := by
  have H := Lib.hid ht
  have HN := Lib.hid hn
  have HPL := Lib.hid (Prm.listM n a hn ha)
  have hn5 : (n : Int) ≤ 5 := by omega
  have HSM := Lib.hid (prime_small (a := a) hn)
  have HLEN := Lib.hid (primes_len (a := a) hn)
  clear ht hn ha
  have HL := Lib.hid (fun (X : World) (hX : w.heap.size ≤ X.heap.size) => tmLit0 X w.heap.size X.heap.size rfl hX)
  go_enter Try.func34, Try.ntmps34
  go_wp2_with fail
  refine (Tab.model _ _ _).mono ?_
  rintro e w3 ⟨rfl, hb3⟩
  have HR3 := Lib.hid ((HL.out (w.alloc (.cells #[.int .i64 n, .int .i64 a] 38)) (by simp)).below hb3)
  rw [World.size_alloc] at HR3
  have HB3 := Lib.hid (bB hb3 (by simp; omega) (bA (by simp) (bA (Nat.le_refl _) (Below.refl w.heap.size w))))
  have k0 : w3.cell? ⟨w.heap.size, 0, none⟩ = some (.int .i64 n) := keepB hb3 (keepA (keepN rfl rfl))
  have k1 : w3.cell? ⟨w.heap.size, 1, none⟩ = some (.int .i64 a) := keepB hb3 (keepA (keepN rfl rfl))
  have hz3 : w.heap.size + 1 < w3.heap.size := by have := hb3.size; simp at this; omega
  rw [H.out]
  clear hb3
  go_wp2_with fail
  refine (HPL.out _).mono ?_
  rintro e w4 ⟨⟨v, rfl, hrow⟩, hb4⟩
  have c0 := keepB hb4 k0
  have c1 := keepB hb4 k1
  have HR4 := Lib.hid (HR3.out.below hb4)
  have HB4 := Lib.hid (bB hb4 (by omega) HB3.out)
  have hz4 : w.heap.size + 1 < w4.heap.size := by have := hb4.size; omega
  have hin := hrow.terms (by rw [tiL_len]; have := HLEN.out; omega) (tiL_small HSM.out)
  have HL' := Lib.hid (show primesL n a = primesL n a from rfl)
  obtain ⟨L, hL⟩ : ∃ L, primesL n a = L := ⟨_, rfl⟩
  have HE : Hid (essL n a = essU n L L.length) := Lib.hid (by rw [← hL]; rfl)
  rw [hL] at HSM HLEN hin
  clear hb4 hrow HPL HL HR3 HB3 k0 k1 HL' hL
  obtain ⟨ad, cap, rfl, hl, hca, hca2, _, hrd⟩ := hin
  rw [tiL_len] at hl hrd hca
  have HRD := Lib.hid hrd
  clear hrd
  rw [tiL_len]
  go_wp2
  go_loopw [4, 6, 7, 8] (fun o i _ _ wr => ∃ k : Nat, i = .int .i64 (k : Int) ∧ k ≤ L.length ∧ OutR wr (w.heap.size + 1) w4.heap.size o (tiL (essU n L k)) ∧ Below w4.heap.size w4 wr) (fun _ i _ _ _ => L.length - (intOf i).toNat)
  case atStart => exact ⟨0, rfl, by omega, .inl ⟨rfl, rfl⟩, Below.refl _ _⟩
  case round =>
    obtain ⟨i, rfl, hi, hout, hbel⟩ := hrel
    have HOUT := Lib.hid hout
    have HBEL := Lib.hid hbel
    have hsz := hbel.size
    clear hout
    by_cases hlt : i < L.length
    · obtain ⟨b, off, rfl, hbw, hcl⟩ := HRD.out (by omega)
      have hcl2 := hcl i hlt
      rw [tiL_getD L i hlt] at hcl2
      have d0 : wr.cell? ⟨b, off + i * 2, none⟩ = some (.int .i64 ((L.getD i (0, 0)).1 : Int)) := (hbel.cell (p := ⟨b, off + i * 2, none⟩) hbw).trans hcl2.1
      have d1 : wr.cell? ⟨b, off + i * 2 + 1, none⟩ = some (.int .i64 ((L.getD i (0, 0)).2 : Int)) := (hbel.cell (p := ⟨b, off + i * 2 + 1, none⟩) hbw).trans hcl2.2
      have e0 : wr.cell? ⟨w.heap.size, 0, none⟩ = some (.int .i64 n) := (hbel.cell (p := ⟨w.heap.size, 0, none⟩) (by dsimp only; omega)).trans c0
      have hiz : (i : Int) < (L.length : Int) := by omega
      have HLT := Lib.hid hlt
      have HBW := Lib.hid hbw
      have HCL := Lib.hid hcl
      have HW := Lib.hid (Trm.word n (L.getD i (0, 0)).1 (L.getD i (0, 0)).2 HN.out (by have := HSM.out _ (getD_of_lt hlt); omega))
      have HZ := Lib.hid (lone_zero (wordsL n L) i)
      rw [wordsL_getD n L i hlt] at HZ
      have e : wT n (L.getD i (0, 0)) = tmW (L.getD i (0, 0)).1 (L.getD i (0, 0)).2 (2 ^ n) := rfl
      rw [e] at HZ
      have HU := Lib.hid (tmW_bound (L.getD i (0, 0)).1 (L.getD i (0, 0)).2 (2 ^ n) (pow5q HN.out))
      clear hcl hcl2 hbel hlt hbw e
      generalize hu : tmW (L.getD i (0, 0)).1 (L.getD i (0, 0)).2 (2 ^ n) = u at HW HZ HU
      generalize hp : (L.getD i (0, 0)).1 = p at d0 HW
      generalize hq : (L.getD i (0, 0)).2 = q at d1 HW
      have HPQ : Hid ((L.getD i (0, 0)) = (p, q)) := Lib.hid (by rw [← hp, ← hq])
      clear hu hp hq
      go_wp2_with fail
      go_region_held3 (fun w' => w'.cell? ⟨w.heap.size, 0, none⟩ = some (.int .i64 n) ∧ w'.cell? ⟨b, off + i * 2, none⟩ = some (.int .i64 (p : Int)) ∧ w'.cell? ⟨b, off + i * 2 + 1, none⟩ = some (.int .i64 (q : Int))) ((first | (go_split_ands; (try dsimp only); (refine ⟨?_, ?_, ?_⟩ <;> (repeat (first | with_reducible assumption | ((with_reducible refine keepU ?_); (with_reducible assumption)) | (with_reducible refine keepD ?_) | (with_reducible refine keepB hb5 ?_)))); done) | go_keep))
        (first | (go_at_call 67; refine (HW.out _).mono ?_; rintro e w5 ⟨rfl, hb5⟩))
      have HB5 := Lib.hid (bB hb5 (by simp; omega) (bD HBEL.out))
      have HOUT5 := Lib.hid ((HOUT.out.below (bD (Below.refl _ _))).below hb5)
      have hz5 := hb5.size
      simp only [World.size_drew] at hz5
      clear hb5 HOUT HBEL
      go_wp2
      obtain ⟨wo, rfl⟩ : ∃ wo : World, wo = wr := ⟨_, rfl⟩
      go_loopw [7, 8] (fun x j wr => ∃ k y : Nat, j = .int .i64 (k : Int) ∧ x = .int .i64 (y : Int) ∧ k ≤ L.length ∧ (y : Int) ≤ 4294967295 ∧ loneX (wordsL n L) i y k ∧ OutR wr (w.heap.size + 1) w4.heap.size u4 (tiL (essU n L i)) ∧ Below w4.heap.size w4 wr) (fun _ j _ => L.length - (intOf j).toNat)
      case atStart => exact ⟨0, u, rfl, rfl, by omega, HU.out, HZ.out, HOUT5.out, HB5.out⟩
      case round =>
        clear d0 d1 e0 hsz hz5 HOUT5 HB5
        obtain ⟨k, y, rfl, rfl, hk, hy, hlone, hout, hbel⟩ := hrel
        have HOUT := Lib.hid hout
        have HBEL := Lib.hid hbel
        have HLONE := Lib.hid hlone
        have hsz := hbel.size
        clear hout hlone
        by_cases hlt : k < L.length
        · have hkz : (k : Int) < (L.length : Int) := by omega
          by_cases hki : k = i
          · have hne : ((k : Int) != (i : Int)) = false := by simp [hki]
            have HX : Hid (loneX (wordsL n L) i y (k + 1)) := Lib.hid (by have := HLONE.out; rw [hki] at this ⊢; exact lone_same this)
            clear hki hlt hbel
            go_wp2
            go_roundw
            case rel => exact ⟨k + 1, y, by go_num, rfl, by omega, hy, HX.out, HOUT.out, HBEL.out⟩
            case measure => simp [intOf] <;> omega
          · have hne : ((k : Int) != (i : Int)) = true := by simp; omega
            have hcl2 := HCL.out k hlt
            rw [tiL_getD L k hlt] at hcl2
            have d0 : wr.cell? ⟨b, off + k * 2, none⟩ = some (.int .i64 ((L.getD k (0, 0)).1 : Int)) := (hbel.cell (p := ⟨b, off + k * 2, none⟩) HBW.out).trans hcl2.1
            have d1 : wr.cell? ⟨b, off + k * 2 + 1, none⟩ = some (.int .i64 ((L.getD k (0, 0)).2 : Int)) := (hbel.cell (p := ⟨b, off + k * 2 + 1, none⟩) HBW.out).trans hcl2.2
            have e0 : wr.cell? ⟨w.heap.size, 0, none⟩ = some (.int .i64 n) := (hbel.cell (p := ⟨w.heap.size, 0, none⟩) (by dsimp only; omega)).trans c0
            have HW := Lib.hid (Trm.word n (L.getD k (0, 0)).1 (L.getD k (0, 0)).2 HN.out (by have := HSM.out _ (getD_of_lt hlt); omega))
            have HX := Lib.hid (lone_other HLONE.out hki)
            rw [wordsL_getD n L k hlt] at HX
            have e : wT n (L.getD k (0, 0)) = tmW (L.getD k (0, 0)).1 (L.getD k (0, 0)).2 (2 ^ n) := rfl
            rw [e] at HX
            have hub := tmW_bound (L.getD k (0, 0)).1 (L.getD k (0, 0)).2 (2 ^ n) (pow5q HN.out)
            clear hcl2 hbel hlt hki e
            generalize tmW (L.getD k (0, 0)).1 (L.getD k (0, 0)).2 (2 ^ n) = u2 at HW HX hub
            generalize (L.getD k (0, 0)).1 = p2 at d0 HW
            generalize (L.getD k (0, 0)).2 = q2 at d1 HW
            have hand := and64 y u2 (by omega) (by omega)
            have hcle := cutN_le y u2
            have hsub : IntKind.i64.wrap ((y : Int) - ((y &&& u2 : Nat) : Int)) = ((cutN y u2 : Nat) : Int) := by
              have h1 := cutN_sub y u2
              have h2 : y &&& u2 ≤ y := Nat.and_le_left
              rw [IntKind.wrap_i64]; omega
            have HCY : Hid (((cutN y u2 : Nat) : Int) ≤ 4294967295) := Lib.hid (by omega)
            clear hcle
            go_wp2_with fail
            go_region_held3 (fun w' => w'.cell? ⟨w.heap.size, 0, none⟩ = some (.int .i64 n) ∧ w'.cell? ⟨b, off + k * 2, none⟩ = some (.int .i64 (p2 : Int)) ∧ w'.cell? ⟨b, off + k * 2 + 1, none⟩ = some (.int .i64 (q2 : Int))) ((first | (go_split_ands; (try dsimp only); (refine ⟨?_, ?_, ?_⟩ <;> (repeat (first | with_reducible assumption | ((with_reducible refine keepU ?_); (with_reducible assumption)) | (with_reducible refine keepD ?_) | (with_reducible refine keepB hb5 ?_)))); done) | go_keep))
              (first | (go_at_call 67; refine (HW.out _).mono ?_; rintro e w5 ⟨rfl, hb5⟩))
            have HB5 := Lib.hid (bB hb5 (by simp; omega) (bD HBEL.out))
            have HOUT5 := Lib.hid ((HOUT.out.below (bD (Below.refl _ _))).below hb5)
            clear hb5
            go_wp2
            go_roundw
            case rel => exact ⟨k + 1, cutN y u2, by go_num, rfl, by omega, HCY.out, HX.out, HOUT5.out, HB5.out⟩
            case measure => simp [intOf] <;> omega
        · obtain rfl : k = L.length := by omega
          have hcl2 := HCL.out i HLT.out
          rw [tiL_getD L i HLT.out, HPQ.out] at hcl2
          have d0 : wr.cell? ⟨b, off + i * 2, none⟩ = some (.int .i64 (p : Int)) := (hbel.cell (p := ⟨b, off + i * 2, none⟩) HBW.out).trans hcl2.1
          have d1 : wr.cell? ⟨b, off + i * 2 + 1, none⟩ = some (.int .i64 (q : Int)) := (hbel.cell (p := ⟨b, off + i * 2 + 1, none⟩) HBW.out).trans hcl2.2
          have hend := lone_end (wordsL_bound HN.out L i) (by have := HLONE.out; rw [← wordsL_len n L] at this; exact this)
          have HLE : Hid ((tiL (essU n L i)).length ≤ 1000000) := Lib.hid (by
            rw [tiL_len]
            have := essU_len n L i
            have := HLEN.out
            omega)
          clear hcl2 hlt hbel HLONE
          by_cases hpos : 0 < y
          · have HP := Lib.hid (essU_yes (n := n) (l := L) (k := i) (by rw [hend]; exact decide_eq_true hpos))
            have hyz : (0 : Int) < (y : Int) := by omega
            clear hend hpos
            go_wp2_with (first | (at_builtin; go_must (refine wp_termO rfl _ _ rfl (w.heap.size + 1) w4.heap.size w4 wr _ _ ((p : Int), (q : Int)) _ HOUT.out HBEL.out hsz HLE.out rfl rfl rfl ?_; intro v' w6 hown6 hbel6)) | fail)
            go_roundw
            case rel => exact ⟨i + 1, by go_num, by omega, by rw [HP.out, HPQ.out, tiL_snoc]; exact .inr hown6, hbel6⟩
            case measure => simp [intOf] <;> omega
          · have HP := Lib.hid (essU_no (n := n) (l := L) (k := i) (by rw [hend]; exact decide_eq_false hpos))
            have hyz : (y : Int) = 0 := by omega
            clear hend hpos
            go_wp2
            go_roundw
            case rel => exact ⟨i + 1, by go_num, by omega, by rw [HP.out]; exact HOUT.out, HBEL.out⟩
            case measure => simp [intOf] <;> omega
    · obtain rfl : i = L.length := by omega
      have HFIN : Hid (TmRow wr w.heap.size u4 (tiL (essL n a))) := Lib.hid (by
        rw [HE.out]
        rcases HOUT.out with ⟨h1, h2⟩ | h
        · rw [h1, h2]; exact HR4.out.below hbel
        · exact h.base (by omega))
      clear hbel
      go_wp2
      go_ret2
      exact ⟨⟨_, rfl, HFIN.out⟩, HB4.out.trans (HBEL.out.mono (by omega))⟩

/-- EssentialPrimes of the model. -/
theorem Ess.M (n a : Int) (w : World) :
    Calls Try.prog 34 #[.agg #[.int .i64 n, .int .i64 a]] w (TmOut (essT n a) (isT n a) w) := by
  cases ht : isT n a with
  | false => rw [essT_no ht]; exact Ess.M_no n a ht w
  | true =>
    obtain ⟨k, x, rfl, rfl, hk, hx⟩ := isT_nat ht
    rw [essT_yes ht]
    exact Ess.M_yes k x hk (by have := fullN_le k hk; omega) ht w

/-! The program's. -/
theorem Ess.I_no (n a : Int) (h64 : -9223372036854775808 ≤ a ∧ a ≤ 9223372036854775807) (ht : isT n a = false) (w : World) :
    Calls Try.prog 35 #[.agg #[.int .i64 n, .int .i64 a]] w (TmOut [] false w) := by
  have HP := Lib.hid (Prm.listI_no n a h64 ht)
  clear h64 ht
  go_enter Try.func35, Try.ntmps35
  go_wp2_with fail
  refine (HP.out _).mono ?_
  rintro e w1 ⟨rfl, hb1⟩
  have HB := Lib.hid (bB hb1 (by simp) (bA (Nat.le_refl _) (Below.refl w.heap.size w)))
  clear hb1
  go_wp2
  go_ret2
  exact ⟨⟨_, rfl, tmNil _ _⟩, HB.out⟩

set_option maxRecDepth 100000 in
set_option maxHeartbeats 4000000 in
theorem Ess.I_yes (n a : Nat) (hn : n ≤ 5) (ha : (a : Int) ≤ 4294967295) (ht : isT n a = true) (w : World) :
    Calls Try.prog 35 #[.agg #[.int .i64 n, .int .i64 a]] w (TmOut (tiL (essL n a)) true w) := by
  have HN := Lib.hid hn
  have HPL := Lib.hid (Prm.listI n a hn ha ht)
  have hn5 : (n : Int) ≤ 5 := by omega
  have HSM := Lib.hid (prime_small (a := a) hn)
  have HLEN := Lib.hid (primes_len (a := a) hn)
  clear ht hn ha
  go_enter Try.func35, Try.ntmps35
  go_wp2_with fail
  refine (HPL.out _).mono ?_
  rintro e w1 ⟨⟨v, rfl, hrow⟩, hb1⟩
  have k0 : w1.cell? ⟨w.heap.size, 0, none⟩ = some (.int .i64 n) := keepB hb1 (keepN rfl rfl)
  have HB1 := Lib.hid (bB hb1 (by simp) (bA (Nat.le_refl _) (Below.refl w.heap.size w)))
  have hz1 : w.heap.size < w1.heap.size := by have := hb1.size; simp at this; omega
  have hin := hrow.terms (by rw [tiL_len]; have := HLEN.out; omega) (tiL_small HSM.out)
  obtain ⟨L, hL⟩ : ∃ L, primesL n a = L := ⟨_, rfl⟩
  have HE : Hid (essL n a = essU n L L.length) := Lib.hid (by rw [← hL]; rfl)
  rw [hL] at HSM HLEN hin
  clear hb1 hrow HPL hL
  obtain ⟨ad, cap, rfl⟩ : ∃ ad cap, v = .slice ad L.length cap := by
    obtain ⟨ad, cap, rfl, _⟩ := hin
    exact ⟨ad, cap, by rw [tiL_len]⟩
  have HIN := Lib.hid hin
  clear hin
  go_wp2_with fail
  refine (Wd.inputs n HN.out L (fun t h => (HSM.out t h).1) ad cap _ HIN.out).mono ?_
  rintro e w2 ⟨g, rfl, hrow, hb2⟩
  have hwl := wordsL_len n L
  have HB2 := Lib.hid (bB hb2 (by omega) HB1.out)
  have HWD := Lib.hid (hrow.words (by rw [hwl]; have := HLEN.out; omega) (wordsL_bound HN.out L))
  have hz2 := hb2.size
  have HIN2 := Lib.hid (HIN.out.below hb2)
  rw [hwl]
  clear hb2 hrow HB1 HIN
  rw [hwl] at HWD
  go_wp2_with fail
  refine (Wd.alone (wordsL n L) _ _ HWD.out).mono ?_
  rintro e w3 ⟨rfl, rfl⟩
  have hab : ((aloneW (wordsL n L) : Nat) : Int) ≤ 4294967295 := by
    have h1 := (two_bound (wordsL_bound HN.out L) (wordsL n L).length).1
    have h2 := cutN_le (twoW (wordsL n L) (wordsL n L).length).1 (twoW (wordsL n L) (wordsL n L).length).2
    unfold aloneW; omega
  have HAL : Hid (∀ k, k < L.length → essB (wordsL n L) k = !decide (wT n (L.getD k (0, 0)) &&& aloneW (wordsL n L) = 0)) := Lib.hid (fun k hk => by
    have := alone_end (ws := wordsL n L) (i := k) (by rw [hwl]; exact hk) (wordsL_bound HN.out L k)
    rw [wordsL_getD n L k hk] at this
    exact this)
  generalize aloneW (wordsL n L) = al at hab HAL
  have HIN3 := HIN2.out
  have HWD3 := HWD.out
  obtain ⟨ad', cap', e, hl, hca, hca2, _, hrd⟩ := HIN3
  rw [tiL_len] at e hl hca hrd
  simp only [Value.slice.injEq, true_and] at e
  obtain ⟨rfl, rfl⟩ := e
  obtain ⟨wad, wcap, e, _, _, hwca, _, hwrd⟩ := HWD3
  rw [hwl] at e hwrd
  simp only [Value.slice.injEq, true_and] at e
  obtain ⟨rfl, rfl⟩ := e
  have HRD := Lib.hid hrd
  have HWRD := Lib.hid hwrd
  clear hrd hwrd
  go_wp2
  go_loopw [8, 9, 10, 26] (fun o _ _ i wr => ∃ k : Nat, i = .int .i64 (k : Int) ∧ k ≤ L.length ∧ TmRow wr w2.heap.size o (tiL (essU n L k)) ∧ Below w2.heap.size w2 wr) (fun _ _ _ i _ => L.length - (intOf i).toNat)
  case atStart => exact ⟨0, rfl, by omega, tmNil _ _, Below.refl _ _⟩
  case round =>
    obtain ⟨k, rfl, hk, hout, hbel⟩ := hrel
    have HOUT := Lib.hid hout
    have HBEL := Lib.hid hbel
    have hsz := hbel.size
    clear hout
    by_cases hlt : k < L.length
    · obtain ⟨b, off, rfl, hbw, hcl⟩ := HRD.out (by omega)
      obtain ⟨wb, woff, hwe, hwbw, hwcl⟩ := HWRD.out (by omega)
      simp only [Option.some.injEq, Addr.mk.injEq, and_true] at hwe
      obtain ⟨rfl, rfl⟩ := hwe
      have hcl2 := hcl k hlt
      rw [tiL_getD L k hlt] at hcl2
      have d0 : wr.cell? ⟨b, off + k * 2, none⟩ = some (.int .i64 ((L.getD k (0, 0)).1 : Int)) := (hbel.cell (p := ⟨b, off + k * 2, none⟩) hbw).trans hcl2.1
      have d1 : wr.cell? ⟨b, off + k * 2 + 1, none⟩ = some (.int .i64 ((L.getD k (0, 0)).2 : Int)) := (hbel.cell (p := ⟨b, off + k * 2 + 1, none⟩) hbw).trans hcl2.2
      have hw := hwcl k hlt
      rw [wordsL_getD n L k hlt, Nat.zero_add] at hw
      have d2 := (hbel.cell (p := ⟨g, k, none⟩) hwbw).trans hw
      have hkz : (k : Int) < (L.length : Int) := by omega
      have hub := wT_bound n (L.getD k (0, 0)) HN.out
      have hand := andU64 (wT n (L.getD k (0, 0))) al (by omega) (by omega)
      have hend := HAL.out k hlt
      have HLE : Hid ((tiL (essU n L k)).length ≤ 1000000) := Lib.hid (by
        rw [tiL_len]
        have := essU_len n L k
        have := HLEN.out
        omega)
      have hgl : g < wr.heap.size := by omega
      generalize wT n (L.getD k (0, 0)) = u at d2 hub hand hend
      have d2a : (wr.alloc (.cells #[.int .i64 ((L.getD k (0, 0)).1 : Int), .int .i64 ((L.getD k (0, 0)).2 : Int)] 25)).cell? ⟨g, k, none⟩ = some (.int .u64 (u : Int)) := keepA d2
      by_cases hz : u &&& al = 0
      · have hne : (((u &&& al : Nat) : Int) != 0) = false := by simp [hz]
        have HP := Lib.hid (essU_no (n := n) (l := L) (k := k) (by rw [hend, decide_eq_true hz]; rfl))
        clear hcl hcl2 hwcl hw hlt hbel hend hz
        generalize (L.getD k (0, 0)).1 = p at d0 d2a
        generalize (L.getD k (0, 0)).2 = q at d1 d2a
        go_wp2
        go_roundw
        case rel => exact ⟨k + 1, by go_num, by omega, by rw [HP.out]; exact HOUT.out.alloc _, bA hsz HBEL.out⟩
        case measure => simp [intOf] <;> omega
      · have hne : (((u &&& al : Nat) : Int) != 0) = true := by simp; omega
        have HP := Lib.hid (essU_yes (n := n) (l := L) (k := k) (by rw [hend, decide_eq_false hz]; rfl))
        clear hcl hcl2 hwcl hw hlt hbel hend hz
        generalize hp : (L.getD k (0, 0)).1 = p at d0 d2a
        generalize hq : (L.getD k (0, 0)).2 = q at d1 d2a
        have HPQ : Hid ((L.getD k (0, 0)) = (p, q)) := Lib.hid (by rw [← hp, ← hq])
        clear hp hq
        have HOA := Lib.hid (HOUT.out.alloc (.cells #[.int .i64 (p : Int), .int .i64 (q : Int)] 25))
        have HBA := Lib.hid (bA (o := .cells #[.int .i64 (p : Int), .int .i64 (q : Int)] 25) hsz HBEL.out)
        have hsa : w2.heap.size ≤ (wr.alloc (.cells #[.int .i64 (p : Int), .int .i64 (q : Int)] 25)).heap.size := by simp; omega
        have HSA := Lib.hid hsa
        clear hsa
        go_wp2_with (first | (at_builtin; go_must (refine wp_term rfl _ _ rfl w2.heap.size w2 (wr.alloc (.cells #[.int .i64 (p : Int), .int .i64 (q : Int)] 25)) _ _ ((p : Int), (q : Int)) _ HOA.out HBA.out HSA.out HLE.out rfl (by rw [World.size_alloc]; rfl) rfl ?_; intro v' w6 hown6 hbel6 hgr6)) | fail)
        go_roundw
        case rel => exact ⟨k + 1, by go_num, by omega, by rw [HP.out, HPQ.out, tiL_snoc]; exact hown6, hbel6⟩
        case measure => simp [intOf] <;> omega
    · obtain rfl : k = L.length := by omega
      have HFIN : Hid (TmRow wr w.heap.size u8 (tiL (essL n a))) := Lib.hid (by
        rw [HE.out]; exact HOUT.out.base (by omega))
      clear hbel
      go_wp2
      go_ret2
      exact ⟨⟨_, rfl, HFIN.out⟩, HB2.out.trans (HBEL.out.mono (by omega))⟩

/-- EssentialPrimes of the program. -/
theorem Ess.I (n a : Int) (h64 : -9223372036854775808 ≤ a ∧ a ≤ 9223372036854775807) (w : World) :
    Calls Try.prog 35 #[.agg #[.int .i64 n, .int .i64 a]] w (TmOut (essT n a) (isT n a) w) := by
  cases ht : isT n a with
  | false => rw [essT_no ht]; exact Ess.I_no n a h64 ht w
  | true =>
    obtain ⟨k, x, rfl, rfl, hk, hx⟩ := isT_nat ht
    rw [essT_yes ht]
    exact Ess.I_yes k x hk (by have := fullN_le k hk; omega) ht w

end Go.Proofs.Ytkamopckpmiioaa
