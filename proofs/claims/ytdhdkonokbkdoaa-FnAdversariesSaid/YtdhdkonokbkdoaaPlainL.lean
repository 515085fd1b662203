/-
  Plain mathematics of chapter 8: the table of what is left (the known places keep their values) has the same least depth and the same first question as the subcube.
-/
import Derived.Test.YtdhdkonokbkdoaaPlainI
import Derived.Test.YtdhdkonokbkdoaaLdM
namespace Go.Proofs.Ytdhdkonokbkdoaa
open Go.RowKit Plain
set_option linter.unusedVariables false

/-- The input x with the bits v in the places of m. -/
def Plain.mixX (m v x : Nat) : Nat := (x ^^^ (x &&& m)) ||| v
/-- The table of what is left. -/
def Plain.keptW (n a m v : Nat) : Nat := tabN (fun x => bitN a (mixX m v x)) (2 ^ n)

theorem mix_bit (m v x i : Nat) : (mixX m v x).testBit i = ((x.testBit i && !m.testBit i) || v.testBit i) := by
  unfold Plain.mixX
  rw [Nat.testBit_or, Nat.testBit_xor, Nat.testBit_and]
  cases x.testBit i <;> cases m.testBit i <;> cases v.testBit i <;> rfl
theorem sub_bit {m v : Nat} (h : v &&& m = v) (i : Nat) : (v.testBit i && m.testBit i) = v.testBit i := by rw [← Nat.testBit_and, h]
theorem mix_lt {m v x n : Nat} (hm : m < 2 ^ n) (hv : v &&& m = v) (hx : x < 2 ^ n) : mixX m v x < 2 ^ n := by
  unfold Plain.mixX
  exact Nat.or_lt_two_pow (Nat.xor_lt_two_pow hx (Nat.lt_of_le_of_lt Nat.and_le_left hx)) (sub_le hm hv)
theorem mix_zero (m v : Nat) : mixX m v 0 = v := by unfold Plain.mixX; simp
theorem mix_all (x : Nat) : mixX 0 0 x = x := by unfold Plain.mixX; simp

theorem kept_full (n a m v : Nat) : keptW n a m v ≤ fullN n := tabN_full _ _
theorem kept_bit {n a m v x : Nat} (hx : x < 2 ^ n) : bitN (keptW n a m v) x = bitN a (mixX m v x) := tabN_bitN (fun x => bitN a (mixX m v x)) _ _ hx (bitN_lt _ _)
theorem kept_zero {n a : Nat} (ha : a ≤ fullN n) : keptW n a 0 0 = a := by
  unfold Plain.keptW
  rw [tabN_congr (v := bitN a) (fun x _ => by rw [mix_all]), tabN_self _ _ (fullN_lt a ha)]
/-- What is left of what is left. -/
theorem kept_kept {n a m v m' v' : Nat} (hm : m' < 2 ^ n) (hv : v' &&& m' = v') : keptW n (keptW n a m v) m' v' = keptW n a (m ||| m') (mixX m v v') := by
  unfold Plain.keptW
  refine tabN_congr fun x hx => ?_
  show bitN (keptW n a m v) (mixX m' v' x) = _
  rw [kept_bit (mix_lt hm hv hx)]
  congr 1
  refine Nat.eq_of_testBit_eq fun i => ?_
  have h := sub_bit hv i
  rw [mix_bit, mix_bit, mix_bit, mix_bit, Nat.testBit_or]
  revert h
  cases x.testBit i <;> cases m.testBit i <;> cases v.testBit i <;> cases m'.testBit i <;> cases v'.testBit i <;> decide

theorem mix_sub {m v m' v' : Nat} (hv : v &&& m = v) (hv' : v' &&& m' = v') : mixX m v v' &&& (m ||| m') = mixX m v v' := by
  refine Nat.eq_of_testBit_eq fun i => ?_
  have h := sub_bit hv i
  have h' := sub_bit hv' i
  rw [Nat.testBit_and, mix_bit, Nat.testBit_or]
  revert h h'
  cases m.testBit i <;> cases v.testBit i <;> cases m'.testBit i <;> cases v'.testBit i <;> decide
theorem mix_on {m v m' v' x : Nat} (h : x &&& m' = v') : mixX m v x &&& (m ||| m') = mixX m v v' ∨ ¬ (v &&& m = v) := by
  by_cases hv : v &&& m = v
  · left
    refine Nat.eq_of_testBit_eq fun i => ?_
    have h1 := sub_bit hv i
    have h2 := congrArg (fun z => z.testBit i) h
    simp only [Nat.testBit_and] at h2
    rw [Nat.testBit_and, mix_bit, mix_bit, Nat.testBit_or]
    revert h1 h2
    cases x.testBit i <;> cases m.testBit i <;> cases v.testBit i <;> cases m'.testBit i <;> cases v'.testBit i <;> decide
  · right; exact hv
theorem mix_back {m v m' v' y : Nat} (hv : v &&& m = v) (hv' : v' &&& m' = v') (h : y &&& (m ||| m') = mixX m v v') :
    ((y ^^^ (y &&& m)) ||| (v' &&& m)) &&& m' = v' ∧ mixX m v ((y ^^^ (y &&& m)) ||| (v' &&& m)) = y := by
  constructor
  · refine Nat.eq_of_testBit_eq fun i => ?_
    have h1 := sub_bit hv i
    have h3 := sub_bit hv' i
    have h2 := congrArg (fun z => z.testBit i) h
    simp only [Nat.testBit_and, Nat.testBit_or, mix_bit] at h2
    simp only [Nat.testBit_and, Nat.testBit_or, Nat.testBit_xor]
    revert h1 h2 h3
    cases y.testBit i <;> cases m.testBit i <;> cases v.testBit i <;> cases m'.testBit i <;> cases v'.testBit i <;> decide
  · refine Nat.eq_of_testBit_eq fun i => ?_
    have h1 := sub_bit hv i
    have h3 := sub_bit hv' i
    have h2 := congrArg (fun z => z.testBit i) h
    simp only [Nat.testBit_and, Nat.testBit_or, mix_bit] at h2
    simp only [mix_bit, Nat.testBit_and, Nat.testBit_or, Nat.testBit_xor]
    revert h1 h2 h3
    cases y.testBit i <;> cases m.testBit i <;> cases v.testBit i <;> cases m'.testBit i <;> cases v'.testBit i <;> decide

theorem kept_cub {n a m v m' v' : Nat} (hm : m < 2 ^ n) (hv : v &&& m = v) (hm' : m' < 2 ^ n) (hv' : v' &&& m' = v') :
    cubX (keptW n a m v) m' v' (2 ^ n) = cubX a (m ||| m') (mixX m v v') (2 ^ n) := by
  have hv2 := sub_le hm' hv'
  have key : cubX (keptW n a m v) m' v' (2 ^ n) = true ↔ cubX a (m ||| m') (mixX m v v') (2 ^ n) = true := by
    rw [cubX_iff, cubX_iff]
    constructor
    · rintro ⟨x, hx, h1, h2⟩
      rw [kept_bit hx, kept_bit hv2] at h2
      refine ⟨mixX m v x, mix_lt hm hv hx, ?_, h2⟩
      rcases mix_on (m := m) (v := v) h1 with h | h
      · exact h
      · exact absurd hv h
    · rintro ⟨y, hy, h1, h2⟩
      obtain ⟨b1, b2⟩ := mix_back hv hv' h1
      have hx : (y ^^^ (y &&& m)) ||| (v' &&& m) < 2 ^ n := Nat.or_lt_two_pow (Nat.xor_lt_two_pow hy (Nat.lt_of_le_of_lt Nat.and_le_left hy)) (Nat.lt_of_le_of_lt Nat.and_le_left hv2)
      refine ⟨_, hx, b1, ?_⟩
      rw [kept_bit hx, kept_bit hv2, b2]
      exact h2
  cases h1 : cubX (keptW n a m v) m' v' (2 ^ n) <;> cases h2 : cubX a (m ||| m') (mixX m v v') (2 ^ n) <;> first | rfl | (rw [h1, h2] at key; simp at key)

theorem kept_lt2 {n a m v m' v' : Nat} (hm : m < 2 ^ n) (hv : v &&& m = v) (hm' : m' < 2 ^ n) (hv' : v' &&& m' = v') :
    cubV n (keptW n a m v) m' v' < 2 ↔ cubV n a (m ||| m') (mixX m v v') < 2 := by
  have h1 := cub_lt2 (n := n) (a := keptW n a m v) (m := m') (v := v')
  have h2 := cub_lt2 (n := n) (a := a) (m := m ||| m') (v := mixX m v v')
  rw [kept_cub hm hv hm' hv', ← h2] at h1
  exact decide_eq_decide.1 h1

theorem mix_more {m v v' i : Nat} (hb : m.testBit i = false) : mixX m v (v' ||| 2 ^ i) = mixX m v v' ||| 2 ^ i := by
  refine Nat.eq_of_testBit_eq fun j => ?_
  rw [mix_bit, Nat.testBit_or, Nat.testBit_or, mix_bit, Nat.testBit_two_pow]
  by_cases h : i = j
  · subst h; rw [hb]; cases v'.testBit i <;> cases v.testBit i <;> simp
  · rw [decide_eq_false h]; simp
theorem mix_none {m v v' i : Nat} (hb : m.testBit i = true) : mixX m v (v' ||| 2 ^ i) = mixX m v v' := by
  refine Nat.eq_of_testBit_eq fun j => ?_
  rw [mix_bit, Nat.testBit_or, mix_bit, Nat.testBit_two_pow]
  by_cases h : i = j
  · subst h; rw [hb]; simp
  · rw [decide_eq_false h]; simp
theorem or_none {m m' i : Nat} (hb : m.testBit i = true) : m ||| (m' ||| 2 ^ i) = m ||| m' := by
  refine Nat.eq_of_testBit_eq fun j => ?_
  rw [Nat.testBit_or, Nat.testBit_or, Nat.testBit_or, Nat.testBit_two_pow]
  by_cases h : i = j
  · subst h; rw [hb]; simp
  · rw [decide_eq_false h]; simp

/-- The least depth on a subcube of what is left is that on the subcube of both. -/
theorem mdl_kept {n a m v : Nat} (hn : n ≤ 4) (hm : m < 2 ^ n) (hv : v &&& m = v) (k' : Nat) :
    ∀ m' v', m' < 2 ^ n → v' &&& m' = v' → cntN n m' = k' → mdl JD 10 n (keptW n a m v) k' m' v' = mdl JD 10 n a (cntN n (m ||| m')) (m ||| m') (mixX m v v') := by
  induction k' with
  | zero =>
    intro m' v' hm' hv' hc
    have h := cub_whole (a := keptW n a m v) hn hm' hv' hc
    rw [mdl_con h, mdl_con ((kept_lt2 hm hv hm' hv').1 h)]
  | succ k' ih =>
    intro m' v' hm' hv' hc
    have hM : m ||| m' < 2 ^ n := Nat.or_lt_two_pow hm hm'
    have hV := mix_sub hv hv'
    by_cases h : cubV n (keptW n a m v) m' v' < 2
    · rw [mdl_con h, mdl_con ((kept_lt2 hm hv hm' hv').1 h)]
    · have h2 : ¬ cubV n a (m ||| m') (mixX m v v') < 2 := fun q => h ((kept_lt2 hm hv hm' hv').2 q)
      obtain ⟨k, hk⟩ : ∃ k, cntN n (m ||| m') = k + 1 := by
        cases hz : cntN n (m ||| m') with
        | zero => exact absurd (cub_whole hn hM hV hz) h2
        | succ k => exact ⟨k, rfl⟩
      have hR := mdl_step (J := JD) (I := 10) (k := k) h2
      rw [hk, mdl_step h]
      -- the places outside
      have out : ∀ i, i < n → m'.testBit i = false → m.testBit i = false → mdl JD 10 n (keptW n a m v) k' (m' ||| 2 ^ i) v' = mdl JD 10 n a k (m ||| m' ||| 2 ^ i) (mixX m v v') ∧ mdl JD 10 n (keptW n a m v) k' (m' ||| 2 ^ i) (v' ||| 2 ^ i) = mdl JD 10 n a k (m ||| m' ||| 2 ^ i) (mixX m v v' ||| 2 ^ i) := by
        intro i hi hb' hb
        have p := place_more hn hm' hv' hc hi hb'
        have q := place_more hn hM hV hk hi (by rw [Nat.testBit_or, hb, hb']; rfl)
        have e1 := ih _ _ p.1 p.2.2.1 p.2.1
        have e2 := ih _ _ p.1 p.2.2.2 p.2.1
        rw [← Nat.or_assoc, q.2.1] at e1 e2
        rw [mix_more hb] at e2
        exact ⟨e1, e2⟩
      have ins : ∀ i, i < n → m'.testBit i = false → m.testBit i = true → mdl JD 10 n (keptW n a m v) k' (m' ||| 2 ^ i) v' = mdl JD 10 n a (k + 1) (m ||| m') (mixX m v v') := by
        intro i hi hb' hb
        have p := place_more hn hm' hv' hc hi hb'
        have e1 := ih _ _ p.1 p.2.2.1 p.2.1
        rw [or_none hb, hk] at e1
        exact e1
      have L := mnF_spec m' (fun i => JD (k' + 1) (mdl JD 10 n (keptW n a m v) k' (m' ||| 2 ^ i) v') (mdl JD 10 n (keptW n a m v) k' (m' ||| 2 ^ i) (v' ||| 2 ^ i))) 10 n
      have R := mnF_spec (m ||| m') (fun i => JD (k + 1) (mdl JD 10 n a k (m ||| m' ||| 2 ^ i) (mixX m v v')) (mdl JD 10 n a k (m ||| m' ||| 2 ^ i) (mixX m v v' ||| 2 ^ i))) 10 n
      rw [← hR] at R
      refine Nat.le_antisymm ?_ ?_
      · rcases R.2.2 with e | ⟨i, hi, hb, e⟩
        · rw [e]; exact L.1
        · rw [e]
          rw [Nat.testBit_or, Bool.or_eq_false_iff] at hb
          have o := out i hi hb.2 hb.1
          have := L.2.1 i hi hb.2
          rw [o.1, o.2] at this
          exact this
      · rcases L.2.2 with e | ⟨i, hi, hb, e⟩
        · rw [e]; exact R.1
        · rw [e]
          cases hbm : m.testBit i with
          | false =>
            have o := out i hi hb hbm
            have := R.2.1 i hi (by rw [Nat.testBit_or, hb, hbm]; rfl)
            rw [o.1, o.2]
            exact this
          | true =>
            have o := ins i hi hb hbm
            show _ ≤ 1 + max _ _
            rw [o]
            omega

/-- The least depth of what is left. -/
theorem least_kept {n a m v : Nat} (hn : n ≤ 4) (hm : m < 2 ^ n) (hv : v &&& m = v) : cst JD n (keptW n a m v) = mdl JD 10 n a (cntN n m) m v := by
  have h := mdl_kept (a := a) hn hm hv n 0 0 (Nat.pow_pos (by decide)) (by simp) (spr_zero n (by omega)).1
  rw [mdl_whole JD_ok hn (kept_full n a m v) JD_I (by decide), Nat.or_zero, mix_zero] at h
  exact h
theorem con_kept {n a m v : Nat} (hn : n ≤ 4) (hm : m < 2 ^ n) (hv : v &&& m = v) : conT n (keptW n a m v) = decide (cubV n a m v < 2) := by
  have h0 : (0 : Nat) < 2 ^ n := Nat.pow_pos (by decide)
  have hc := (spr_zero n (by omega)).1
  have h := subW_con (a := keptW n a m v) hn (sub_ok n 0 0 hn h0 (by simp))
  rw [hc, subW_zero hn (kept_full n a m v)] at h
  rw [h]
  have := kept_lt2 (a := a) hm hv h0 (show 0 &&& 0 = 0 by simp)
  rw [Nat.or_zero, mix_zero] at this
  exact decide_eq_decide.2 this

theorem frI_zero : ∀ n, n < 5 → ∀ i, i < n → frI n 0 i = i := by decide +kernel
/-- The two tables after a question. -/
theorem split_mdl {n b i c : Nat} (hn : n + 1 ≤ 4) (hb : b ≤ fullN (n + 1)) (hi : i < n + 1) (hc : c < 2) :
    cst JD n (restW (n + 1) b i c) = mdl JD 10 (n + 1) b n (2 ^ i) (c * 2 ^ i) := by
  have h0 : (0 : Nat) < 2 ^ (n + 1) := Nat.pow_pos (by decide)
  have hz := (spr_zero (n + 1) (by omega)).1
  have ok := sub_ok (n + 1) 0 0 hn h0 (by simp)
  have hi' : i < cntN (n + 1) 0 := by rw [hz]; exact hi
  have hr := subW_rest (a := b) ok hi' hc
  have hp := ok.place i hi'
  have hs := (ok.sub i hi' c hc).1
  rw [hz, subW_zero hn hb, frI_zero _ (by omega) i hi, Nat.zero_or, Nat.zero_or] at hr
  rw [hz, frI_zero _ (by omega) i hi, Nat.zero_or] at hp
  rw [frI_zero _ (by omega) i hi, Nat.zero_or, Nat.zero_or] at hs
  rw [mdl_cst JD_ok hn JD_I (by decide) n (2 ^ i) (c * 2 ^ i) hp.2.2.1 hs (by omega), hr]
theorem one_place {n i c : Nat} (hn : n ≤ 4) (hi : i < n) (hc : c < 2) : 2 ^ i < 2 ^ n ∧ (c * 2 ^ i) &&& 2 ^ i = c * 2 ^ i ∧ cntN n (2 ^ i) + 1 = n := by
  have h0 : (0 : Nat) < 2 ^ n := Nat.pow_pos (by decide)
  have hz := (spr_zero n (by omega)).1
  have ok := sub_ok n 0 0 hn h0 (by simp)
  have hi' : i < cntN n 0 := by rw [hz]; exact hi
  have hp := ok.place i hi'
  have hs := (ok.sub i hi' c hc).1
  rw [hz, frI_zero _ (by omega) i hi, Nat.zero_or] at hp
  rw [frI_zero _ (by omega) i hi, Nat.zero_or, Nat.zero_or] at hs
  exact ⟨hp.2.2.1, hs, hp.2.2.2⟩
/-- A place that is not known: what is left after its answer. -/
theorem split_kept {n a m v i c k : Nat} (hn : n + 1 ≤ 4) (hm : m < 2 ^ (n + 1)) (hv : v &&& m = v) (hk : cntN (n + 1) m = k + 1) (hi : i < n + 1) (hc : c < 2) (hb : m.testBit i = false) :
    cst JD n (restW (n + 1) (keptW (n + 1) a m v) i c) = mdl JD 10 (n + 1) a k (m ||| 2 ^ i) (v ||| c * 2 ^ i) := by
  obtain ⟨o1, o2, o3⟩ := one_place hn hi hc
  have q := place_more hn hm hv hk hi hb
  rw [split_mdl hn (kept_full _ _ _ _) hi hc, mdl_kept hn hm hv n (2 ^ i) (c * 2 ^ i) o1 o2 (by omega), q.2.1]
  congr 1
  have hc2 : c = 0 ∨ c = 1 := by omega
  rcases hc2 with rfl | rfl
  · rw [Nat.zero_mul, mix_zero, Nat.or_zero]
  · have := mix_more (v := v) (v' := 0) hb
    rw [Nat.zero_or, mix_zero] at this
    rw [Nat.one_mul, this]
theorem split_none {n a m v i c : Nat} (hn : n + 1 ≤ 4) (hm : m < 2 ^ (n + 1)) (hv : v &&& m = v) (hi : i < n + 1) (hc : c < 2) (hb : m.testBit i = true) :
    cst JD n (restW (n + 1) (keptW (n + 1) a m v) i c) = mdl JD 10 (n + 1) a (cntN (n + 1) m) m v := by
  obtain ⟨o1, o2, o3⟩ := one_place hn hi hc
  have e : m ||| 2 ^ i = m := by have := or_none (m' := 0) hb; rw [Nat.zero_or, Nat.or_zero] at this; exact this
  rw [split_mdl hn (kept_full _ _ _ _) hi hc, mdl_kept hn hm hv n (2 ^ i) (c * 2 ^ i) o1 o2 (by omega), e]
  congr 1
  have hc2 : c = 0 ∨ c = 1 := by omega
  rcases hc2 with rfl | rfl
  · rw [Nat.zero_mul, mix_zero]
  · have := mix_none (v := v) (v' := 0) hb
    rw [Nat.zero_or, mix_zero] at this
    rw [Nat.one_mul, this]

/-- The first question of what is left is that on the subcube. -/
theorem ask_kept {n a m v k : Nat} (hn : n + 1 ≤ 4) (hm : m < 2 ^ (n + 1)) (hv : v &&& m = v) (hk : cntN (n + 1) m = k + 1) (hlt : ¬ cubV (n + 1) a m v < 2) :
    bqB (worse n (keptW (n + 1) a m v)) (n + 1) = askN (n + 1) a k m v := by
  have hA := ask_spec hn hm hv hk hlt
  have hsp := bqB_spec (worse n (keptW (n + 1) a m v)) (fun i => worse_lt _ _ _ (by omega)) (n + 1) (by omega)
  generalize bqB (worse n (keptW (n + 1) a m v)) (n + 1) = j at *
  have hout : ∀ i, i < n + 1 → m.testBit i = false → worse n (keptW (n + 1) a m v) i = max (mdl JD 10 (n + 1) a k (m ||| 2 ^ i) v) (mdl JD 10 (n + 1) a k (m ||| 2 ^ i) (v ||| 2 ^ i)) := by
    intro i hi hb
    unfold Plain.worse
    rw [split_kept hn hm hv hk hi (by decide) hb, split_kept hn hm hv hk hi (by decide) hb, Nat.zero_mul, Nat.or_zero, Nat.one_mul]
  have hin : ∀ i, i < n + 1 → m.testBit i = true → worse n (keptW (n + 1) a m v) i = mdl JD 10 (n + 1) a (k + 1) m v := by
    intro i hi hb
    unfold Plain.worse
    rw [split_none hn hm hv hi (by decide) hb, split_none hn hm hv hi (by decide) hb, hk, Nat.max_self]
  generalize askN (n + 1) a k m v = t at *
  have hRt : 1 + worse n (keptW (n + 1) a m v) t = mdl JD 10 (n + 1) a (k + 1) m v := by rw [hout t hA.1.1 hA.1.2.1]; exact hA.1.2.2
  have hle : worse n (keptW (n + 1) a m v) j ≤ worse n (keptW (n + 1) a m v) t := by rw [hsp.2.1]; exact (mnK_spec _ maxI (n + 1)).2.1 t hA.1.1
  have hjm : m.testBit j = false := by
    cases h : m.testBit j with
    | false => rfl
    | true => have := hin j hsp.1 h; omega
  have hlow : mdl JD 10 (n + 1) a (k + 1) m v ≤ 1 + worse n (keptW (n + 1) a m v) j := by
    rw [hout j hsp.1 hjm, mdl_step hlt]
    exact (mnF_spec m _ 10 (n + 1)).2.1 j hsp.1 hjm
  rcases Nat.lt_trichotomy j t with h | h | h
  · exfalso
    refine hA.2 j h hjm ?_
    rw [← hout j hsp.1 hjm]
    omega
  · exact h
  · exfalso
    have := hsp.2.2 t h
    omega

end Go.Proofs.Ytdhdkonokbkdoaa
