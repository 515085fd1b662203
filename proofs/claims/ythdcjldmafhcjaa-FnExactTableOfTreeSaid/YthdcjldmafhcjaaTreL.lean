/-
  Chapter 7: TableOfTree and AverageOf of the model.
-/
import Derived.Test.YthdcjldmafhcjaaTreR
import Derived.Test.YthdcjldmafhcjaaResE
import Derived.Test.YthdcjldmafhcjaaTreK
import Derived.Shelf.Strings.IndexAnyAll
namespace Go.Proofs.Ythdcjldmafhcjaa
open Go.RowKit Plain Go.Shelf
set_option linter.unusedVariables false

/-- A letter that is no variable of n. -/
def Plain.bigL (n : Nat) (c : UInt8) : Bool := (([97, 98, 99, 100, 101] : List UInt8).drop n).contains c

/-- A byte of a tree. -/
theorem byteD (T : DT) : ∀ c ∈ txtD T, (∃ b, c = conC b) ∨ ∃ i, c = letC i := by
  induction T with
  | val b => intro c hc; simp [txtD] at hc; exact .inl ⟨b, hc⟩
  | ask i l r ihl ihr =>
    intro c hc
    simp only [txtD, List.mem_cons, List.mem_append] at hc
    rcases hc with h | h | h
    · exact .inr ⟨i, h⟩
    · exact ihl c h
    · exact ihr c h
theorem byte_tree {s : ByteArray} {T : DT} (h : asD (lst s) = some T) (k : Nat) (hk : k < s.size) : (s[k].toNat : Int) ≤ 101 ∧ s[k].toNat < 128 := by
  have hm : s[k] ∈ txtD T := by
    rw [← (asD_some h).1]
    exact List.getElem_mem (l := lst s) (n := k) (by rw [lst_len]; exact hk)
  rcases byteD T _ hm with ⟨b, hb⟩ | ⟨i, hi⟩
  · rw [hb]; cases b <;> decide
  · have hall : ∀ i : Fin 5, ((letC i).toNat : Int) ≤ 101 ∧ (letC i).toNat < 128 := by decide
    rw [hi]; exact hall i

/-- What TableOfTree answers. -/
def totD (s : ByteArray) (n : Int) : Int × Int × Bool := match asD (lst s) with
  | none => (0, 0, false)
  | some T => if (0 ≤ n ∧ n ≤ 5) ∧ (lst s).any (bigL n.toNat) = false then (n, (tabN (valD T) (2 ^ n.toNat) : Int), true) else (0, 0, false)
theorem totD_none {s : ByteArray} (n : Int) (h : asD (lst s) = none) : totD s n = (0, 0, false) := by unfold totD; rw [h]
theorem totD_out {s : ByteArray} {T : DT} {n : Int} (h : asD (lst s) = some T) (hn : ¬ (0 ≤ n ∧ n ≤ 5)) : totD s n = (0, 0, false) := by
  unfold totD; rw [h]; exact if_neg fun hh => hn hh.1
theorem totD_big {s : ByteArray} {T : DT} {m : Nat} (h : asD (lst s) = some T) (hb : (lst s).any (bigL m) = true) : totD s m = (0, 0, false) := by
  unfold totD; rw [h]; exact if_neg fun hh => by have := hh.2; rw [Int.toNat_natCast, hb] at this; cases this
theorem totD_yes {s : ByteArray} {T : DT} {m : Nat} (h : asD (lst s) = some T) (hm : m ≤ 5) (hb : (lst s).any (bigL m) = false) : totD s m = ((m : Int), (tabN (valD T) (2 ^ m) : Int), true) := by
  unfold totD; rw [h]
  have : (0 ≤ (m : Int) ∧ (m : Int) ≤ 5) ∧ (lst s).any (bigL (m : Int).toNat) = false := ⟨by omega, by rw [Int.toNat_natCast]; exact hb⟩
  dsimp only
  rw [if_pos this, Int.toNat_natCast]

theorem take_any (p : UInt8 → Bool) (s : ByteArray) (k : Nat) (h : k < s.size) : ((lst s).take (k + 1)).any p = (((lst s).take k).any p || p s[k]) := by
  have h' : k < (lst s).length := by rw [lst_len]; exact h
  rw [List.take_succ_eq_append_getElem h', List.any_append]
  have e : (lst s)[k] = s[k] := rfl
  rw [e]
  simp
theorem take_any_true {p : UInt8 → Bool} {s : ByteArray} {k : Nat} (h : k < s.size) (hp : p s[k] = true) : (lst s).any p = true := by
  rw [List.any_eq_true]
  refine ⟨s[k], ?_, hp⟩
  have h' : k < (lst s).length := by rw [lst_len]; exact h
  exact List.getElem_mem h'
theorem take_all (s : ByteArray) : (lst s).take s.size = lst s := by rw [← lst_len]; exact List.take_length

theorem containsAny_any (l m : List UInt8) : Lib.containsAny l m = l.any (fun c => m.contains c) := by
  unfold Lib.containsAny
  induction l with
  | nil => rfl
  | cons c l ih =>
    unfold Lib.indexAny
    rw [List.any_cons]
    cases hc : m.contains c with
    | true => simp
    | false =>
      rw [← ih]
      have hge := Lib.indexAny_ge m l
      generalize Lib.indexAny l m = z at hge ⊢
      by_cases hz : z = -1
      · subst hz; decide
      · have : (z == -1) = false := by simpa using hz
        rw [this]
        simp
        omega

theorem bigL_let {m : Nat} {c : UInt8} (h : bigL m c = true) : ∃ i, i < 5 ∧ m ≤ i ∧ (c.toNat : Int) = 97 + (i : Int) := by
  have hall : ∀ m, m < 6 → ∀ n, n < 256 → bigL m (UInt8.ofNat n) = true → ∃ i, i < 5 ∧ m ≤ i ∧ (UInt8.ofNat n).toNat = 97 + i := by decide +kernel
  by_cases hm : m < 6
  · have := hall m hm c.toNat (UInt8.toNat_lt c)
    rw [UInt8.ofNat_toNat] at this
    obtain ⟨i, h1, h2, h3⟩ := this h
    exact ⟨i, h1, h2, by omega⟩
  · unfold bigL at h
    rw [List.drop_eq_nil_of_le (by simp; omega)] at h
    cases h
theorem bigL_not {m : Nat} {c : UInt8} (h : bigL m c = false) : (c.toNat : Int) < 97 ∨ 101 < (c.toNat : Int) ∨ ∃ i, i < 5 ∧ i < m ∧ (c.toNat : Int) = 97 + (i : Int) := by
  have hall : ∀ m, m < 6 → ∀ n, n < 256 → bigL m (UInt8.ofNat n) = false → (UInt8.ofNat n).toNat < 97 ∨ 101 < (UInt8.ofNat n).toNat ∨ ∃ i, i < 5 ∧ i < m ∧ (UInt8.ofNat n).toNat = 97 + i := by decide +kernel
  by_cases hm : m < 6
  · have := hall m hm c.toNat (UInt8.toNat_lt c)
    rw [UInt8.ofNat_toNat] at this
    rcases this h with h | h | ⟨i, h1, h2, h3⟩
    · exact .inl (by omega)
    · exact .inr (.inl (by omega))
    · exact .inr (.inr ⟨i, h1, h2, by omega⟩)
  · by_cases h1 : (c.toNat : Int) < 97
    · exact .inl h1
    · by_cases h2 : 101 < (c.toNat : Int)
      · exact .inr (.inl h2)
      · exact .inr (.inr ⟨c.toNat - 97, by omega, by omega, by omega⟩)

set_option maxRecDepth 100000 in
set_option maxHeartbeats 2000000 in
theorem Tot.model_in (s : ByteArray) (m : Nat) (hm : m ≤ 5) (T : DT) (h : asD (lst s) = some T) (w : World) :
    Calls Try.prog 36 #[.string s, .int .i64 (m : Int)] w fun e w' => e = .returned (.tuple #[.agg #[.int .i64 (totD s m).1, .int .i64 (totD s m).2.1], .bool (totD s m).2.2]) ∧ Below w.heap.size w w' := by
  obtain ⟨hp1, hp2⟩ := two_pow_int m hm
  have HI := Lib.hid (IsD.model s)
  rw [isD_some h] at HI
  have HB := Lib.hid (Widths.in_yes (m : Int) 0 5 (by omega))
  have h60 : (s.size : Int) ≤ 63 := by have := (asD_some h).2.2; rw [lst_len] at this; omega
  have HBY := Lib.hid (byte_tree h)
  have hok := (asD_some h).2.1
  have HV : Hid (∀ x : Nat, x < 2 ^ m → ∀ w, Calls Try.prog 75 #[.string s, .int .i64 (x : Int)] w fun e w' => e = .returned (.tuple #[.int .i64 (valD T x : Int), .int .i64 (numD T x : Int)]) ∧ w = w') :=
    Lib.hid fun x hx w => Run.any s T (asD_some h).1 h60 x (by have := pow5 hm hx; omega) (num_5 hok x) w
  have HBIG : Hid (∀ k (hk : k < s.size), bigL m s[k] = true → totD s m = (0, 0, false)) := Lib.hid fun k hk hc => totD_big h (take_any_true hk hc)
  have HYES : Hid (((lst s).take s.size).any (bigL m) = false → totD s m = ((m : Int), (tabN (valD T) (2 ^ m) : Int), true)) := Lib.hid fun hx => by
    rw [take_all] at hx
    exact totD_yes h hm hx
  have HXS := Lib.hid (take_any (bigL m) s)
  have HTB := Lib.hid (fun y hy => tabN_bound (valD T) y hy)
  have HVL := Lib.hid (valD_lt T)
  clear h hok
  go_enter Try.func36, Try.ntmps36
  go_wp2_with fail
  refine (HI.out _).mono ?_
  rintro e w1 ⟨rfl, rfl⟩
  go_wp2_with fail
  refine (HB.out _).mono ?_
  rintro e w1 ⟨rfl, rfl⟩
  go_wp2_with fail
  go_loop [6] (fun i => ∃ k : Nat, k ≤ s.size ∧ i = .int .i64 (k : Int) ∧ ((lst s).take k).any (bigL m) = false) (fun i => 64 - (intOf i).toNat)
  case atStart => exact ⟨0, Nat.zero_le _, rfl, rfl⟩
  case round =>
    obtain ⟨k, hk, rfl, hx⟩ := hrel
    have HX := Lib.hid hx
    clear hx
    by_cases hlt : k < s.size
    · cases hbig : bigL m s[k] with
      | true =>
        obtain ⟨i, hi5, hmi, hq⟩ := bigL_let hbig
        have HR := Lib.hid (HBIG.out k hlt hbig)
        have hmi' : (m : Int) ≤ (i : Int) := by omega
        have g1 : (97 : Int) ≤ (s[k].toNat : Int) := by omega
        have g2 : (s[k].toNat : Int) ≤ 101 := by omega
        have g3 : (m : Int) ≤ (s[k].toNat : Int) - 97 := by omega
        clear hbig hq hmi hi5 hmi'
        go_wp2_with fail
        exact bodyPost_ret (v := .tuple #[.agg #[.int .i64 0, .int .i64 0], .bool false]) (by simp [results, Try.results36, go_sem]) rfl ⟨by rw [HR.out], by repeat (first | (with_reducible exact Below.refl _ _) | ((with_reducible refine bS ?_ ?_); (focus (dsimp only; omega))) | ((with_reducible refine bA ?_ ?_); (focus (first | omega | (simp; done) | (simp; omega)))))⟩
      | false =>
        have HX' : Hid (((lst s).take (k + 1)).any (bigL m) = false) := Lib.hid (by rw [HXS.out k hlt, HX.out, hbig]; rfl)
        have hq101 := (HBY.out k hlt).1
        rcases bigL_not hbig with hq | hq | ⟨i, hi5, hmi, hq⟩
        · have d1 : decide ((97 : Int) ≤ (s[k].toNat : Int)) = false := decide_eq_false (by omega)
          clear hbig hq hq101
          go_wp2_with fail
          go_round
          case rel => first | exact ⟨k + 1, by omega, by go_num, HX'.out⟩ | ((repeat apply Exists.intro); exact ⟨⟨k + 1, by omega, by go_num, HX'.out⟩, rfl⟩)
          case measure => simp [intOf]; omega
        · omega
        · have g1 : (97 : Int) ≤ (s[k].toNat : Int) := by omega
          have g2 : (s[k].toNat : Int) ≤ 101 := by omega
          have d3 : decide ((m : Int) ≤ (s[k].toNat : Int) - 97) = false := decide_eq_false (by omega)
          clear hbig hq hmi hi5
          go_wp2_with fail
          go_round
          case rel => first | exact ⟨k + 1, by omega, by go_num, HX'.out⟩ | ((repeat apply Exists.intro); exact ⟨⟨k + 1, by omega, by go_num, HX'.out⟩, rfl⟩)
          case measure => simp [intOf]; omega
    · obtain rfl : k = s.size := by omega
      have HR := Lib.hid (HYES.out HX.out)
      go_wp2_with fail
      go_loop [7, 8] (fun a x => ∃ y : Nat, x = .int .i64 (y : Int) ∧ a = .int .i64 (tabN (valD T) y : Int) ∧ (y : Int) ≤ 2 ^ m) (fun _ x => 33 - (intOf x).toNat)
      case atStart => exact ⟨0, rfl, rfl, by omega⟩
      case round =>
        obtain ⟨y, rfl, rfl, hy⟩ := hrel
        by_cases hly : (y : Int) < 2 ^ m
        · have hy2 : y < 2 ^ m := by rw [up2] at hly; omega
          have hvb := HTB.out y (by omega)
          have hvl := HVL.out y
          have HO := Lib.hid (mulbit_i64 (tabN (valD T) y) (valD T y) y hvb hvl (by omega))
          have HT := Lib.hid (tabN_mul hvl)
          have HC := Lib.hid (HV.out y hy2)
          have hv0 : (0 : Int) ≤ (valD T y : Int) := by omega
          clear hy2 hvl
          go_wp2_with fail
          refine (HC.out _).mono ?_
          rintro e w3 ⟨rfl, rfl⟩
          go_wp2_with fail
          go_round
          case rel => exact ⟨y + 1, by go_num, by rw [HT.out, HO.out], by omega⟩
          case measure => simp [intOf]; omega
        · have he : y = 2 ^ m := by rw [up2] at hy hly; omega
          have HE : Hid (tabN (valD T) y = tabN (valD T) (2 ^ m)) := Lib.hid (by rw [he])
          clear he
          go_wp2_with fail
          exact bodyPost_ret (v := .tuple #[.agg #[.int .i64 (m : Int), .int .i64 (tabN (valD T) y : Int)], .bool true]) (by simp [results, Try.results36, go_sem]) rfl ⟨by rw [HR.out, HE.out], by repeat (first | (with_reducible exact Below.refl _ _) | ((with_reducible refine bS ?_ ?_); (focus (dsimp only; omega))) | ((with_reducible refine bA ?_ ?_); (focus (first | omega | (simp; done) | (simp; omega)))))⟩

theorem Tot.model (s : ByteArray) (n : Int) (w : World) :
    Calls Try.prog 36 #[.string s, .int .i64 n] w fun e w' => e = .returned (.tuple #[.agg #[.int .i64 (totD s n).1, .int .i64 (totD s n).2.1], .bool (totD s n).2.2]) ∧ Below w.heap.size w w' := by
  cases h : asD (lst s) with
  | none =>
    have HI := Lib.hid (IsD.model s)
    rw [isD_none h] at HI
    rw [totD_none n h]
    clear h
    go_enter Try.func36, Try.ntmps36
    go_wp2_with fail
    refine (HI.out _).mono ?_
    rintro e w1 ⟨rfl, rfl⟩
    go_wp2
    exact bodyPost_ret (v := .tuple #[.agg #[.int .i64 0, .int .i64 0], .bool false]) (by simp [results, Try.results36, go_sem]) rfl ⟨rfl, by repeat (first | (with_reducible exact Below.refl _ _) | ((with_reducible refine bS ?_ ?_); (focus (dsimp only; omega))) | ((with_reducible refine bA ?_ ?_); (focus (first | omega | (simp; done) | (simp; omega)))))⟩
  | some T =>
    by_cases hn : 0 ≤ n ∧ n ≤ 5
    · obtain ⟨m, rfl⟩ := Int.eq_ofNat_of_zero_le hn.1
      exact Tot.model_in s m (by omega) T h w
    · have HI := Lib.hid (IsD.model s)
      rw [isD_some h] at HI
      have HB := Lib.hid (Widths.in_no n 0 5 hn)
      rw [totD_out h hn]
      clear h hn
      go_enter Try.func36, Try.ntmps36
      go_wp2_with fail
      refine (HI.out _).mono ?_
      rintro e w1 ⟨rfl, rfl⟩
      go_wp2_with fail
      refine (HB.out _).mono ?_
      rintro e w1 ⟨rfl, rfl⟩
      go_wp2
      exact bodyPost_ret (v := .tuple #[.agg #[.int .i64 0, .int .i64 0], .bool false]) (by simp [results, Try.results36, go_sem]) rfl ⟨rfl, by repeat (first | (with_reducible exact Below.refl _ _) | ((with_reducible refine bS ?_ ?_); (focus (dsimp only; omega))) | ((with_reducible refine bA ?_ ?_); (focus (first | omega | (simp; done) | (simp; omega)))))⟩

/-- The sum of the numbers of letters for the inputs below k. -/
def Plain.sumK (T : DT) : Nat → Nat
  | 0 => 0
  | k + 1 => sumK T k + numD T k
theorem sumK_le {T : DT} (h : okD 0 T = true) (k : Nat) : sumK T k ≤ 5 * k := by
  induction k with
  | zero => exact Nat.zero_le _
  | succ k ih => have := num_5 h k; unfold sumK; omega
/-- What AverageOf answers. -/
def Plain.avgD (s : ByteArray) (n : Int) : Int := if (totD s n).2.2 = true then (match asD (lst s) with
  | none => -1
  | some T => (sumK T (2 ^ n.toNat) : Int)) else -1
theorem avgD_no {s : ByteArray} {n : Int} (h : (totD s n).2.2 = false) : avgD s n = -1 := by unfold avgD; rw [h]; rfl
theorem avgD_yes {s : ByteArray} {n : Int} {T : DT} (h : (totD s n).2.2 = true) (hT : asD (lst s) = some T) : avgD s n = (sumK T (2 ^ n.toNat) : Int) := by
  unfold avgD; rw [if_pos h, hT]
theorem tot_is {s : ByteArray} {n : Int} (h : (totD s n).2.2 = true) : ∃ (T : DT) (m : Nat), asD (lst s) = some T ∧ n = (m : Int) ∧ m ≤ 5 := by
  cases hT : asD (lst s) with
  | none => rw [totD_none n hT] at h; cases h
  | some T =>
    by_cases hn : 0 ≤ n ∧ n ≤ 5
    · exact ⟨T, n.toNat, rfl, by omega, by omega⟩
    · rw [totD_out hT hn] at h; cases h

set_option maxRecDepth 100000 in
set_option maxHeartbeats 1000000 in
/-- AverageOf of the model. -/
theorem Avg.model (s : ByteArray) (n : Int) (w : World) :
    Calls Try.prog 46 #[.string s, .int .i64 n] w fun e w' => e = .returned (.int .i64 (avgD s n)) ∧ Below w.heap.size w w' := by
  have HM := Lib.hid (Tot.model s n)
  cases ht : (totD s n).2.2 with
  | false =>
    rw [avgD_no ht]
    generalize totD s n = r at *
    obtain ⟨x, y, b⟩ := r
    dsimp only at ht
    subst ht
    go_enter Try.func46, Try.ntmps46
    go_wp2_with fail
    refine (HM.out _).mono ?_
    rintro e w2 ⟨rfl, hb⟩
    go_wp2_with fail
    go_ret
    exact ⟨rfl, by repeat (first | (with_reducible exact hb) | ((with_reducible refine bS ?_ ?_); (focus (dsimp only; first | exact hb.size | omega))) | ((with_reducible refine bA ?_ ?_); (focus (first | exact hb.size | omega | (simp; done) | (simp; omega)))))⟩
  | true =>
    obtain ⟨T, m, hT, rfl, hm5⟩ := tot_is ht
    rw [avgD_yes ht hT, Int.toNat_natCast]
    obtain ⟨hp1, hp2⟩ := two_pow_int m hm5
    have hok := (asD_some hT).2.1
    have HQ := Lib.hid (fun (x : Nat) (hx : (x : Int) ≤ 31) (w : World) => by have := Qu.model s x w; rw [quD_in hT hx] at this; exact this)
    have HS := Lib.hid (sumK_le hok)
    have HN := Lib.hid (num_5 hok)
    clear hT hok
    generalize totD s m = r at *
    obtain ⟨x, y, b⟩ := r
    dsimp only at ht
    subst ht
    go_enter Try.func46, Try.ntmps46
    go_wp2_with fail
    refine (HM.out _).mono ?_
    rintro e w2 ⟨rfl, hb⟩
    have HB := Lib.hid hb
    have hz := hb.size
    clear hb
    go_wp2_with fail
    go_loop [7, 8] (fun k x => ∃ y : Nat, x = .int .i64 (y : Int) ∧ k = .int .i64 (sumK T y : Int) ∧ (y : Int) ≤ 2 ^ m) (fun _ x => 40 - (intOf x).toNat)
    case atStart => exact ⟨0, rfl, rfl, by omega⟩
    case round =>
      obtain ⟨y, rfl, rfl, hy⟩ := hrel
      by_cases hlt : (y : Int) < 2 ^ m
      · have HQ2 := Lib.hid (HQ.out y (by omega))
        have hs1 : (sumK T y : Int) ≤ 160 := by have := HS.out y; omega
        have hn1 : (numD T y : Int) ≤ 5 := by have := HN.out y; omega
        have HE : Hid ((sumK T (y + 1) : Int) = (sumK T y : Int) + (numD T y : Int)) := Lib.hid (by show ((sumK T y + numD T y : Nat) : Int) = _; omega)
        go_wp2_with fail
        refine (HQ2.out _).mono ?_
        rintro e w2 ⟨rfl, rfl⟩
        go_wp2_with fail
        go_round
        case rel => exact ⟨y + 1, by go_num, by rw [HE.out], by omega⟩
        case measure => simp [intOf]; omega
      · have he : y = 2 ^ m := by rw [up2] at hy hlt; omega
        have HE : Hid (sumK T y = sumK T (2 ^ m)) := Lib.hid (by rw [he])
        clear he
        go_wp2_with fail
        go_ret
        exact ⟨by rw [← HE.out]; rfl, by repeat (first | (with_reducible exact HB.out) | ((with_reducible refine bS ?_ ?_); (focus (dsimp only; omega))) | ((with_reducible refine bA ?_ ?_); (focus (first | omega | (simp; done) | (simp; omega)))))⟩

end Go.Proofs.Ythdcjldmafhcjaa
