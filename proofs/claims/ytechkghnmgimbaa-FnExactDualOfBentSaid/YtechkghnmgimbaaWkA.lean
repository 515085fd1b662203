/-
  The numbers of sync.WaitGroup's functions and types in this program.
  Chapter 12, in company: the small functions that a worker calls.
-/
import Derived.Test.YtechkghnmgimbaaChecked
import Derived.Conc.WgGenN3
import Derived.Test.YtechkghnmgimbaaSetS
import Derived.Test.YtechkghnmgimbaaTabK
import Derived.Test.YtechkghnmgimbaaGoX
import Derived.Conc.SmallLaws

namespace Go.Proofs
abbrev Try.link : Go.Conc.Lib.WgLink := { add := 59, done := 61, wait := 62, relMerge := 70, disable := 71, enable := 72, inBubble := 73, associate := 74, fatal := 75, uOr := 76, uAdd := 77, raceRead := 78, uLoad := 79, uStore := 80, disassociate := 81, semrelease := 82, acquire := 83, isAssociated := 84, uCas := 85, raceWrite := 86, semacquire := 87, orU64 := 89, addU64 := 90, loadU64 := 91, storeU64 := 92, casU64 := 93, tWgP := 74, tUP := 76, tAssoc := 78, tWg := 65, tAU := 62, tU64 := 39, tUint := 56, tU32 := 63, tPU32 := 82, tPAU := 91, tPU64 := 93, tNoCopy := 60, tANoCopy := 50, tAlign64 := 51 }
theorem Try.wgLib : Go.Conc.Lib.WgLib Try.prog Try.link :=
  ⟨Try.func59, Try.func61, Try.func62, Try.func70, Try.func71, Try.func72, Try.func73, Try.func74, Try.func75, Try.func76, Try.func77, Try.func78, Try.func79, Try.func80, Try.func81, Try.func82, Try.func83, Try.func84, Try.func85, Try.func86, Try.func87, Try.func89, Try.func90, Try.func91, Try.func92, Try.func93, Try.underlying74, Try.runUnderlying74, Try.sizeOf74, Try.isAgg74, Try.zeroValue74, Try.underlying76, Try.runUnderlying76, Try.sizeOf76, Try.isAgg76, Try.zeroValue76, Try.underlying78, Try.runUnderlying78, Try.sizeOf78, Try.isAgg78, Try.zeroValue78, Try.underlying65, Try.runUnderlying65, Try.sizeOf65, Try.isAgg65, Try.zeroValue65, Try.underlying62, Try.runUnderlying62, Try.sizeOf62, Try.isAgg62, Try.zeroValue62, Try.underlying39, Try.runUnderlying39, Try.sizeOf39, Try.isAgg39, Try.zeroValue39, Try.underlying56, Try.runUnderlying56, Try.sizeOf56, Try.isAgg56, Try.zeroValue56, Try.underlying63, Try.runUnderlying63, Try.sizeOf63, Try.isAgg63, Try.zeroValue63, Try.underlying82, Try.runUnderlying82, Try.sizeOf82, Try.isAgg82, Try.zeroValue82, Try.underlying91, Try.runUnderlying91, Try.sizeOf91, Try.isAgg91, Try.zeroValue91, Try.underlying93, Try.runUnderlying93, Try.sizeOf93, Try.isAgg93, Try.zeroValue93, Try.underlying0, Try.runUnderlying0, Try.sizeOf0, Try.isAgg0, Try.zeroValue0, Try.underlying3, Try.runUnderlying3, Try.sizeOf3, Try.isAgg3, Try.zeroValue3, Try.underlying4, Try.runUnderlying4, Try.sizeOf4, Try.isAgg4, Try.zeroValue4, Try.underlying9, Try.runUnderlying9, Try.sizeOf9, Try.isAgg9, Try.zeroValue9, Try.underlying20, Try.runUnderlying20, Try.sizeOf20, Try.isAgg20, Try.zeroValue20, Try.underlying21, Try.runUnderlying21, Try.sizeOf21, Try.isAgg21, Try.zeroValue21, (by kernel_rfl), (by kernel_rfl)⟩
end Go.Proofs

namespace Go.Proofs.Ytechkghnmgimbaa
open Go.Conc Go.RowKit Plain Go.Veiled
set_option linter.unusedVariables false
set_option linter.unusedSimpArgs false
theorem ones_e7i (y : Nat) (hy : (y : Int) ≤ 34359738368) : Go.bits .and .i64 (IntKind.i64.wrap (y : Int)) 127 = ((y % 128 : Nat) : Int) := by
  have h := ones_e7 y hy
  rw [IntWalk.wrap64_in _ ⟨by omega, by omega⟩] at h
  rw [show IntKind.i64.wrap (y : Int) = (y : Int) by rw [IntKind.wrap_i64]; omega]
  exact h
theorem val_int {k : IntKind} {a b : Int} (h : a = b) : Value.int k a = Value.int k b := by rw [h]
theorem conv_ui (n : Int) (w : World) (es : Array Event) : (convert 3 56 (.int .i64 n)).events Try.prog w es = es := events_convert_int _ _ _ _ (by kernel_rfl) (by kernel_rfl) es
theorem conv_wi (n : Int) (w : World) (es : Array Event) : (convert 40 3 (.int .u64 n)).events Try.prog w es = es := events_convert_int _ _ _ _ (by kernel_rfl) (by kernel_rfl) es
theorem conv_u6 (n : Int) (w : World) (es : Array Event) : (convert 39 3 (.int .u64 n)).events Try.prog w es = es := events_convert_int _ _ _ _ (by kernel_rfl) (by kernel_rfl) es

set_option maxRecDepth 100000 in
theorem Wk.sign : ∃ n, ∀ (main : Bool) (R : World → World → Prop) (D : World → World → Array Event → Prop) (T : Terms R D) (b : Nat) (hb : b < 2) (w : World), CallsC Try.prog main R D 40 #[.int .i64 b] n w fun v w' => v = .int .i64 (1 - 2 * (b : Int)) ∧ Since R w w' := by
  co_apply Exists.intro
  intro main R D T b hb w
  co_apply callsC_of_wpC Try.func40 (by rfl) rfl
  have hF : Since R w w := .refl w
  simp only [Try.ntmps40, List.size_toArray, List.length_cons, List.length_nil, Nat.reduceAdd, Nat.reduceSub, Array.replicate_succ, Array.replicate_zero, List.push_toArray, List.append_toArray, List.nil_append, List.cons_append]
  co_go T (Since.rely T) hF ((rw [listed_nil (by simp [go_sem, conv_ui, conv_wi, conv_u6])]; exact Terms.idle T _))
  exact ⟨rfl, _, resultsC_tmp (by rfl) _, by show Value.int .i64 _ = _; exact val_int (by rw [IntKind.wrap_i64, IntKind.wrap_i64]; omega), hF⟩

set_option maxRecDepth 100000 in
theorem Wk.ones64 : ∃ n, ∀ (main : Bool) (R : World → World → Prop) (D : World → World → Array Event → Prop) (T : Terms R D) (x : Nat) (hx : (x : Int) ≤ 4294967295) (w : World), CallsC Try.prog main R D 69 #[.int .u64 x] n w fun v w' => v = .int .i64 (popN x : Int) ∧ Since R w w' := by
  co_apply Exists.intro
  intro main R D T x hx w
  co_apply callsC_of_wpC Try.func69 (by rfl) rfl
  have hF : Since R w w := .refl w
  simp only [Try.ntmps69, List.size_toArray, List.length_cons, List.length_nil, Nat.reduceAdd, Nat.reduceSub, Array.replicate_succ, Array.replicate_zero, List.push_toArray, List.append_toArray, List.nil_append, List.cons_append]
  co_go T (Since.rely T) hF ((rw [listed_nil (by simp [go_sem, conv_ui, conv_wi, conv_u6])]; exact Terms.idle T _))
  refine ⟨rfl, _, resultsC_tmp (by rfl) _, ?_, hF⟩
  show Value.int .i64 _ = _
  refine val_int ?_
  have s1 := st1_le 6148914691236517205 x
  have s2 := st2_le 3689348814741910323 (st1 6148914691236517205 x)
  have s3 : sum32 x < 4294967296 := (fold32_pop x (by omega)).1
  rw [ones_form x hx]
  unfold fold32
  unfold sum32 at s3 ⊢
  rw [ones_e1 x (by omega), ones_e2 _ (by omega), ones_e3 _ (by omega)]
  rw [ones_e4 _ (by omega), ones_e5 _ (by omega), ones_e6 _ (by omega), ones_e7i _ (by omega)]

set_option maxRecDepth 100000 in
theorem Wk.ones : ∃ n, ∀ (main : Bool) (R : World → World → Prop) (D : World → World → Array Event → Prop) (T : Terms R D) (x : Nat) (hx : (x : Int) ≤ 4294967295) (w : World), CallsC Try.prog main R D 58 #[.int .u64 x] n w fun v w' => v = .int .i64 (popN x : Int) ∧ Since R w w' := by
  obtain ⟨n1, h1⟩ := Wk.ones64
  co_apply Exists.intro
  intro main R D T x hx w
  co_apply callsC_of_wpC Try.func58 (by rfl) rfl
  have hF : Since R w w := .refl w
  simp only [Try.ntmps58, List.size_toArray, List.length_cons, List.length_nil, Nat.reduceAdd, Nat.reduceSub, Array.replicate_succ, Array.replicate_zero, List.push_toArray, List.append_toArray, List.nil_append, List.cons_append]
  co_go T (Since.rely T) hF ((rw [listed_nil (by simp [go_sem, conv_ui, conv_wi, conv_u6])]; exact Terms.idle T _))
  co_apply wpC_cond T (t := false) rfl
  simp only [if_false, Bool.false_eq_true, reduceIte]
  co_go T (Since.rely T) hF (co_quiet T)
  co_apply opsC_callv T rfl (by rfl) rfl (by simp [Act.eval]) (vs := #[.int .u64 x]) (h1 main R D T x hx _)
  rintro v w' ⟨rfl, hS⟩
  replace hF := since_trans T hF hS
  clear hS
  try walk_nrm
  co_go T (Since.rely T) hF ((rw [listed_nil (by simp [go_sem, conv_ui, conv_wi, conv_u6])]; exact Terms.idle T _))
  exact ⟨rfl, _, resultsC_tmp (by rfl) _, rfl, hF⟩

set_option maxRecDepth 100000 in
theorem Wk.setSize : ∃ n, ∀ (main : Bool) (R : World → World → Prop) (D : World → World → Array Event → Prop) (T : Terms R D) (x : Nat) (hx : (x : Int) ≤ 4294967295) (w : World), CallsC Try.prog main R D 48 #[.int .i64 x] n w fun v w' => v = .int .i64 (popN x : Int) ∧ Since R w w' := by
  obtain ⟨n1, h1⟩ := Wk.ones
  co_apply Exists.intro
  intro main R D T x hx w
  co_apply callsC_of_wpC Try.func48 (by rfl) rfl
  have hF : Since R w w := .refl w
  simp only [Try.ntmps48, List.size_toArray, List.length_cons, List.length_nil, Nat.reduceAdd, Nat.reduceSub, Array.replicate_succ, Array.replicate_zero, List.push_toArray, List.append_toArray, List.nil_append, List.cons_append]
  co_go T (Since.rely T) hF ((rw [listed_nil (by simp [go_sem, conv_ui, conv_wi, conv_u6])]; exact Terms.idle T _))
  rw [show IntKind.u64.wrap (x : Int) = (x : Int) by rw [IntKind.wrap_u64]; omega]
  co_apply opsC_callv T rfl (by rfl) rfl (by simp [Act.eval]) (vs := #[.int .u64 x]) (h1 main R D T x hx _)
  rintro v w' ⟨rfl, hS⟩
  replace hF := since_trans T hF hS
  clear hS
  try walk_nrm
  co_go T (Since.rely T) hF ((rw [listed_nil (by simp [go_sem, conv_ui, conv_wi, conv_u6])]; exact Terms.idle T _))
  exact ⟨rfl, _, resultsC_tmp (by rfl) _, rfl, hF⟩

set_option maxRecDepth 100000 in
theorem Wk.parity : ∃ n, ∀ (main : Bool) (R : World → World → Prop) (D : World → World → Array Event → Prop) (T : Terms R D) (x : Nat) (hx : (x : Int) ≤ 4294967295) (w : World), CallsC Try.prog main R D 42 #[.int .i64 x] n w fun v w' => v = .int .i64 ((popN x % 2 : Nat) : Int) ∧ Since R w w' := by
  obtain ⟨n1, h1⟩ := Wk.setSize
  co_apply Exists.intro
  intro main R D T x hx w
  co_apply callsC_of_wpC Try.func42 (by rfl) rfl
  have hF : Since R w w := .refl w
  simp only [Try.ntmps42, List.size_toArray, List.length_cons, List.length_nil, Nat.reduceAdd, Nat.reduceSub, Array.replicate_succ, Array.replicate_zero, List.push_toArray, List.append_toArray, List.nil_append, List.cons_append]
  co_go T (Since.rely T) hF ((rw [listed_nil (by simp [go_sem, conv_ui, conv_wi, conv_u6])]; exact Terms.idle T _))
  co_apply opsC_callv T rfl (by rfl) rfl (by simp [Act.eval]) (vs := #[.int .i64 x]) (h1 main R D T x hx _)
  rintro v w' ⟨rfl, hS⟩
  replace hF := since_trans T hF hS
  clear hS
  try walk_nrm
  co_go T (Since.rely T) hF ((rw [listed_nil (by simp [go_sem, conv_ui, conv_wi, conv_u6])]; exact Terms.idle T _))
  exact ⟨rfl, _, resultsC_tmp (by rfl) _, by show Value.int .i64 _ = _; exact val_int (by have := popN_lim x hx; rw [and1_i64 _ (by omega)]), hF⟩

set_option maxRecDepth 100000 in
theorem Wk.at : ∃ n, ∀ (main : Bool) (R : World → World → Prop) (D : World → World → Array Event → Prop) (T : Terms R D) (a x : Nat) (ha : (a : Int) ≤ 4294967295) (hx : (x : Int) ≤ 31) (w : World), CallsC Try.prog main R D 41 #[.int .u64 a, .int .i64 x] n w fun v w' => v = .int .i64 (bitN a x : Int) ∧ Since R w w' := by
  co_apply Exists.intro
  intro main R D T a x ha hx w
  co_apply callsC_of_wpC Try.func41 (by rfl) rfl
  have hF : Since R w w := .refl w
  simp only [Try.ntmps41, List.size_toArray, List.length_cons, List.length_nil, Nat.reduceAdd, Nat.reduceSub, Array.replicate_succ, Array.replicate_zero, List.push_toArray, List.append_toArray, List.nil_append, List.cons_append]
  co_go T (Since.rely T) hF ((rw [listed_nil (by simp [go_sem, conv_ui, conv_wi, conv_u6])]; exact Terms.idle T _))
  exact ⟨rfl, _, resultsC_tmp (by rfl) _, by show Value.int .i64 _ = _; exact val_int (by have := bitN_lt a x; rw [bit_u64 a x (by omega), IntKind.wrap_i64]; omega), hF⟩

set_option maxRecDepth 100000 in
theorem Wk.count : ∃ n, ∀ (main : Bool) (R : World → World → Prop) (D : World → World → Array Event → Prop) (T : Terms R D) (m : Nat) (hm : m ≤ 5) (w : World), CallsC Try.prog main R D 44 #[.int .i64 m] n w fun v w' => v = .int .i64 ((2 ^ m : Nat) : Int) ∧ Since R w w' := by
  co_apply Exists.intro
  intro main R D T m hm w
  co_apply callsC_of_wpC Try.func44 (by rfl) rfl
  have hF : Since R w w := .refl w
  simp only [Try.ntmps44, List.size_toArray, List.length_cons, List.length_nil, Nat.reduceAdd, Nat.reduceSub, Array.replicate_succ, Array.replicate_zero, List.push_toArray, List.append_toArray, List.nil_append, List.cons_append]
  co_go T (Since.rely T) hF ((rw [listed_nil (by simp [go_sem])]; exact Terms.idle T _))
  exact ⟨rfl, _, resultsC_tmp (by rfl) _, by show Value.int .i64 _ = _; exact val_int (by rcases cases5 m hm with rfl | rfl | rfl | rfl | rfl | rfl <;> decide +kernel), hF⟩

end Go.Proofs.Ytechkghnmgimbaa
