import Derived.KernelRfl
import Derived.Laws.BytesArg
import Derived.Laws.StructEq
import Derived.Maps.RangeRun
import Derived.Test.YtcgohiiihhplgaaDoorRows
import Derived.WalkKit
import Derived.Test.YtcgohiiihhplgaaDoorAmB
import Derived.Test.YtcgohiiihhplgaaDoorAmModel
import Derived.Test.YtcgohiiihhplgaaDoorAmOps6
import Derived.Test.YtcgohiiihhplgaaDoorAmCode
import Derived.Test.YtcgohiiihhplgaaDoorAmK2
import Derived.Test.YtcgohiiihhplgaaDoorAmEq
import Derived.Test.YtcgohiiihhplgaaDoorRBase
import Derived.Test.YtcgohiiihhplgaaDoorB1
set_option linter.unusedVariables false
set_option linter.unusedSimpArgs false
set_option linter.unusedSectionVars false
namespace Go.AM
open Go Go.Proofs
open Go.ChangeMaps (setBlock)
def vb (s : B) : Value := .int .u64 (s.toNat : Int)
/-- An entry: its key, its number, its stamp. -/
abbrev En := B × Int × Nat
def en (e : En) : MapEntry := { key := vb e.1, val := .int .i64 e.2.1, born := e.2.2 }
def ens (L : List En) : Array MapEntry := (L.map en).toArray
def getL : List En → B → Int
  | [], _ => 0
  | e :: l, k => if k = e.1 then e.2.1 else getL l k
def hasL : List En → B → Bool
  | [], _ => false
  | e :: l, k => if k = e.1 then true else hasL l k
def modL : List En → B → Int → List En
  | [], _, _ => []
  | e :: l, k, v => if k = e.1 then (e.1, v, e.2.2) :: l else e :: modL l k v
def setL (L : List En) (clock : Nat) (k : B) (v : Int) : List En := if hasL L k then modL L k v else L ++ [(k, v, clock)]
def clockL (L : List En) (clock : Nat) (k : B) : Nat := if hasL L k then clock else clock + 1
theorem same_vb (a b : B) : Instr.sameNow (.int .u64) (vb a) (vb b) = some (decide (a = b)) := by
  show (if IntKind.u64 = IntKind.u64 then some ((a.toNat : Int) == b.toNat) else none) = _
  rw [if_pos rfl]
  congr 1
  rw [Bool.eq_iff_iff]
  simp only [beq_iff_eq, decide_eq_true_eq]
  constructor
  · intro h; exact BitVec.eq_of_toNat_eq (by omega)
  · rintro rfl; rfl
/-- Where a key stands. -/
def idxL : List En → B → Nat → Option (Nat × Value)
  | [], _, _ => none
  | e :: l, k, i => if k = e.1 then some (i, .int .i64 e.2.1) else idxL l k (i + 1)
theorem find_ens (k : B) : ∀ (L : List En) (i : Nat), Instr.findNow (.int .u64) (vb k) (L.map en) i = some (idxL L k i)
  | [], i => rfl
  | e :: l, i => by
    show (match Instr.sameNow (.int .u64) (vb k) (vb e.1) with
      | some true => some (some (i, Value.int .i64 e.2.1))
      | some false => Instr.findNow (.int .u64) (vb k) (l.map en) (i + 1)
      | none => none) = _
    rw [same_vb, find_ens k l (i + 1)]
    by_cases h : k = e.1
    · simp [idxL, h]
    · simp [idxL, h]
theorem idxL_none {k : B} : ∀ {L : List En} {i : Nat}, hasL L k = false → idxL L k i = none
  | [], _, _ => rfl
  | e :: l, i, h => by
    unfold hasL at h
    unfold idxL
    by_cases he : k = e.1
    · simp [he] at h
    · rw [if_neg he] at h ⊢
      exact idxL_none h
theorem idxL_some {k : B} : ∀ {L : List En} {i : Nat}, hasL L k = true → ∃ j b, idxL L k i = some (i + j, .int .i64 (getL L k)) ∧ L[j]? = some (k, getL L k, b) ∧ ∀ v, (L.map en).modify j (fun x => { x with key := vb k, val := .int .i64 v }) = (modL L k v).map en
  | [], _, h => by simp [hasL] at h
  | e :: l, i, h => by
    unfold hasL at h
    unfold idxL getL modL
    by_cases he : k = e.1
    · refine ⟨0, e.2.2, by simp [he], by simp [he], fun v => ?_⟩
      simp [he, en]
    · rw [if_neg he] at h
      obtain ⟨j, b, h1, h2, h3⟩ := idxL_some (L := l) (i := i + 1) h
      refine ⟨j + 1, b, ?_, ?_, fun v => ?_⟩
      · rw [if_neg he, h1, if_neg he]; congr 2; omega
      · simp [he, h2]
      · simp [he, h3]
theorem getL_none {k : B} : ∀ {L : List En}, hasL L k = false → getL L k = 0
  | [], _ => rfl
  | e :: l, h => by
    unfold hasL at h
    unfold getL
    by_cases he : k = e.1
    · simp [he] at h
    · rw [if_neg he] at h ⊢
      exact getL_none h
theorem un104 : Tryd.prog.underlying 104 = some (.map 58 3) := by kernel_rfl
theorem un58 : Tryd.prog.underlying 58 = some (.int .u64) := by kernel_rfl
theorem zero3 (w : World) : (zeroValue 3).run Tryd.prog w = .ok (.int .i64 0) w := by kernel_rfl
theorem ck (w : World) (e : Bool) (k : B) : (Instr.checkKey e 10000 58 (vb k)).run Tryd.prog w = .ok () w := by
  refine MapKept.run_checkKey (n := 9999) un58 ?_ e
  simp [MapKept.IsKey, vb]
theorem run_look (w : World) (b : Nat) (L : List En) (clock : Nat) (k : B) (h : w.heap[b]? = some (.map (ens L) clock)) :
    (Instr.lookup 104 (.map (some b)) (vb k) false).run Tryd.prog w = .ok (.int .i64 (getL L k)) w := by
  have hf := MapKept.run_findKey (w := w) (P := Tryd.prog) un58 (find_ens k L 0)
  have hf' : (Instr.findKey 58 (vb k) (ens L).toList).run Tryd.prog w = .ok (idxL L k 0) w := by simpa [ens] using hf
  cases hh : hasL L k with
  | true =>
    obtain ⟨j, bo, h1, h2, h3⟩ := idxL_some (i := 0) hh
    rw [h1] at hf'
    simp [Instr.lookup, run_underlying un104, MapKept.run_getObj_map h, Result.andThen, ck, hf']
  | false =>
    rw [idxL_none hh] at hf'
    rw [getL_none hh]
    simp [Instr.lookup, run_underlying un104, MapKept.run_getObj_map h, Result.andThen, ck, hf', zero3]
theorem sameBits_vb (k : B) : Instr.sameBits 10000 (vb k) (vb k) = true := by
  simp [Instr.sameBits, vb]
theorem run_upd (w : World) (b : Nat) (L : List En) (clock : Nat) (k : B) (v : Int) (h : w.heap[b]? = some (.map (ens L) clock)) :
    (Instr.mapUpdate 104 (.map (some b)) (vb k) (.int .i64 v)).run Tryd.prog w = .ok () (setBlock w b (.map (ens (setL L clock k v)) (clockL L clock k))) := by
  have hf := MapKept.run_findKey (w := w) (P := Tryd.prog) un58 (find_ens k L 0)
  have hf' : (Instr.findKey 58 (vb k) (ens L).toList).run Tryd.prog w = .ok (idxL L k 0) w := by simpa [ens] using hf
  cases hh : hasL L k with
  | true =>
    obtain ⟨j, bo, h1, h2, h3⟩ := idxL_some (i := 0) hh
    rw [h1] at hf'
    have hk : (ens L)[0 + j]? = some (en (k, getL L k, bo)) := by simp [ens, h2]
    have hm : (ens L).modify (0 + j) (fun e => { e with key := vb k, val := .int .i64 v }) = ens (setL L clock k v) := by
      unfold setL
      rw [hh]
      simp only [if_true, Nat.zero_add]
      unfold ens
      rw [List.modify_toArray, h3 v]
    have hkeep : (Instr.keyThatStays (vb k) (vb k)).run Tryd.prog w = .ok (vb k) w := by
      simp [Instr.keyThatStays, sameBits_vb]
    simp only [Instr.mapUpdate, Sem.run_bind, run_underlying un104, MapKept.run_getObj_map h, Result.andThen, ck, hf', hk, Option.map_some, Option.getD_some]
    simp only [en, hkeep, Result.andThen, hm]
    rw [MapKept.run_setObj_map _ h]
    unfold clockL
    rw [hh]
    rfl
  | false =>
    rw [idxL_none hh] at hf'
    simp only [Instr.mapUpdate, Sem.run_bind, run_underlying un104, MapKept.run_getObj_map h, Result.andThen, ck, hf']
    rw [MapKept.run_setObj_map _ h]
    unfold setL clockL
    rw [hh]
    simp [ens, en, setBlock]
end Go.AM
namespace Go.AM
open Go Go.Proofs
def cg (a b : Int) : Prop := (18446744073709551616 : Int) ∣ a - b
theorem cg.refl (a : Int) : cg a a := ⟨0, by omega⟩
theorem cg.trans {a b c : Int} (h : cg a b) (k : cg b c) : cg a c := by
  obtain ⟨x, hx⟩ := h
  obtain ⟨y, hy⟩ := k
  exact ⟨x + y, by omega⟩
theorem cg.symm {a b : Int} (h : cg a b) : cg b a := by
  obtain ⟨x, hx⟩ := h
  exact ⟨-x, by omega⟩
theorem cg.add {a b c d : Int} (h : cg a b) (k : cg c d) : cg (a + c) (b + d) := by
  obtain ⟨x, hx⟩ := h
  obtain ⟨y, hy⟩ := k
  exact ⟨x + y, by omega⟩
theorem cg.mul {a b : Int} (h : cg a b) (c : Int) : cg (a * c) (b * c) := by
  obtain ⟨x, hx⟩ := h
  exact ⟨x * c, by rw [← Int.sub_mul, hx, Int.mul_assoc]⟩
theorem cg_wrap (a : Int) : cg (IntKind.i64.wrap a) a := by
  rw [IntKind.wrap_i64]
  unfold cg
  omega
theorem wrap_cg {a b : Int} (h : cg a b) : IntKind.i64.wrap a = IntKind.i64.wrap b := by
  obtain ⟨x, hx⟩ := h
  rw [IntKind.wrap_i64, IntKind.wrap_i64]
  omega
theorem wrap_wrap (a : Int) : IntKind.i64.wrap (IntKind.i64.wrap a) = IntKind.i64.wrap a := wrap_cg (cg_wrap a)
def sumL : List En → Int
  | [] => 0
  | e :: l => e.2.1 * (NT e.1 : Int) + sumL l
def keysL (L : List En) : List B := L.map fun e => e.1
def bornL (L : List En) : List Nat := L.map fun e => e.2.2
structure GoodL (L : List En) (clock : Nat) : Prop where
  keys : (keysL L).Nodup
  born : (bornL L).Nodup
  lt : ∀ e ∈ L, e.2.2 < clock
  rng : ∀ e ∈ L, IntKind.i64.wrap e.2.1 = e.2.1
theorem hasL_iff (k : B) : ∀ (L : List En), hasL L k = true ↔ k ∈ keysL L
  | [] => by simp [hasL, keysL]
  | e :: l => by
    have ih := hasL_iff k l
    unfold hasL keysL
    by_cases h : k = e.1
    · simp [h]
    · rw [if_neg h, ih]; simp [keysL, h]
theorem keys_modL (k : B) (v : Int) : ∀ L : List En, keysL (modL L k v) = keysL L
  | [] => rfl
  | e :: l => by
    unfold modL
    by_cases h : k = e.1
    · simp [h, keysL]
    · rw [if_neg h]
      have := keys_modL k v l
      simp only [keysL, List.map_cons] at this ⊢
      rw [this]
theorem born_modL (k : B) (v : Int) : ∀ L : List En, bornL (modL L k v) = bornL L
  | [] => rfl
  | e :: l => by
    unfold modL
    by_cases h : k = e.1
    · simp [h, bornL]
    · rw [if_neg h]
      have := born_modL k v l
      simp only [bornL, List.map_cons] at this ⊢
      rw [this]
theorem sum_modL (k : B) (v : Int) : ∀ L : List En, hasL L k = true → sumL (modL L k v) = sumL L + (v - getL L k) * (NT k : Int)
  | [], h => by simp [hasL] at h
  | e :: l, h => by
    unfold hasL at h
    unfold modL getL
    by_cases he : k = e.1
    · subst he
      simp only [if_true, sumL, Int.sub_mul]
      omega
    · rw [if_neg he] at h
      rw [if_neg he, if_neg he]
      simp only [sumL, sum_modL k v l h]
      omega
theorem sum_append : ∀ (L M : List En), sumL (L ++ M) = sumL L + sumL M
  | [], M => by simp [sumL]
  | e :: l, M => by
    show e.2.1 * (NT e.1 : Int) + sumL (l ++ M) = e.2.1 * (NT e.1 : Int) + sumL l + sumL M
    rw [sum_append l M]; omega
theorem sum_setL (L : List En) (c : Nat) (k : B) (v : Int) : sumL (setL L c k v) = sumL L + (v - getL L k) * (NT k : Int) := by
  unfold setL
  cases h : hasL L k with
  | true => rw [if_pos rfl]; exact sum_modL k v L h
  | false =>
    rw [if_neg (by simp), sum_append, getL_none h]
    simp [sumL]
theorem mem_modL {k : B} {v : Int} {L : List En} {e : En} (h : e ∈ modL L k v) : e.1 ∈ keysL L ∧ e.2.2 ∈ bornL L := by
  rw [← keys_modL k v L, ← born_modL k v L]
  exact ⟨List.mem_map.2 ⟨e, h, rfl⟩, List.mem_map.2 ⟨e, h, rfl⟩⟩
theorem rng_modL {k : B} {v : Int} (hv : IntKind.i64.wrap v = v) : ∀ {L : List En}, (∀ e ∈ L, IntKind.i64.wrap e.2.1 = e.2.1) → ∀ e ∈ modL L k v, IntKind.i64.wrap e.2.1 = e.2.1
  | [], _, e, he => by simp [modL] at he
  | x :: l, h, e, he => by
    unfold modL at he
    split at he
    · rcases List.mem_cons.1 he with rfl | he
      · exact hv
      · exact h e (List.mem_cons_of_mem _ he)
    · rcases List.mem_cons.1 he with rfl | he
      · exact h e (List.mem_cons_self ..)
      · exact rng_modL hv (fun y hy => h y (List.mem_cons_of_mem _ hy)) e he
theorem GoodL.set {L : List En} {c : Nat} (g : GoodL L c) (k : B) (v : Int) (hv : IntKind.i64.wrap v = v) : GoodL (setL L c k v) (clockL L c k) := by
  unfold setL clockL
  cases h : hasL L k with
  | true =>
    simp only [if_true]
    refine ⟨by rw [keys_modL]; exact g.keys, by rw [born_modL]; exact g.born, fun e he => (by
      obtain ⟨x, hx, hx2⟩ := List.mem_map.1 (mem_modL he).2
      rw [← hx2]; exact g.lt x hx), ?_⟩
    exact rng_modL hv g.rng
  | false =>
    simp only [Bool.false_eq_true, if_false]
    have hk : k ∉ keysL L := fun hm => by rw [(hasL_iff k L).2 hm] at h; simp at h
    refine ⟨?_, ?_, ?_, ?_⟩
    · unfold keysL
      rw [List.map_append, List.nodup_append]
      refine ⟨g.keys, by simp, fun a ha b hb => ?_⟩
      simp at hb
      subst hb
      intro e; subst e; exact hk ha
    · unfold bornL
      rw [List.map_append, List.nodup_append]
      refine ⟨g.born, by simp, fun a ha b hb => ?_⟩
      simp at hb
      subst hb
      obtain ⟨x, hx, rfl⟩ := List.mem_map.1 ha
      have := g.lt x hx
      omega
    · intro e he
      rw [List.mem_append] at he
      rcases he with he | he
      · have := g.lt e he; omega
      · simp at he; subst he; simp
    · intro e he
      rw [List.mem_append] at he
      rcases he with he | he
      · exact g.rng e he
      · simp at he; subst he; exact hv
theorem getL_rng {L : List En} {c : Nat} (g : GoodL L c) (k : B) : IntKind.i64.wrap (getL L k) = getL L k := by
  have h := g.rng
  clear g
  induction L with
  | nil => simp [getL, IntKind.wrap_i64]
  | cons x l ih =>
    unfold getL
    split
    · exact h x (List.mem_cons_self ..)
    · exact ih fun e he => h e (List.mem_cons_of_mem _ he)
theorem keys_setL {L : List En} {c : Nat} {k : B} {v : Int} {q : B} (h : q ∈ keysL (setL L c k v)) : q ∈ keysL L ∨ q = k := by
  unfold setL at h
  split at h
  · rw [keys_modL] at h; exact .inl h
  · simp only [keysL, List.map_append, List.mem_append, List.map_cons, List.map_nil, List.mem_singleton] at h
    exact h
def seenS : List En → Array Nat → Int
  | [], _ => 0
  | e :: l, seen => (if seen.contains e.2.2 then e.2.1 * (NT e.1 : Int) else 0) + seenS l seen
theorem seenS_none : ∀ L : List En, seenS L #[] = 0
  | [] => rfl
  | e :: l => by
    unfold seenS
    rw [seenS_none l]
    simp
theorem seenS_skip (b : Nat) (seen : Array Nat) : ∀ L : List En, b ∉ bornL L → seenS L (seen.push b) = seenS L seen
  | [], _ => rfl
  | e :: l, h => by
    have h1 : ¬ e.2.2 = b := fun e2 => h (by simp [bornL, e2])
    have h2 : b ∉ bornL l := fun hm => h (by simp only [bornL, List.map_cons, List.mem_cons]; exact .inr hm)
    unfold seenS
    rw [seenS_skip b seen l h2, Array.contains_push]
    simp [h1]
theorem seenS_push {e : En} {seen : Array Nat} : ∀ {L : List En}, (bornL L).Nodup → e ∈ L → seen.contains e.2.2 = false → seenS L (seen.push e.2.2) = seenS L seen + e.2.1 * (NT e.1 : Int)
  | [], _, h, _ => by simp at h
  | x :: l, hn, h, hs => by
    simp only [bornL, List.map_cons, List.nodup_cons] at hn
    unfold seenS
    rcases List.mem_cons.1 h with rfl | h
    · rw [seenS_skip _ _ _ hn.1, Array.contains_push, hs]
      simp
      omega
    · have hne : ¬ x.2.2 = e.2.2 := fun e2 => hn.1 (by rw [e2]; exact List.mem_map.2 ⟨e, h, rfl⟩)
      rw [seenS_push hn.2 h hs, Array.contains_push]
      simp [hne]
      omega
theorem seenS_all {seen : Array Nat} : ∀ {L : List En}, (∀ e ∈ L, seen.contains e.2.2 = true) → seenS L seen = sumL L
  | [], _ => rfl
  | x :: l, h => by
    unfold seenS sumL
    rw [seenS_all fun e he => h e (List.mem_cons_of_mem _ he), h x (List.mem_cons_self ..)]
    simp
theorem left_ens {L : List En} {seen : Array Nat} {x : MapEntry} (h : x ∈ (leftOf (ens L) seen).toList) : ∃ e ∈ L, x = en e ∧ seen.contains e.2.2 = false := by
  simp only [leftOf, ens, Array.toList_filter, List.mem_filter, List.mem_map] at h
  obtain ⟨⟨e, he, rfl⟩, h2⟩ := h
  exact ⟨e, he, rfl, by simpa [en] using h2⟩
theorem left_none {L : List En} {seen : Array Nat} (h : (leftOf (ens L) seen).size = 0) : ∀ e ∈ L, seen.contains e.2.2 = true := by
  intro e he
  cases hc : seen.contains e.2.2 with
  | true => rfl
  | false =>
    have : en e ∈ leftOf (ens L) seen := by
      unfold leftOf
      rw [Array.mem_filter]
      exact ⟨by simp only [ens, List.mem_toArray]; exact List.mem_map.2 ⟨e, he, rfl⟩, by simpa [en] using hc⟩
    have := Array.size_pos_of_mem this
    omega
def Sub (a b : B) : Prop := ∀ i, a.getLsbD i = true → b.getLsbD i = true
theorem Sub.zero {a : B} (h : Sub a 0) : a = 0 := B_zero fun i _ => by
  cases e : a.getLsbD i with
  | false => rfl
  | true => have := h i e; rw [zero_get] at this; simp at this
/-- What is left of the cells to come. -/
def pop (r : B) : B := r &&& ~~~low r
theorem Sub.pop_of {k r : B} (h : Sub k r) (hk : k &&& low r = 0) : Sub k (pop r) := fun i hi => by
  unfold pop
  rw [sub_get, h i hi]
  have : (k &&& low r).getLsbD i = false := by rw [hk, zero_get]
  rw [and_get, hi] at this
  simp at this
  simp [this]
theorem Sub.low_eq {k r : B} (h : Sub k r) (hk : k &&& low r ≠ 0) : low k = low r ∧ k ≠ 0 := by
  obtain ⟨i, hi, hg⟩ := B_ne hk
  rw [and_get, Bool.and_eq_true] at hg
  have hl := (low_get r i hi).1 hg.2
  refine ⟨?_, ne_of_get hg.1⟩
  have hlow : ∀ j, j < i → k.getLsbD j = false := fun j hj => by
    cases e : k.getLsbD j with
    | false => rfl
    | true => rw [← hl.2 j hj]; exact (h j e).symm
  rw [low_of hg.1 hlow, low_of hl.1 hl.2]
theorem Sub.pop_sub {k r : B} (h : Sub k r) (t : B) : Sub (k &&& ~~~(low r ||| t)) (pop r) := fun i hi => by
  rw [sub_get, or_get] at hi
  unfold pop
  rw [sub_get]
  simp only [Bool.and_eq_true, Bool.not_eq_true', Bool.or_eq_false_iff] at hi
  rw [h i hi.1, hi.2.1]; rfl
theorem final_sum {L : List En} {c : Nat} (g : GoodL L c) (h : ∀ k ∈ keysL L, k = 0) : getL L 0 = sumL L := by
  match L, g, h with
  | [], _, _ => rfl
  | [e], _, h =>
    have : e.1 = 0 := h e.1 (by simp [keysL])
    unfold getL sumL
    rw [this, if_pos rfl, NT_zero]
    unfold sumL
    omega
  | e :: f :: l, g, h =>
    have h1 : e.1 = 0 := h e.1 (by simp [keysL])
    have h2 : f.1 = 0 := h f.1 (by simp [keysL])
    have := g.keys
    simp [keysL, h1, h2] at this
end Go.AM
namespace Go.AM
open Go Go.Proofs
def k1n (o : Option Value) (k : Value → Res2) : Res2 := match o with
  | some r => k r
  | none => none
theorem k1_fun : k1 = k1n := by
  funext o k
  cases o with
  | none => rfl
  | some r => exact fVal_eq r k
theorem fVal_fun : (@fVal Res2 : Value → (Value → Res2) → Res2) = fun v k => k v := by
  funext v k
  exact fVal_eq v k
noncomputable def vcalln (P : Program) (base : Nat) (m : M) (b : Builtin) (tys : List TypeId) (vs : List Value) : Option (Value × M) := match b with
  | .len => match tys, vs with
    | t :: _, [x] => match mlen P t x with
      | some r => some (r, m)
      | none => none
    | _, _ => none
  | .min => match vs with
    | x :: xs => match mfold mmin2 x xs with
      | some r => some (r, m)
      | none => none
    | _ => none
  | .max => match vs with
    | x :: xs => match mfold mmax2 x xs with
      | some r => some (r, m)
      | none => none
    | _ => none
  | b => xbuiltin P base m b tys vs
theorem vcall_fun : vcall = vcalln := by
  funext P base m b tys vs
  unfold vcall vcalln
  cases b <;> first
    | rfl
    | (simp only [xbuiltin, obuiltin, fVal_eq]; done)
    | (simp only [xbuiltin, obuiltin, fVal_eq]; rfl)
def vi (n : Int) : Value := .int .i64 n
theorem ofInt_toNat (s : B) : BitVec.ofInt 64 (s.toNat : Int) = s := by
  apply BitVec.eq_of_toNat_eq
  rw [BitVec.ofInt_natCast, BitVec.toNat_ofNat]
  exact Nat.mod_eq_of_lt s.isLt
theorem wrap_u64 (n : Int) : IntKind.u64.wrap n = n % 18446744073709551616 := by
  rw [IntKind.wrap_u64]
theorem wrap_toNat (s : B) : IntKind.u64.wrap ((s.toNat : Nat) : Int) = (s.toNat : Int) := by
  rw [wrap_u64]
  have := s.isLt
  omega
theorem b_and (a b : B) : mbin E .and 58 (vb a) (vb b) = some (vb (a &&& b)) := by
  have e : mbin E .and 58 (vb a) (vb b) = some (.int .u64 (IntKind.u64.wrap (((BitVec.ofInt 64 (a.toNat : Int) &&& BitVec.ofInt 64 (b.toNat : Int)).toNat : Nat) : Int))) := rfl
  rw [e, ofInt_toNat, ofInt_toNat, wrap_toNat]
  rfl
theorem b_or (a b : B) : mbin E .or 58 (vb a) (vb b) = some (vb (a ||| b)) := by
  have e : mbin E .or 58 (vb a) (vb b) = some (.int .u64 (IntKind.u64.wrap (((BitVec.ofInt 64 (a.toNat : Int) ||| BitVec.ofInt 64 (b.toNat : Int)).toNat : Nat) : Int))) := rfl
  rw [e, ofInt_toNat, ofInt_toNat, wrap_toNat]
  rfl
theorem b_sub (a b : B) : mbin E .andNot 58 (vb a) (vb b) = some (vb (a &&& ~~~b)) := by
  have e : mbin E .andNot 58 (vb a) (vb b) = some (.int .u64 (IntKind.u64.wrap (((BitVec.ofInt 64 (a.toNat : Int) &&& ~~~BitVec.ofInt 64 (b.toNat : Int)).toNat : Nat) : Int))) := rfl
  rw [e, ofInt_toNat, ofInt_toNat, wrap_toNat]
  rfl
theorem b_shl (a : B) (n : Nat) (h : n ≤ 64) : mbin E .shl 58 (vb a) (.int .u64 (n : Int)) = some (vb (a <<< n)) := by
  have e : mbin E .shl 58 (vb a) (.int .u64 (n : Int)) = if (n : Int) < 0 then none else some (.int .u64 (IntKind.u64.wrap ((a.toNat : Int) * 2 ^ (min (n : Int).toNat 64)))) := rfl
  rw [e, if_neg (by omega), wrap_u64]
  have h1 : min (n : Int).toNat 64 = n := by omega
  rw [h1]
  unfold vb
  congr 2
  rw [BitVec.toNat_shiftLeft, Nat.shiftLeft_eq, Int.natCast_emod, Int.natCast_mul, Int.natCast_pow]
  rfl
theorem b_shr (a : B) (n : Nat) (h : n ≤ 64) : mbin E .shr 58 (vb a) (.int .u64 (n : Int)) = some (vb (a >>> n)) := by
  have e : mbin E .shr 58 (vb a) (.int .u64 (n : Int)) = if (n : Int) < 0 then none else some (.int .u64 ((a.toNat : Int).fdiv (2 ^ (min (n : Int).toNat 64)))) := rfl
  rw [e, if_neg (by omega)]
  have h1 : min (n : Int).toNat 64 = n := by omega
  rw [h1]
  unfold vb
  congr 2
  rw [BitVec.toNat_ushiftRight, Nat.shiftRight_eq_div_pow]
  rw [show ((2 : Int) ^ n) = ((2 ^ n : Nat) : Int) by norm_cast]
  exact (Int.ofNat_fdiv _ _).symm
theorem b_neg (a : B) : mun .neg (vb a) = some (vb (-a)) := by
  have e : mun .neg (vb a) = some (.int .u64 (IntKind.u64.wrap (0 - (a.toNat : Int)))) := rfl
  rw [e, wrap_u64]
  unfold vb
  congr 2
  rw [BitVec.toNat_neg]
  have := a.isLt
  omega
theorem b_eq (a b : B) : mbin E .eql 58 (vb a) (vb b) = some (.bool (decide (a = b))) := by
  have e : mbin E .eql 58 (vb a) (vb b) = some (.bool ((a.toNat : Int) == (b.toNat : Int))) := rfl
  rw [e]
  congr 2
  rw [Bool.eq_iff_iff]
  simp only [beq_iff_eq, decide_eq_true_eq]
  constructor
  · intro h; exact BitVec.eq_of_toNat_eq (by omega)
  · rintro rfl; rfl
theorem b_ne (a b : B) : mbin E .neq 58 (vb a) (vb b) = some (.bool (decide (a ≠ b))) := by
  have e : mbin E .neq 58 (vb a) (vb b) = some (.bool ((a.toNat : Int) != (b.toNat : Int))) := rfl
  rw [e]
  congr 2
  rw [Bool.eq_iff_iff]
  simp only [bne_iff_ne, ne_eq, decide_eq_true_eq, decide_not, Bool.not_eq_true', decide_eq_false_iff_not]
  constructor
  · intro h e2; subst e2; exact h rfl
  · intro h e2; exact h (BitVec.eq_of_toNat_eq (by omega))
end Go.AM
namespace Go.AM
open Go Go.Proofs
def rowz (z : Nat) (ex : Bool) (cs : List Value) : Row := { esz := z, ex := ex, ro := false, cells := cs }
abbrev sl (p N : Nat) : Value := .slice (some ⟨p, 0, none⟩) N N
abbrev pt (p off : Nat) : Value := .pointer (some ⟨p, off, none⟩)
/-- A slice that grows: nil while it has nothing, else a row of its own. -/
def Grow (z b : Nat) (m : M) (v : Value) (cs : List Value) (n : Nat) : Prop :=
  (n = 0 ∧ v = .slice none 0 0 ∧ cs = []) ∨ ∃ r, 1 ≤ n ∧ b ≤ r ∧ v = sl r n ∧ m[r]? = some (rowz z false cs) ∧ cs.length = n * z
def Keeps (n : Nat) (m m' : M) : Prop := m.length ≤ m'.length ∧ ∀ i, i < n → m'[i]? = m[i]?
theorem Keeps.refl (n : Nat) (m : M) : Keeps n m m := ⟨Nat.le_refl _, fun _ _ => rfl⟩
theorem Keeps.trans {n : Nat} {a b c : M} (h : Keeps n a b) (k : Keeps n b c) : Keeps n a c := ⟨Nat.le_trans h.1 k.1, fun i hi => (k.2 i hi).trans (h.2 i hi)⟩
theorem Keeps.mono {n k : Nat} {a b : M} (h : Keeps n a b) (hk : k ≤ n) : Keeps k a b := ⟨h.1, fun i hi => h.2 i (by omega)⟩
theorem Keeps.push (n : Nat) (m : M) (h : n ≤ m.length) (x : List Row) : Keeps n m (m ++ x) := ⟨by simp, fun i hi => List.getElem?_append_left (by omega)⟩
theorem Keeps.set (n : Nat) (m : M) (r : Nat) (row : Row) (h : n ≤ r) : Keeps n m (m.set r row) := ⟨by simp, fun i hi => List.getElem?_set_ne (by omega)⟩
theorem bs86 (m : M) (a : B) : xbuildSlice E.P m 86 1 [(0, vb a)] = some (sl m.length 1, m ++ [rowz 1 true [vb a]]) := by
  have : xbuildSlice E.P m 86 1 [(0, vb a)] = xlen m fun n => xpush m (rowz 1 true [vb a]) fun m' => some (sl n 1, m') := by kernel_rfl
  rw [this, xlen_eq, fNat_eq, xpush_eq, fList_eq]
theorem ap86e (base : Nat) (m : M) (a b : Value) : vcalln E.P base m .append [86, 86] [a, b] = xappend E.P base m [86, 86] a b := by kernel_rfl
theorem ap86nil (base : Nat) (m : M) (k : Nat) (cs : List Value) (hk : m[k]? = some (rowz 1 true cs)) (hc : cs.length = 1) : xappend E.P base m [86, 86] (.slice none 0 0) (sl k 1) = some (sl m.length 1, m ++ [rowz 1 false cs]) := by
  have e : xappend E.P base m [86, 86] (.slice none 0 0) (sl k 1) = match (xread m k 0 1).map fun cs => (1, cs) with
    | none => none
    | some (n, news) => if n = 0 then some (.slice none 0 0, m) else if n > 2 ^ 38 then none else xlen m fun k => fList news fun cs => xpush m (rowz 1 false cs) fun m' => some (.slice (some ⟨k, 0, none⟩) n n, m') := by kernel_rfl
  have q1 : xread m k 0 1 = some cs := by
    rw [xread_eq]
    simp [mread, hk, rowz, hc]
    try exact List.take_of_length_le (by omega)
  rw [e, q1]
  simp [xlen_eq, fNat_eq, xpush_eq, fList_eq]
theorem ap86some (base : Nat) (m : M) (r l k : Nat) (cs ds : List Value) (hr : m[r]? = some (rowz 1 false cs)) (hl : cs.length = l * 1) (h1 : 1 ≤ l) (h2 : l ≤ 100) (hb : base ≤ r)
    (hk : m[k]? = some (rowz 1 true ds)) (hd : ds.length = 1) (hc : ds.all (·.oneCell') = true) : xappend E.P base m [86, 86] (sl r l) (sl k 1) =
      some (sl m.length (l + 1), m.set r (rowz 1 false []) ++ [rowz 1 false (cs ++ ds)]) := by
  have e : xappend E.P base m [86, 86] (sl r l) (sl k 1) = match (xread m k 0 1).map fun cs => (1, cs) with
    | none => none
    | some (n, news) =>
      if l + n ≤ l then if n = 0 then some (.slice (some ⟨r, 0, none⟩) l l, m) else
        (xwrite base m r (0 + l * 1) news).bind fun m' => fNat (l + n) fun k => some (.slice (some ⟨r, 0, none⟩) k l, m')
      else if l + n > 2 ^ 38 then none else
        match xget m r, xread m r 0 (l * 1) with
        | some row, some olds =>
          if row.esz ≠ 1 then none else
          xlen m fun k => fNat (l + n) fun c => fList (olds ++ news) fun cs =>
          if row.ex then xpush m (rowz 1 false cs) fun m' => some (.slice (some ⟨k, 0, none⟩) c c, m')
          else if row.cells.isEmpty then none
          else if news.all (·.oneCell') then xkill base m r fun m' => xpush m' (rowz 1 false cs) fun m' => some (.slice (some ⟨k, 0, none⟩) c c, m')
          else none
        | _, _ => none := by kernel_rfl
  rw [e]
  have q1 : xread m k 0 1 = some ds := by
    rw [xread_eq]
    simp [mread, hk, rowz, hd]
    try exact List.take_of_length_le (by omega)
  have q2 : xread m r 0 (l * 1) = some cs := by
    rw [xread_eq]
    simp [mread, hr, rowz, hl]
    try exact List.take_of_length_le (by omega)
  rw [q1, q2, xget_eq, hr]
  simp only [Option.map_some]
  rw [if_neg (by omega), if_neg (by omega), if_neg (by simp [rowz]), xlen_eq, fNat_eq, fNat_eq, fList_eq, if_neg (by simp [rowz])]
  have ne : cs ≠ [] := by
    intro h
    rw [h] at hl
    simp at hl
    omega
  rw [if_neg (by simp [rowz, ne]), if_pos (by exact hc), xkill_eq]
  unfold mkill
  rw [if_neg (by omega), hr]
  simp only [rowz, Bool.false_eq_true, if_false, fList_eq, Option.bind_some, xpush_eq]
/-- One element more. -/
theorem grow86 {b base : Nat} {m : M} {v : Value} {cs : List Value} {n : Nat} (h : Grow 1 b m v cs n) (hn : n ≤ 100) (hbb : base ≤ b) (hbm : b ≤ m.length) (a : B) (hone : ([vb a] : List Value).all (·.oneCell') = true) :
    ∃ v' m', (∀ k : Value → M → Res2, (k2 (xbuildSlice E.P m 86 1 [(0, vb a)]) fun u m => k2 (vcalln E.P base m .append [86, 86] [v, u]) k) = k v' m') ∧ Grow 1 b m' v' (cs ++ [vb a]) (n + 1) ∧ Keeps b m m' := by
  have hk : (m ++ [rowz 1 true [vb a]])[m.length]? = some (rowz 1 true [vb a]) := by simp
  rcases h with ⟨rfl, rfl, rfl⟩ | ⟨r, h1, hb, rfl, hr, hl⟩
  · refine ⟨_, (m ++ [rowz 1 true [vb a]]) ++ [rowz 1 false [vb a]], fun k => ?_, .inr ⟨(m ++ [rowz 1 true [vb a]]).length, by omega, by simp; omega, rfl, ?_, by simp⟩, ?_⟩
    · rw [bs86]
      simp only [k2]
      rw [ap86e, ap86nil _ _ _ _ hk rfl]
    · simp
    · exact (Keeps.push b m hbm _).trans (Keeps.push b _ (by simp; omega) _)
  · have hlt : r < m.length := (List.getElem?_eq_some_iff.1 hr).1
    refine ⟨_, (m ++ [rowz 1 true [vb a]]).set r (rowz 1 false []) ++ [rowz 1 false (cs ++ [vb a])], fun k => ?_, .inr ⟨(m ++ [rowz 1 true [vb a]]).length, by omega, by simp; omega, rfl, ?_, by simp [hl, Nat.add_mul]⟩, ?_⟩
    · rw [bs86]
      simp only [k2]
      rw [ap86e, ap86some _ _ _ _ _ _ _ (by rw [List.getElem?_append_left hlt]; exact hr) hl h1 hn (by omega) hk rfl hone]
    · simp
    · exact ((Keeps.push b m hbm _).trans (Keeps.set b _ r _ hb)).trans (Keeps.push b _ (by simp; omega) _)
end Go.AM
