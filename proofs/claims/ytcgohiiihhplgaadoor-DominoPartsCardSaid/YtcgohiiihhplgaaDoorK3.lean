import Derived.Carry
import Derived.KernelRfl
import Derived.Laws.BytesArg
import Derived.Laws.StructEq
import Derived.Maps.AppendAt
import Derived.Maps.OwnOps
import Derived.Maps.RangeRun
import Derived.Maps.RangeWalk
import Derived.Test.YtcgohiiihhplgaaDoorRows
import Derived.WalkKit
import Derived.Test.YtcgohiiihhplgaaDoorAmB
import Derived.Test.YtcgohiiihhplgaaDoorAmModel
import Derived.Test.YtcgohiiihhplgaaDoorAmOps6
import Derived.Test.YtcgohiiihhplgaaDoorAmCode
import Derived.Test.YtcgohiiihhplgaaDoorAmK2
import Derived.Test.YtcgohiiihhplgaaDoorAmEq
import Derived.Test.YtcgohiiihhplgaaDoorRBase
import Derived.Test.YtcgohiiihhplgaaDoorB1
import Derived.Test.YtcgohiiihhplgaaDoorK1
import Derived.Test.YtcgohiiihhplgaaDoorR6
import Derived.Test.YtcgohiiihhplgaaDoorR41
import Derived.Test.YtcgohiiihhplgaaDoorR42
import Derived.Test.YtcgohiiihhplgaaDoorD3
set_option linter.unusedVariables false
set_option linter.unusedSimpArgs false
set_option linter.unusedSectionVars false
namespace Go.AM
open Go Go.Proofs
open Go.ChangeMaps (setBlock)
/-- Block b holds this map. -/
def MapAt (w : World) (b : Nat) (L : List En) (c : Nat) : Prop := w.heap[b]? = some (.map (ens L) c)
theorem MapAt.lt {w : World} {b : Nat} {L : List En} {c : Nat} (h : MapAt w b L c) : b < w.heap.size := (Array.getElem?_eq_some_iff.1 h).1
theorem MapAt.grown {w w' : World} {b : Nat} {L : List En} {c : Nat} (h : MapAt w b L c) {row : Option Nat} (g : w.grownBy w' row) (hne : some b ≠ row) : MapAt w' b L c := (g.block b h.lt hne).trans h
/-- How many entries have not been handed out. -/
def unseen (L : List En) (seen : Array Nat) : Nat := (L.filter fun e => !seen.contains e.2.2).length
theorem unseen_push {L : List En} {seen : Array Nat} {e : En} (he : e ∈ L) (hs : seen.contains e.2.2 = false) : unseen L (seen.push e.2.2) < unseen L seen := by
  unfold unseen
  have e2 : (L.filter fun x => !(seen.push e.2.2).contains x.2.2) = (L.filter fun x => !seen.contains x.2.2).filter fun x => !(x.2.2 == e.2.2) := by
    rw [List.filter_filter]
    apply List.filter_congr
    intro x _
    rw [Array.contains_push]
    cases seen.contains x.2.2 <;> cases (x.2.2 == e.2.2) <;> rfl
  rw [e2]
  refine List.length_filter_lt_length_iff_exists.2 ⟨e, List.mem_filter.2 ⟨he, by rw [hs]; rfl⟩, ?_⟩
  simp
section
variable (w : World) {ops : Array Oper} {rest : List Oper} {o : Oper} {a : Act} {Q : Exit → Act → World → Prop}
theorem wp_make (hg : o.guard = none) (t : TypeId) (hop : o.op = Op.makeMap t none)
    (hK : ∀ w', MapAt w' w.heap.size [] 0 → w.grownBy w' none → w'.heap.size = w.heap.size + 1 → wpList Tryd.prog ops Q rest (a.put o.dst (.map (some w.heap.size))) w') :
    wpList Tryd.prog ops Q (o :: rest) a w := by
  refine wpList_plain hg fun K' hK' => ?_
  have hrun : (Instr.makeMap t none).run Tryd.prog w = .ok (.map (some w.heap.size)) (w.alloc (.map #[] 0)) := rfl
  unfold Oper.wp
  simp [execOp, hop, hrun, Result.andThen]
  refine hK' _ _ (hK _ ?_ ⟨rfl, rfl, rfl, by simp, fun k hk _ => heap_alloc_old w _ hk⟩ (by simp))
  exact heap_alloc_new w _
theorem set_grown {w : World} {b : Nat} {o o' : Obj} (h : w.heap[b]? = some o) : w.grownBy (setBlock w b o') (some b) ∧ (setBlock w b o').heap[b]? = some o' ∧ (setBlock w b o').heap.size = w.heap.size :=
  ⟨⟨rfl, rfl, rfl, by simp [setBlock], fun k _ hne => (MapKept.heap_set h).2 k (fun e => hne (by rw [e]))⟩, (MapKept.heap_set h).1, by simp [setBlock]⟩
theorem wp_upd (hg : o.guard = none) (m x v : Operand) (hop : o.op = Op.mapUpdate 104 m x v ∨ o.op = Op.insert 104 m x v) (b : Nat) (L : List En) (c : Nat) (k : B) (n : Int) (hm : a.eval m = .map (some b)) (hx : a.eval x = vb k) (hv : a.eval v = .int .i64 n) (h : MapAt w b L c)
    (hK : ∀ w', MapAt w' b (setL L c k n) (clockL L c k) → w.grownBy w' (some b) → w'.heap.size = w.heap.size → wpList Tryd.prog ops Q rest (a.put o.dst undef) w') :
    wpList Tryd.prog ops Q (o :: rest) a w := by
  refine wpList_plain hg fun K' hK' => ?_
  have hrun := run_upd w b L c k n h
  obtain ⟨g1, g2, g3⟩ := set_grown (o' := .map (ens (setL L c k n)) (clockL L c k)) h
  unfold Oper.wp
  rcases hop with hop | hop
  · simp [execOp, hop, hm, hx, hv, hrun, Result.andThen]
    exact hK' _ _ (hK _ g2 g1 g3)
  · simp [execOp, hop, hm, hx, hv, hrun, Result.andThen]
    exact hK' _ _ (hK _ g2 g1 g3)
theorem wp_look (hg : o.guard = none) (m x : Operand) (hop : o.op = Op.lookup 104 m x false) (b : Nat) (L : List En) (c : Nat) (k : B) (hm : a.eval m = .map (some b)) (hx : a.eval x = vb k) (h : MapAt w b L c)
    (hK : wpList Tryd.prog ops Q rest (a.put o.dst (.int .i64 (getL L k))) w) :
    wpList Tryd.prog ops Q (o :: rest) a w := by
  refine wpList_plain hg fun K' hK' => ?_
  have hrun := run_look w b L c k h
  unfold Oper.wp
  simp [execOp, hop, hm, hx, hrun, Result.andThen]
  exact hK' _ _ hK
/-- The iterator's block. -/
def IterAt (w : World) (r b since : Nat) (seen : Array Nat) (c : Nat) : Prop := w.heap[r]? = some (.mapIter (some b) since seen c)
theorem IterAt.lt {w : World} {r b since : Nat} {seen : Array Nat} {c : Nat} (h : IterAt w r b since seen c) : r < w.heap.size := (Array.getElem?_eq_some_iff.1 h).1
theorem IterAt.grown {w w' : World} {r b since : Nat} {seen : Array Nat} {c : Nat} (h : IterAt w r b since seen c) {row : Option Nat} (g : w.grownBy w' row) (hne : some r ≠ row) : IterAt w' r b since seen c := (g.block r h.lt hne).trans h
theorem wp_range (hg : o.guard = none) (m : Operand) (hop : o.op = Op.range 104 m) (b : Nat) (L : List En) (c : Nat) (hm : a.eval m = .map (some b)) (h : MapAt w b L c)
    (hK : ∀ w', IterAt w' w.heap.size b c #[] c → w.grownBy w' none → w'.heap.size = w.heap.size + 1 → wpList Tryd.prog ops Q rest (a.put o.dst (.pointer (some ⟨w.heap.size, 0, none⟩))) w') :
    wpList Tryd.prog ops Q (o :: rest) a w := by
  refine wpList_plain hg fun K' hK' => ?_
  have hrun := run_range_map (P := Tryd.prog) w 104 58 3 b (ens L) c un104 h
  unfold Oper.wp
  simp [execOp, hop, hm, hrun, Result.andThen]
  refine hK' _ _ (hK _ ?_ ⟨rfl, rfl, rfl, by simp, fun k hk _ => heap_alloc_old w _ hk⟩ (by simp))
  exact heap_alloc_new w _
theorem wp_next (hg : o.guard = none) (it : Operand) (hop : o.op = Op.next it false) (b r : Nat) (L : List En) (c : Nat) (seen : Array Nat) (g : GoodL L c) (hit : a.eval it = .pointer (some ⟨r, 0, none⟩)) (h : MapAt w b L c) (hi : IterAt w r b c seen c) (hne : b ≠ r)
    (hDone : (∀ e ∈ L, seen.contains e.2.2 = true) → wpList Tryd.prog ops Q rest (a.put o.dst (.tuple #[.bool false])) w)
    (hMore : ∀ (k : B) (n : Int) (t : Nat) (w' : World), (k, n, t) ∈ L → seen.contains t = false → IterAt w' r b c (seen.push t) c → w.grownBy w' (some r) → w'.heap.size = w.heap.size →
      (Instr.entry (.pointer (some ⟨r, 0, none⟩))).run Tryd.prog w' = .ok (.tuple #[vb k, .int .i64 n]) w' → wpList Tryd.prog ops Q rest (a.put o.dst (.tuple #[.bool true, vb k, .int .i64 n])) w') :
    wpList Tryd.prog ops Q (o :: rest) a w := by
  refine wpList_plain hg fun K' hK' => ?_
  unfold Oper.wp
  rcases run_next_at (P := Tryd.prog) w o.type r b c c seen (ens L) c hi h (fun x hx => by
    obtain ⟨e, he, rfl⟩ := List.mem_map.1 (show x ∈ L.map en by simpa [ens] using hx)
    exact g.lt e he) (Nat.le_refl _) with ⟨h0, hrun⟩ | ⟨x, hx, w1, hw1, hrun⟩
  · simp [execOp, hop, hit, hrun, Result.andThen]
    exact hK' _ _ (hDone (left_none h0))
  · obtain ⟨e, he, rfl, hs⟩ := left_ens hx
    obtain ⟨k, n, t⟩ := e
    simp [execOp, hop, hit, hrun, Result.andThen]
    have hi1 : IterAt w1 r b c seen c := by rcases hw1 with rfl | rfl <;> exact hi
    have hh1 : MapAt w1 b L c := by rcases hw1 with rfl | rfl <;> exact h
    have hg1 : w.grownBy w1 none := by rcases hw1 with rfl | rfl <;> exact ⟨rfl, rfl, rfl, Nat.le_refl _, fun _ _ _ => rfl⟩
    have hz1 : w1.heap.size = w.heap.size := by rcases hw1 with rfl | rfl <;> rfl
    obtain ⟨g1, g2, g3⟩ := set_grown (o' := .mapIter (some b) c (seen.push t) c) hi1
    refine hK' _ _ (hMore k n t _ he hs g2 ((hg1.but _).trans g1) (g3.trans hz1) ?_)
    · refine run_entry_at (P := Tryd.prog) _ r b c seen (ens L) c (en (k, n, t)) g2 ((set_grown hi1).1.block b hh1.lt (fun e => hne (Option.some.inj e)) |>.trans hh1) (by simp only [ens]; exact List.mem_map.2 ⟨_, he, rfl⟩) ?_
      have := g.born
      simpa [ens, bornL, en, List.map_map, Function.comp_def] using this
end
end Go.AM
