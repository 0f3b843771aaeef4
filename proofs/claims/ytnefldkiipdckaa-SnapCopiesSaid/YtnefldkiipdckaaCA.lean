import Derived.ChangeStays
import Derived.Deep.DeepHandedRow
import Derived.Deep.Slices
import Derived.Deep.Strs
import Derived.JoinedCond
import Derived.KernelRfl
import Derived.LaidLaws
import Derived.Laws.BytesArg
import Derived.Laws.StructEq
import Derived.OpenShut
import Derived.ProofKit
import Derived.RangeFuncLeaves
import Derived.RangeFuncRecord
import Derived.RowKit
import Derived.Test.YtnefldkiipdckaaProg
import Derived.Test.YtnefldkiipdckaaRows
import Derived.WalkKit
import Derived.Test.YtnefldkiipdckaaAmB
import Derived.Test.YtnefldkiipdckaaAmG
import Derived.Test.YtnefldkiipdckaaAmModel
import Derived.Test.YtnefldkiipdckaaAmRel
import Derived.Test.YtnefldkiipdckaaAmOps6
import Derived.Test.YtnefldkiipdckaaAmCode
import Derived.Test.YtnefldkiipdckaaAmDraw5
import Derived.Test.YtnefldkiipdckaaAmEq
import Derived.Test.YtnefldkiipdckaaRBase
import Derived.Test.YtnefldkiipdckaaR58
import Derived.Test.YtnefldkiipdckaaR107
import Derived.Test.YtnefldkiipdckaaAmS
import Derived.Test.YtnefldkiipdckaaS16
import Derived.Test.YtnefldkiipdckaaS17
import Derived.Test.YtnefldkiipdckaaNM1
import Derived.Test.YtnefldkiipdckaaNA
import Derived.Test.YtnefldkiipdckaaTH
set_option linter.unusedVariables false
set_option linter.unusedSimpArgs false
set_option linter.unusedSectionVars false
namespace Go.AM
open Go Go.Proofs
open Go.ChangeShapes Go.WideShapes
section
variable {H : Type} {enc : TypeId × Value → H} {P : Program} {w : World} {base : Nat} {sp : Nat → Bool} {held : Bool}
end
theorem addr_add (bk off n : Nat) : (⟨bk, off, none⟩ : Addr).add n = ⟨bk, off + n, none⟩ := by
 unfold Addr.add
 split
 ·rename_i h
  simp_all
 ·rfl
def Same (W W' : World) : Prop := ∀ b, b < W.heap.size → W'.heap[b]? = W.heap[b]?
def Stays (W w' : World) : Prop := W.keptBut w' (fun _ => False) ∧ ∀ a, a.block < W.heap.size → w'.frozen? a = W.frozen? a
theorem glob0 (W : World) : Glob (fun _ => none) W := ⟨fun g l h => by simp [glook, gtabs] at h, fun g l h => by simp [glook, gtabs] at h⟩
theorem post_of_stays {H : Type} {enc : TypeId × Value → H} {P : Program} {f : Func} {s : ChangeSpec} {apart fresh handsOn again : Bool} {W W' : World} {args : Array Value} {v : Value} {ds gs : List (DataW H)} {before pa pv : List MemPlace}
  (hW : DataW.Whole enc P f.params.toList s.vars apart W args.toList ds gs before)
  (hres : ∀ (b : Nat) (sp : Nat → Bool) (hd : Bool), DataW.TrodAll enc P W' b sp hd f.resultTypes.toList (v.resultList f.resultTypes.size) (s.fn H (ds ++ gs)).results [])
  (hargs : ∀ sp : Nat → Bool, (∀ p ∈ before, sp p.block = true) → DataW.TrodAll enc P W' 0 sp true f.params.toList args.toList (s.fn H (ds ++ gs)).args pa)
  (hvars : ∀ sp : Nat → Bool, (∀ p ∈ before, sp p.block = true) → DataW.TrodVars enc P W' sp s.vars (s.fn H (ds ++ gs)).vars pv)
  (hps : before = pa ++ pv) (hk : W.keptBut W' (· ∈ before)) (hfz : ∀ a, a.block < W.heap.size → W'.frozen? a = W.frozen? a)
  (hok : ∀ (j : Nat) (t : TypeId) (r : Value), f.resultTypes[j]? = some t → (v.resultList f.resultTypes.size)[j]? = some r → Value.okWide P W' .any 0 t r) :
  s.post enc P f apart fresh handsOn again W args v W' := by
 have hlt : ∀ p ∈ before, p.block < W.heap.size := fun p hp => hW.lt p hp
 have hold : ∀ p ∈ before, (fun b => decide (b < W.heap.size)) p.block = true := fun p hp => by simpa using hlt p hp
 refine ⟨ds, gs, before, [], pa, pv, hW, hres _ _ _, hargs _ hold, hvars _ hold, World.keptBut_mono (fun p hp => ⟨hp, ?_⟩) hk, fun _ => ?_⟩
 ·rw [hps, List.mem_append] at hp
  exact Or.inr hp
 ·obtain ⟨_, _, _, _, _, hz, hn⟩ := hW
  refine ⟨hok, _, _, ([] ++ pa) ++ pv, ⟨[] ++ pa, pv, trodAll_append (hargs _ (fun _ _ => rfl)) (hres _ _ _), hvars _ (fun _ _ => rfl), rfl, ?_, ?_⟩, ?_⟩
  ·intro b off hp
   have hp' : MemPlace.cell b off ∈ before := by rw [hps]; simpa using hp
   rw [hfz _ (hlt _ hp')]
   exact hz b off hp'
  ·intro ha
   have := hn ha
   rw [hps] at this
   simpa using this
  ·intro p hp _
   rw [hps]
   simpa using hp
theorem stays_same {ρ ρ' : Map} {n : Nat} {W w' : World} (hd : ∀ r l, ρ r = some l → r < n) (h : Ext n ρ ρ' W w') : Stays W w' ∧ ∀ b, b < W.heap.size → w'.heap[b]? = W.heap[b]? := by
 have hf : ∀ b, b < W.heap.size → w'.heap[b]? = W.heap[b]? := fun b hb => h.frame b hb fun r l hr hn => by
  have := hd r l hr
  omega
 refine ⟨⟨⟨h.os, h.output, fun i hi => ?_⟩, fun a ha => ?_⟩, hf⟩
 ·rw [hf i hi]
  cases W.heap[i]? with
  | none => rfl
  | some o => cases o with
   | cells c t fr => exact ⟨rfl, rfl, rfl, fun _ _ => rfl⟩
   | map es clock => exact .inr ⟨rfl, rfl⟩
   | _ => rfl
 ·unfold World.frozen?
  rw [hf a.block ha]
theorem kids : Kids Try.prog (· < Try.prog.types.size) := kids_rows (by kernel_rfl) (by kernel_rfl)
theorem rowsPos : ((List.range Try.prog.types.size).all fun t => match Try.prog.underlying t with
 | some (.slice e) => decide (0 < Try.prog.cellsOf e)
 | _ => true) = true := by kernel_rfl
theorem slicePos {t e : TypeId} (h : t < Try.prog.types.size) (hu : Try.prog.underlying t = some (.slice e)) : 0 < Try.prog.cellsOf e := by
 have := List.all_eq_true.1 rowsPos t (List.mem_range.2 h)
 rw [hu] at this
 simpa using this
theorem trod_back {H : Type} {enc : TypeId × Value → H} {W W' : World} {t : TypeId} {v : Value} {d : DataW H} {p : List MemPlace} (ht : t < Try.prog.types.size) (h : DataW.Trod enc Try.prog W 0 (fun _ => true) true t v d p) (hS : Same W W') (hlt : ∀ q ∈ p, q.block < W.heap.size) {sp : Nat → Bool} (hsp : ∀ q ∈ p, sp q.block = true) :
  DataW.Trod enc Try.prog W' 0 sp true t v d p := by
 obtain ⟨fuel, hf⟩ := h
 refine ⟨fuel, DataW.trod_stays kids slicePos (fun h => by simp at h) ht hf (fun q hq => ?_) hsp⟩
 have hb := hS q.block (hlt q hq)
 cases q with
 | cell b off =>
  simp only [MemPlace.block] at hb
  show W'.cell? ⟨b, off, none⟩ = W.cell? ⟨b, off, none⟩
  unfold World.cell?
  rw [hb]
 | map b => exact hb
theorem trodAll_back {H : Type} {enc : TypeId × Value → H} {W W' : World} (hS : Same W W') {sp : Nat → Bool} : ∀ {ts : List TypeId} {vs : List Value} {ds : List (DataW H)} {p : List MemPlace}, (∀ t ∈ ts, t < Try.prog.types.size) → DataW.TrodAll enc Try.prog W 0 (fun _ => true) true ts vs ds p → (∀ q ∈ p, q.block < W.heap.size) → (∀ q ∈ p, sp q.block = true) →
  DataW.TrodAll enc Try.prog W' 0 sp true ts vs ds p
 | [], _, _, _, _, h, _, _ => by
  obtain ⟨rfl, rfl, rfl⟩ := trodAll_nil h
  exact trodAll_mk0
 | t :: ts, _, _, _, ht, h, hlt, hsp => by
  obtain ⟨v, vs1, d, ds1, a, b, rfl, rfl, rfl, h1, h2⟩ := trodAll_cons h
  exact trodAll_cons_mk (trod_back (ht t (by simp)) h1 hS (fun q hq => hlt q (by simp [hq])) (fun q hq => hsp q (by simp [hq]))) (trodAll_back hS (fun t' h' => ht t' (by simp [h'])) h2 (fun q hq => hlt q (by simp [hq])) (fun q hq => hsp q (by simp [hq])))
theorem un4 : Try.prog.underlying 4 = some .bool := by kernel_rfl
theorem un5 : Try.prog.underlying 5 = some (.int .u8) := by kernel_rfl
theorem un36 : Try.prog.underlying 36 = some (.struct (Try.prog.fieldsOf 36)) := by kernel_rfl
theorem ce3 : Try.prog.cellsOf 3 = 1 := by kernel_rfl
theorem ce5 : Try.prog.cellsOf 5 = 1 := by kernel_rfl
theorem ce36 : Try.prog.cellsOf 36 = 4 := by kernel_rfl
theorem fs36 : (Try.prog.fieldsOf 36).map (fun f => (f.type, f.offset)) = #[(5, 0), (3, 1), (3, 2), (3, 3)] := by kernel_rfl
theorem fa36 {j t o : Nat} (h : (#[(5, 0), (3, 1), (3, 2), (3, 3)] : Array (Nat × Nat))[j]? = some (t, o)) : ∃ f, (Try.prog.fieldsOf 36)[j]? = some f ∧ f.type = t ∧ f.offset = o := by
 have e : ((Try.prog.fieldsOf 36).map (fun f => (f.type, f.offset)))[j]? = some (t, o) := by rw [fs36]; exact h
 rw [Array.getElem?_map] at e
 cases hf : (Try.prog.fieldsOf 36)[j]? with
 | none => simp [hf] at e
 | some f =>
  simp only [hf, Option.map_some, Option.some.injEq, Prod.mk.injEq] at e
  exact ⟨f, rfl, e.1, e.2⟩
end Go.AM
namespace Go.AM
open Go Go.Proofs
open Go.ChangeShapes Go.WideShapes
theorem rel_addro {ρ : Map} {m : M} {W : World} (hR : Rel ρ m W) (hro : ∀ row ∈ m, row.ro = true) {bk off esz : Nat} {C : Array Value} {T : TypeId} {fz : _} (hheap : W.heap[bk]? = some (.cells C T fz)) (cells : List Value) (hsz : off + cells.length ≤ C.size)
  (hc : ∀ j v, cells[j]? = some v → ∃ v', C[off + j]? = some v' ∧ VRel ρ v v') :
  ∃ ρ' : Map, ρ.le ρ' ∧ ρ' m.length = some ⟨bk, off, C.size, esz, false, false⟩ ∧ Rel ρ' (m ++ [{ esz := esz, ex := false, ro := true, cells := cells }]) W ∧ ∀ row ∈ (m ++ [{ esz := esz, ex := false, ro := true, cells := cells }] : M), row.ro = true := by
 have hnone : ρ m.length = none := by
  cases e : ρ m.length with
  | none => rfl
  | some l => have := hR.dom _ _ e; omega
 let ρ' : Map := fun r => if r = m.length then some ⟨bk, off, C.size, esz, false, false⟩ else ρ r
 have hle : ρ.le ρ' := by
  intro r l hr
  have : r ≠ m.length := by intro e; subst e; rw [hnone] at hr; simp at hr
  simp [ρ', this, hr]
 have hro' : ∀ row ∈ (m ++ [{ esz := esz, ex := false, ro := true, cells := cells }] : M), row.ro = true := by
  intro row h
  rcases List.mem_append.1 h with h | h
  ·exact hro row h
  ·simp only [List.mem_singleton] at h
   subst h; rfl
 have cs : ∀ r l, ρ' r = some l → (r = m.length ∧ l = ⟨bk, off, C.size, esz, false, false⟩) ∨ (r ≠ m.length ∧ ρ r = some l) := by
  intro r l h
  by_cases e : r = m.length
  ·simp only [ρ', if_pos e, Option.some.injEq] at h
   exact .inl ⟨e, h.symm⟩
  ·simp only [ρ', if_neg e] at h
   exact .inr ⟨e, h⟩
 refine ⟨ρ', hle, by simp [ρ'], ⟨fun r l h => ?_, fun r l row h hr => ?_, fun r r' l l' row row' h h' hne hr hr' hf => ?_, fun r r' l l' h h' hne hk hk' => ?_, ?_⟩, hro'⟩
 ·rcases cs r l h with ⟨rfl, _⟩ | ⟨_, h⟩
  ·simp
  ·have := hR.dom r l h
   simp; omega
 ·rcases cs r l h with ⟨rfl, rfl⟩ | ⟨hne, h⟩
  ·simp only [List.getElem?_concat_length, Option.some.injEq] at hr
   subst hr
   refine ⟨fun _ => ⟨rfl, rfl, C, T, fz, hheap, rfl, hsz, fun h => by simp at h, fun j v hj => ?_⟩, fun h => by simp at h⟩
   obtain ⟨v', h1, h2⟩ := hc j v hj
   exact ⟨v', h1, h2.mono hle⟩
  ·have hlt := hR.dom r l h
   rw [List.getElem?_append_left hlt] at hr
   exact (hR.row' r l row h hr).mono hle rfl
 ·have := hro' row (List.mem_of_getElem? hr)
  rw [this] at hf
  simp at hf
 ·rcases cs r l h with ⟨_, rfl⟩ | ⟨_, h⟩
  ·simp at hk
  ·rcases cs r' l' h' with ⟨_, rfl⟩ | ⟨_, h'⟩
   ·simp at hk'
   ·exact hR.lsep r r' l l' h h' hne hk hk'
 ·exact ⟨fun g k hg => by simp [glook, gtabs] at hg, fun g k hg => by simp [glook, gtabs] at hg⟩
theorem flat_cell {α : Type} {f : α → List Value} {z : Nat} (hl : ∀ a, (f a).length = z) : ∀ (l : List α) (j : Nat) (h : j < l.length), ((l.flatMap f).drop (j * z)).take z = f l[j]
 | a :: l, 0, _ => by
  rw [Nat.zero_mul, List.drop_zero, List.flatMap_cons, List.take_append_of_le_length (by rw [hl]; exact Nat.le_refl _)]
  exact List.take_of_length_le (by rw [hl]; exact Nat.le_refl _)
 | a :: l, j + 1, h => by
  have e : (j + 1) * z = (f a).length + j * z := by rw [hl, Nat.add_mul]; omega
  rw [List.flatMap_cons, e, List.drop_append]
  rw [List.drop_eq_nil_of_le (by omega), List.nil_append, Nat.add_sub_cancel_left]
  simpa using flat_cell hl l j (by simpa using h)
theorem flat_len {α : Type} {f : α → List Value} {z : Nat} (hl : ∀ a, (f a).length = z) (l : List α) : (l.flatMap f).length = l.length * z := by
 induction l with
 | nil => simp
 | cons a l ih => rw [List.flatMap_cons, List.length_append, hl, ih, List.length_cons, Nat.add_mul]; omega
theorem flat_get {α : Type} {f : α → List Value} {z : Nat} (hl : ∀ a, (f a).length = z) (l : List α) (q : Nat) (v : Value) (hv : (l.flatMap f)[q]? = some v) : ∃ j k, ∃ h : j < l.length, k < z ∧ q = j * z + k ∧ (f l[j])[k]? = some v := by
 have hq : q < l.length * z := by
  rw [← flat_len hl]
  exact (List.getElem?_eq_some_iff.1 hv).1
 have hz : 0 < z := by
  rcases Nat.eq_zero_or_pos z with h | h
  ·subst h; simp at hq
  ·exact h
 have hj : q / z < l.length := (Nat.div_lt_iff_lt_mul hz).2 hq
 have hk : q % z < z := Nat.mod_lt _ hz
 have e : q / z * z + q % z = q := by rw [Nat.mul_comm]; exact Nat.div_add_mod q z
 refine ⟨q / z, q % z, hj, hk, e.symm, ?_⟩
 rw [← flat_cell hl l _ hj, List.getElem?_take, if_pos hk, List.getElem?_drop, e, hv]
theorem openFlat {H : Type} {enc : TypeId × Value → H} {W : World} {t e : TypeId} {z : Nat} (ht : Try.prog.underlying t = some (.slice e)) (ce : Try.prog.cellsOf e = z) (hz : 0 < z) {α : Type} [Inhabited α] (f : α → List Value) (hl : ∀ a, (f a).length = z) (hs : ∀ a v, v ∈ f a → ∀ ρ : Map, VRel ρ v v)
  (hQ : ∀ n cs x, DataW.trod enc Try.prog W 0 (fun _ => true) true n e cs = some x → ∃ a, cs = f a) {ρ : Map} {m : M} (hR : Rel ρ m W) (hro : ∀ row ∈ m, row.ro = true) {fuel : Nat} {v : Value} {x : DataW H × List MemPlace} (h : DataW.trod enc Try.prog W 0 (fun _ => true) true fuel t [v] = some x) :
  ∃ (ρ' : Map) (ext : M) (xv : Value) (l : List α), ρ.le ρ' ∧ Rel ρ' (m ++ ext) W ∧ (∀ row ∈ (m ++ ext : M), row.ro = true) ∧ VRel ρ' xv v ∧ ((l = [] ∧ (xv = nilS ∨ xv = emS)) ∨ ∃ p row, xv = slo p 0 l.length l.length ∧ (m ++ ext)[p]? = some row ∧ row.esz = z ∧ row.cells = l.flatMap f) := by
 rcases Go.Deep.open_slice ht h with ⟨hc, hx⟩ | ⟨a, len, cap, k, n, D, Pl, hc, _, hlen, _, hmm, hx, hall⟩
 ·simp only [List.cons.injEq, and_true] at hc
  subst hc
  exact ⟨ρ, [], nilS, [], Map.le_refl _, by simpa using hR, by simpa using hro, .sliceNil, .inl ⟨rfl, .inl rfl⟩⟩
 ·simp only [List.cons.injEq, and_true] at hc
  subst hc
  simp only [if_true] at hmm
  subst hmm
  by_cases hk0 : k = 0
  ·subst hk0
   obtain rfl : len = 0 := by omega
   exact ⟨ρ, [], emS, [], Map.le_refl _, by simpa using hR, by simpa using hro, .sliceE, .inl ⟨rfl, .inr rfl⟩⟩
  ·have h0 := hall 0 (by omega)
   obtain ⟨cs0, c0, _⟩ := h0
   rw [ce] at c0
   obtain ⟨_, hl0, hcell0⟩ := World.cells?_some c0
   have hc00 := hcell0 0 (by omega)
   rw [Nat.zero_mul] at hc00
   have hspot : a.spot = none ∧ ∃ C T fz, W.heap[a.block]? = some (.cells C T fz) := by
    have e1 : (a.add 0).add 0 = a := by simp [Addr.add]
    rw [e1] at hc00
    unfold World.cell? at hc00
    have hpos : 0 < cs0.length := by omega
    cases hh : W.heap[a.block]? with
    | none => rw [hh] at hc00; simp [hpos] at hc00
    | some o =>
     rw [hh] at hc00
     cases o with
     | cells C T fz =>
      simp only at hc00
      split at hc00
      ·simp [hpos] at hc00
      ·rename_i hs
       exact ⟨by simpa using hs, C, T, fz, rfl⟩
     | _ => simp [hpos] at hc00
   obtain ⟨bk, off, spot⟩ := a
   obtain ⟨hsp, C, T, fz, hheap⟩ := hspot
   simp only at hsp hheap
   subst hsp
   have each : ∀ i, i < k → ∃ b : α, ∀ q, q < z → C[off + i * z + q]? = (f b)[q]? := fun i hi => by
    obtain ⟨cs', c1, c2⟩ := hall i hi
    obtain ⟨b, rfl⟩ := hQ _ _ _ c2
    rw [ce] at c1
    obtain ⟨_, _, hcell⟩ := World.cells?_some c1
    refine ⟨b, fun q hq => ?_⟩
    have := hcell q hq
    rw [addr_add, addr_add] at this
    unfold World.cell? at this
    simp only [hheap] at this
    simpa using this
   obtain ⟨g, hg⟩ := Go.Deep.choose_lt each
   have hcap : off + k * z ≤ C.size := by
    have h1 := hg (k - 1) (by omega) (z - 1) (by omega)
    have h2 : (f (g (k - 1)))[z - 1]? = some ((f (g (k - 1)))[z - 1]'(by rw [hl]; omega)) := List.getElem?_eq_getElem _
    rw [h2] at h1
    have h3 := (Array.getElem?_eq_some_iff.1 h1).1
    have h4 : (k - 1 + 1) * z = (k - 1) * z + z := Nat.add_one_mul _ _
    rw [show k - 1 + 1 = k by omega] at h4
    omega
   let l : List α := (List.range len).map g
   have hll : l.length = len := by simp [l]
   have hlz : len * z ≤ k * z := Nat.mul_le_mul_right _ hlen
   obtain ⟨ρ', hle, hρ, hR', hro'⟩ := rel_addro (esz := z) (off := off) hR hro hheap (l.flatMap f) (by rw [flat_len hl, hll]; omega) (fun j v hj => by
    obtain ⟨i, q, hi, hq, rfl, hv⟩ := flat_get hl l j v hj
    have e : l[i] = g i := by simp [l]
    rw [e] at hv
    refine ⟨v, ?_, hs _ v (List.mem_of_getElem? hv) ρ⟩
    rw [← Nat.add_assoc, hg i (by omega) q hq, hv])
   refine ⟨ρ', _, slo m.length 0 l.length l.length, l, hle, hR', hro', ?_, .inr ⟨m.length, _, rfl, List.getElem?_concat_length, rfl, rfl⟩⟩
   rw [hll]
   exact .slice hρ (Nat.le_refl _) hlen (fun h => by simp at h) (.inr rfl) hcap rfl
theorem openFlat_lst {z : Nat} {α : Type} [Inhabited α] {f : α → List Value} (hl : ∀ a, (f a).length = z) {m : M} {xv : Value} {l : List α} (h : (l = [] ∧ (xv = nilS ∨ xv = emS)) ∨ ∃ p row, xv = slo p 0 l.length l.length ∧ m[p]? = some row ∧ row.esz = z ∧ row.cells = l.flatMap f) : Lst (fun _ => 0) 0 z m xv l.length (fun i => f ((l[i]?).getD default)) := by
 rcases h with ⟨rfl, rfl | rfl⟩ | ⟨p, row, rfl, h1, h2, h3⟩
 ·exact ⟨none, 0, rfl, fun h => absurd h (Nat.lt_irrefl 0)⟩
 ·exact ⟨_, 0, rfl, fun h => absurd h (Nat.lt_irrefl 0)⟩
 ·refine ⟨_, _, rfl, fun _ => ⟨p, 0, rfl, (List.getElem?_eq_some_iff.1 h1).1, rfl, fun i hi j v hj => ?_⟩⟩
  have e := flat_cell hl l i hi
  have hd : (l[i]?).getD default = l[i] := by simp [hi]
  simp only [hd] at hj
  unfold mcell
  rw [h1]
  simp only
  rw [h3]
  have : (((l.flatMap f).drop (i * z)).take z)[j]? = some v := by rw [e]; exact hj
  rw [List.getElem?_take] at this
  split at this
  ·rw [List.getElem?_drop] at this
   rw [Nat.zero_add]; exact this
  ·simp at this
theorem Lst.app {own : Nat → Nat} {t z n : Nat} {m : M} {v : Value} {C : Nat → List Value} (h : Lst own t z m v n C) (x : List Row) : Lst own t z (m ++ x) v n C := h.push x
theorem un22 : Try.prog.underlying 22 = some (.slice 3) := by kernel_rfl
theorem un23 : Try.prog.underlying 23 = some (.slice 36) := by kernel_rfl
theorem openIntsC {H : Type} {enc : TypeId × Value → H} {W : World} {ρ : Map} {m : M} (hR : Rel ρ m W) (hro : ∀ row ∈ m, row.ro = true) {fuel : Nat} {v : Value} {x : DataW H × List MemPlace} (h : DataW.trod enc Try.prog W 0 (fun _ => true) true fuel 22 [v] = some x) :
  ∃ (ρ' : Map) (ext : M) (xv : Value) (l : List Int), ρ.le ρ' ∧ Rel ρ' (m ++ ext) W ∧ (∀ row ∈ (m ++ ext : M), row.ro = true) ∧ VRel ρ' xv v ∧ Nums (fun _ => 0) 0 (m ++ ext) xv l := by
 obtain ⟨ρ', ext, xv, l, h1, h2, h3, h4, h5⟩ := openFlat un22 ce3 (by omega) (fun z : Int => [vi z]) (fun _ => rfl) (fun a v hv ρ => by simp only [List.mem_singleton] at hv; subst hv; exact .int _ _) (fun n cs x hx => by
  obtain ⟨z, hz, _⟩ := DataW.trod_int u3 hx
  exact ⟨z, hz⟩) hR hro h
 exact ⟨ρ', ext, xv, l, h1, h2, h3, h4, openFlat_lst (f := fun z : Int => [vi z]) (z := 1) (fun _ => rfl) h5⟩
abbrev ActD := Int × Int × Int × Int
abbrev actC (a : ActD) : List Value := [.int .u8 a.1, vi a.2.1, vi a.2.2.1, vi a.2.2.2]
set_option maxRecDepth 100000 in
theorem act_of_trod {H : Type} {enc : TypeId × Value → H} {W : World} {n : Nat} {cs : List Value} {x : DataW H × List MemPlace} (hf' : DataW.trod enc Try.prog W 0 (fun _ => true) true n 36 cs = some x) : ∃ a : ActD, cs = actC a ∧ (Lit.int .u8 a.1).wf = true := by
 obtain ⟨xs, m, _, hx, hl, hlen, hg⟩ := DataW.trod_struct un36 hf'
 have key : ∀ j t k, (#[(5, 0), (3, 1), (3, 2), (3, 3)] : Array (Nat × Nat))[j]? = some (t, j) → j < xs.length → Try.prog.underlying t = some (.int k) → Try.prog.cellsOf t = 1 → ∃ z, cs[j]? = some (.int k z) ∧ (Lit.int k z).wf = true := by
  intro j t k h1 hj h2 h3
  obtain ⟨f, e1, e2, e3⟩ := fa36 h1
  have h4 := hg j _ e1
  rw [e2, e3, h3] at h4
  have e2 : xs[j]? = some xs[j] := by simp [hj]
  rw [e2] at h4
  obtain ⟨z, c1, _, c2⟩ := DataW.trod_int h2 h4
  refine ⟨z, ?_, c2⟩
  have := congrArg (·[0]?) c1
  simpa [List.getElem?_take, List.getElem?_drop] using this
 have hs : (Try.prog.fieldsOf 36).size = 4 := by kernel_rfl
 have hxl : xs.length = 4 := by omega
 obtain ⟨k, h0, w0⟩ := key 0 5 .u8 rfl (by omega) un5 ce5
 obtain ⟨a, h1, _⟩ := key 1 3 .i64 rfl (by omega) u3 ce3
 obtain ⟨b, h2, _⟩ := key 2 3 .i64 rfl (by omega) u3 ce3
 obtain ⟨n, h3, _⟩ := key 3 3 .i64 rfl (by omega) u3 ce3
 refine ⟨(k, a, b, n), ?_, w0⟩
 have hc : cs.length = 4 := by rw [ce36] at hl; exact hl
 match cs, hc with
 | [c0, c1, c2, c3], _ =>
  simp at h0 h1 h2 h3
  subst h0 h1 h2 h3
  rfl
section
variable {H : Type} {enc : TypeId × Value → H} {W : World} {b0 : Nat} {v : Value} {d : DataW H} {p : List MemPlace} {ρ : Map} {m : M} (hR : Rel ρ m W) (hro : ∀ row ∈ m, row.ro = true)
include hR hro
set_option maxRecDepth 100000
theorem openInts (hval : Value.okWide Try.prog W .any b0 22 v) (hd : DataW.Trod enc Try.prog W 0 (fun _ => true) true 22 v d p) :
  ∃ (ρ' : Map) (ext : M) (xv : Value) (l : List Int), ρ.le ρ' ∧ Rel ρ' (m ++ ext) W ∧ (∀ row ∈ (m ++ ext : M), row.ro = true) ∧ VRel ρ' xv v ∧ Nums (fun _ => 0) 0 (m ++ ext) xv l := by
 obtain ⟨fuel, hf⟩ := hd
 obtain ⟨a, len, cap, rfl⟩ := okWide_slice un22 hval
 exact openIntsC hR hro hf
end
end Go.AM
namespace Go.AM
open Go Go.Proofs
def cntR (sh : Nat → Nat → Rc) (a : Nat) : Nat → Nat
 | 0 => 0
 | i + 1 => cntR sh a i + (if (sh i a).made then 1 else 0)
theorem cntR_le (sh : Nat → Nat → Rc) (a : Nat) : ∀ i, cntR sh a i ≤ i
 | 0 => Nat.le_refl _
 | i + 1 => by
  have := cntR_le sh a i
  show cntR sh a i + (if (sh i a).made then 1 else 0) ≤ i + 1
  split <;> omega
theorem cntR_congr {sh sh' : Nat → Nat → Rc} {a : Nat} : ∀ {i : Nat}, (∀ j, j < i → (sh j a).made = (sh' j a).made) → cntR sh a i = cntR sh' a i
 | 0, _ => rfl
 | i + 1, h => by
  show cntR sh a i + (if (sh i a).made then 1 else 0) = cntR sh' a i + (if (sh' i a).made then 1 else 0)
  rw [cntR_congr (fun j hj => h j (by omega)), h i (by omega)]
theorem cntR_up {sh sh' : Nat → Nat → Rc} {a j : Nat} : ∀ {i : Nat}, j < i → (sh j a).made = false → (sh' j a).made = true → (∀ q, q ≠ j → (sh q a).made = (sh' q a).made) → cntR sh' a i = cntR sh a i + 1
 | 0, hj, _, _, _ => by omega
 | i + 1, hj, h0, h1, h => by
  show cntR sh' a i + (if (sh' i a).made then 1 else 0) = cntR sh a i + (if (sh i a).made then 1 else 0) + 1
  by_cases e : i = j
  ·subst e
   rw [cntR_congr (sh := sh') (sh' := sh) (fun q hq => (h q (by omega)).symm), h0, h1]
   rfl
  ·rw [cntR_up (by omega) h0 h1 h, h i e]
   omega
structure NInv (s : Nt) : Prop where
 n2 : 2 ≤ s.n
 n5 : s.n ≤ 5
 n8 : s.ns ≤ 8
 pc : ∀ i, i < s.n → 0 ≤ s.pcs i ∧ s.pcs i ≤ 1000000 * (s.evs.length + 1)
 ck : ∀ i j, 0 ≤ s.clk i j ∧ s.clk i j ≤ s.evs.length
 ms : ∀ a b q c, Ms.par q c ∈ s.ch a b → 1 ≤ q ∧ q ≤ 1000000 ∧ ∀ j, 0 ≤ c j ∧ c j ≤ s.evs.length
 le : s.evs.length ≤ 400
 cl : ∀ a b, (s.ch a b).length ≤ s.evs.length + cntR s.sh a s.ns
 hh : ∀ i t f, ((s.sh i t).hrd f).length ≤ s.evs.length
 mrk : ∀ a b no, Ms.mark no ∈ s.ch a b → 1 ≤ no ∧ no ≤ s.ns
theorem NInv.bd {s : Nt} (h : NInv s) : Bd s := ⟨h.pc, h.ck, h.ms, h.le⟩
theorem NInv.lim {s : Nt} (h : NInv s) : Lim s := ⟨fun a b => by have := h.cl a b; have := cntR_le s.sh a s.ns; have := h.n8; have := h.le; omega, fun i t f => by have := h.hh i t f; have := h.le; omega, h.mrk⟩
theorem NInv.init {l : List Int} (h : newOk l = true) : NInv (initS l) := by
 unfold newOk at h
 simp only [Bool.and_eq_true, decide_eq_true_eq, List.all_eq_true] at h
 refine ⟨h.1.1, h.1.2, by show 0 ≤ 8; omega, fun i hi => ?_, fun i j => ⟨Int.le_refl _, by show (0 : Int) ≤ ((0 : Nat) : Int); omega⟩, fun a b q c h => by simp [initS] at h, by show 0 ≤ 400; omega, fun a b => by show ([] : List Ms).length ≤ _; simp, fun i t f => by show ([] : List Int).length ≤ _; simp, fun a b no h => by simp [initS] at h⟩
 have hi' : i < l.length := hi
 have := h.2 l[i] (List.getElem_mem _)
 unfold stockB at this
 rw [decide_eq_true_eq, ← nth_get hi'] at this
 show 0 ≤ nth l i ∧ nth l i ≤ 1000000 * (((0 : Nat) : Int) + 1)
 omega
theorem NInv.tick {s : Nt} (h : NInv s) (hle : s.evs.length < 400) {st : Nat} (hst : st < s.n) {pcs' : Nat → Int} {clk' : Nat → Nat → Int} {sh' : Nat → Nat → Rc} (what other x : Int)
  (hp : ∀ i, i < s.n → 0 ≤ pcs' i ∧ pcs' i ≤ 1000000 * (s.evs.length + 2)) (hc : ∀ i j, 0 ≤ clk' i j ∧ clk' i j ≤ s.evs.length) (hm : ∀ i t, (sh' i t).made = (s.sh i t).made) (hh : ∀ i t f, ((sh' i t).hrd f).length ≤ s.evs.length + 1) :
  NInv (tickS { s with pcs := pcs', clk := clk', sh := sh' } st what other x) := by
 have hl : (tickS { s with pcs := pcs', clk := clk', sh := sh' } st what other x).evs.length = s.evs.length + 1 := by
  show (s.evs ++ [_]).length = _
  simp
 refine ⟨h.n2, h.n5, h.n8, fun i hi => ?_, fun i j => ?_, fun a b q c hq => ?_, by rw [hl]; omega, fun a b => ?_, fun i t f => ?_, h.mrk⟩
 ·rw [hl]
  have := hp i hi
  show 0 ≤ pcs' i ∧ pcs' i ≤ _
  omega
 ·rw [hl]
  show 0 ≤ (upd clk' st (upd (clk' st) st (clk' st st + 1))) i j ∧ (upd clk' st (upd (clk' st) st (clk' st st + 1))) i j ≤ ((s.evs.length + 1 : Nat) : Int)
  by_cases e : i = st
  ·subst e
   rw [upd_self]
   by_cases e2 : j = i
   ·subst e2
    rw [upd_self]
    have := hc j j
    omega
   ·rw [upd_ne _ _ e2]
    have := hc i j
    omega
  ·rw [upd_ne _ _ e]
   have := hc i j
   omega
 ·rw [hl]
  obtain ⟨a1, a2, a3⟩ := h.ms a b q c hq
  exact ⟨a1, a2, fun j => by have := a3 j; omega⟩
 ·rw [hl]
  have := h.cl a b
  have e : cntR sh' a s.ns = cntR s.sh a s.ns := cntR_congr fun j _ => hm j a
  show (s.ch a b).length ≤ s.evs.length + 1 + cntR sh' a s.ns
  omega
 ·rw [hl]
  exact hh i t f
theorem NInv.work {s : Nt} (h : NInv s) (hle : s.evs.length < 400) {a : Nat} (ha : a < s.n) {x : Int} (hx : 1 ≤ x ∧ x ≤ 1000000) : NInv (workS s a x) :=
 h.tick hle ha 1 a x (fun i hi => by
  by_cases e : i = a
  ·subst e
   rw [upd_self]
   have := h.pc i hi
   omega
  ·rw [upd_ne _ _ e]
   have := h.pc i hi
   omega) h.ck (fun _ _ => rfl) (fun i t f => by have := h.hh i t f; omega)
theorem mem_upd2 {ch : Nat → Nat → List Ms} {a b i j : Nat} {L : List Ms} {w : Ms} (h : w ∈ upd2 ch a b L i j) : w ∈ L ∨ w ∈ ch i j := by
 unfold upd2 at h
 split at h
 ·exact .inl h
 ·exact .inr h
theorem NInv.send {s : Nt} (h : NInv s) (hle : s.evs.length < 400) {a b : Nat} (ha : a < s.n) {x : Int} (hx : 1 ≤ x ∧ x ≤ 1000000) (hp : x ≤ s.pcs a) : NInv (sendS s a b x) := by
 have h1 : NInv (tickS { s with pcs := upd s.pcs a (s.pcs a - x) } a 2 b x) := h.tick hle ha 2 b x (fun i hi => by
  by_cases e : i = a
  ·subst e
   rw [upd_self]
   have := h.pc i hi
   omega
  ·rw [upd_ne _ _ e]
   have := h.pc i hi
   omega) h.ck (fun _ _ => rfl) (fun i t f => by have := h.hh i t f; omega)
 unfold sendS
 generalize hS : tickS { s with pcs := upd s.pcs a (s.pcs a - x) } a 2 b x = s1 at h1
 have hl1 : s1.evs.length = s.evs.length + 1 := by
  rw [← hS]
  show (s.evs ++ [_]).length = _
  simp
 have hch1 : s1.ch = s.ch := by rw [← hS]; rfl
 have hsh1 : s1.sh = s.sh := by rw [← hS]; rfl
 have hns1 : s1.ns = s.ns := by rw [← hS]; rfl
 refine ⟨h1.n2, h1.n5, h1.n8, h1.pc, h1.ck, fun i j q c hq => ?_, h1.le, fun i j => ?_, h1.hh, fun i j no hno => ?_⟩
 ·rcases mem_upd2 hq with hq | hq
  ·rcases List.mem_append.1 hq with hq | hq
   ·exact h1.ms a b q c hq
   ·simp only [List.mem_singleton, Ms.par.injEq] at hq
    obtain ⟨rfl, rfl⟩ := hq
    exact ⟨hx.1, hx.2, fun j => h1.ck a j⟩
  ·exact h1.ms i j q c hq
 ·show (upd2 s1.ch a b (s1.ch a b ++ [_]) i j).length ≤ s1.evs.length + cntR s1.sh i s1.ns
  unfold upd2
  split
  ·rename_i e
   obtain ⟨rfl, rfl⟩ := e
   have := h.cl i j
   rw [List.length_append, hch1, hsh1, hns1, hl1]
   simp
   omega
  ·exact h1.cl i j
 ·rcases mem_upd2 hno with hq | hq
  ·rcases List.mem_append.1 hq with hq | hq
   ·exact h1.mrk a b no hq
   ·simp at hq
  ·exact h1.mrk i j no hq
theorem NInv.drop {s : Nt} (h : NInv s) {a b : Nat} {w : Ms} {L : List Ms} (hL : s.ch a b = w :: L) : NInv (dropS s a b L) := by
 refine ⟨h.n2, h.n5, h.n8, h.pc, h.ck, fun i j q c hq => ?_, h.le, fun i j => ?_, h.hh, fun i j no hno => ?_⟩
 ·rcases mem_upd2 hq with hq | hq
  ·exact h.ms a b q c (by rw [hL]; simp [hq])
  ·exact h.ms i j q c hq
 ·show (upd2 s.ch a b L i j).length ≤ _
  unfold upd2
  split
  ·rename_i e
   obtain ⟨rfl, rfl⟩ := e
   have := h.cl i j
   rw [hL] at this
   simp at this
   show L.length ≤ s.evs.length + cntR s.sh i s.ns
   omega
  ·exact h.cl i j
 ·rcases mem_upd2 hno with hq | hq
  ·exact h.mrk a b no (by rw [hL]; simp [hq])
  ·exact h.mrk i j no hq
theorem NInv.recv {s : Nt} (h : NInv s) (hle : s.evs.length < 400) {a b : Nat} (hb : b < s.n) {q : Int} {c : Nat → Int} (hq : Ms.par q c ∈ s.ch a b) : NInv (recvS s a b q c) := by
 obtain ⟨q1, q2, q3⟩ := h.ms a b q c hq
 refine h.tick hle hb 3 a q (fun i hi => ?_) (fun i j => ?_) (fun i t => ?_) (fun i t f => ?_)
 ·by_cases e : i = b
  ·subst e
   rw [upd_self]
   have := h.pc i hi
   omega
  ·rw [upd_ne _ _ e]
   have := h.pc i hi
   omega
 ·by_cases e : i = b
  ·subst e
   rw [upd_self]
   have := h.ck i j
   have := q3 j
   unfold maxC
   omega
  ·rw [upd_ne _ _ e]
   exact h.ck i j
 ·rw [hearF_eq]
  split
  ·unfold hearR
   rename_i e
   rw [e.2]
   split <;> rfl
  ·rfl
 ·rw [hearF_eq]
  have h1 := h.hh i t f
  split
  ·rename_i e
   rw [← e.2]
   unfold hearR
   split
   ·show (upd (s.sh i t).hrd a ((s.sh i t).hrd a ++ [q]) f).length ≤ _
    by_cases ef : f = a
    ·subst ef
     rw [upd_self]
     simp
     omega
    ·rw [upd_ne _ _ ef]
     omega
   ·omega
  ·omega
def recG (r : Rc) (p e : Int) (i at_ : Nat) : Rc := ⟨true, p, e, fun f => if f < i ∧ f ≠ at_ then true else r.opn f, r.hrd⟩
theorem recG_opn (r : Rc) (p e : Int) (i at_ f : Nat) : (recG r p e i at_).opn f = if f < i ∧ f ≠ at_ then true else r.opn f := rfl
theorem recG_same (r : Rc) (p e : Int) (at_ : Nat) : recG r p e at_ at_ = recG r p e (at_ + 1) at_ := by
 unfold recG
 congr 1
 funext f
 by_cases hf : f < at_ ∧ f ≠ at_
 ·rw [if_pos hf, if_pos ⟨by omega, hf.2⟩]
 ·rw [if_neg hf, if_neg (by omega)]
theorem recG_succ (r : Rc) (p e : Int) (i at_ : Nat) (hi : i ≠ at_) : ({ recG r p e i at_ with opn := upd (recG r p e i at_).opn i true } : Rc) = recG r p e (i + 1) at_ := by
 show (⟨true, p, e, upd (recG r p e i at_).opn i true, r.hrd⟩ : Rc) = ⟨true, p, e, _, r.hrd⟩
 congr 1
 funext f
 by_cases ef : f = i
 ·subst ef
  rw [upd_self, if_pos ⟨by omega, hi⟩]
 ·rw [upd_ne _ _ ef, recG_opn]
  by_cases hf : f < i ∧ f ≠ at_
  ·rw [if_pos hf, if_pos ⟨by omega, hf.2⟩]
  ·rw [if_neg hf, if_neg (by omega)]
theorem recI_sh (s : Nt) (no at_ : Nat) : ∀ i j t, (recI s no at_ i).sh j t = if j = no - 1 ∧ t = at_ then recG (s.sh j t) (s.pcs at_) (s.clk at_ at_) i at_ else s.sh j t
 | 0, j, t => by
  show upd2 s.sh (no - 1) at_ _ j t = _
  by_cases e : j = no - 1 ∧ t = at_
  ·obtain ⟨rfl, rfl⟩ := e
   rw [upd2_self, if_pos ⟨rfl, rfl⟩]
   unfold recG
   congr 1
  ·rw [upd2_ne _ _ e, if_neg e]
 | i + 1, j, t => by
  by_cases hi : i = at_
  ·rw [recI_eq _ _ _ _ hi, recI_sh, hi, recG_same]
  ·rw [recI_ne _ _ _ _ hi]
   show upd2 (recI s no at_ i).sh (no - 1) at_ _ j t = _
   by_cases e : j = no - 1 ∧ t = at_
   ·obtain ⟨rfl, rfl⟩ := e
    rw [upd2_self, recI_sh, if_pos ⟨rfl, rfl⟩, if_pos ⟨rfl, rfl⟩, recG_succ _ _ _ _ _ hi]
   ·rw [upd2_ne _ _ e, recI_sh, if_neg e, if_neg e]
def recR (s : Nt) (r : Rc) (at_ : Nat) : Rc := recG r (s.pcs at_) (s.clk at_ at_) s.n at_
theorem recordS_sh (s : Nt) (no at_ j t : Nat) : (recordS s no at_).sh j t = if j = no - 1 ∧ t = at_ then recR s (s.sh j t) at_ else s.sh j t := recI_sh s no at_ s.n j t
theorem recordS_ch (s : Nt) (no at_ a b : Nat) : (recordS s no at_).ch a b = if a = at_ ∧ b < s.n ∧ b ≠ at_ then s.ch a b ++ [.mark no] else s.ch a b := recI_ch s no at_ s.n a b
theorem NInv.record {s : Nt} (h : NInv s) {no at_ : Nat} (h1 : 1 ≤ no) (h2 : no ≤ s.ns) (hm : (s.sh (no - 1) at_).made = false) : NInv (recordS s no at_) := by
 obtain ⟨e1, e2, e3, e4, e5⟩ := recordS_n s no at_
 have hcnt : ∀ a, cntR (recordS s no at_).sh a s.ns = cntR s.sh a s.ns + (if a = at_ then 1 else 0) := fun a => by
  by_cases e : a = at_
  ·subst e
   rw [if_pos rfl]
   refine cntR_up (j := no - 1) (by omega) hm ?_ (fun q hq => ?_)
   ·rw [recordS_sh, if_pos ⟨rfl, rfl⟩]
    rfl
   ·rw [recordS_sh, if_neg (fun h => hq h.1)]
  ·rw [if_neg e, Nat.add_zero]
   refine cntR_congr fun j _ => ?_
   rw [recordS_sh, if_neg (fun h => e h.2)]
 refine ⟨by rw [e1]; exact h.n2, by rw [e1]; exact h.n5, by rw [e2]; exact h.n8, fun i hi => ?_, fun i j => ?_, fun a b q c hq => ?_, by rw [e3]; exact h.le, fun a b => ?_, fun i t f => ?_, fun a b x hx => ?_⟩
 ·rw [e4, e3]
  exact h.pc i (by rw [← e1]; exact hi)
 ·rw [e5, e3]
  exact h.ck i j
 ·rw [e3]
  rw [recordS_ch] at hq
  split at hq
  ·rcases List.mem_append.1 hq with hq | hq
   ·exact h.ms a b q c hq
   ·simp at hq
  ·exact h.ms a b q c hq
 ·rw [e2, e3, hcnt, recordS_ch]
  have := h.cl a b
  split
  ·rename_i e
   rw [if_pos e.1]
   simp
   omega
  ·omega
 ·rw [e3, recordS_sh]
  split
  ·exact h.hh i t f
  ·exact h.hh i t f
 ·rw [e2]
  rw [recordS_ch] at hx
  split at hx
  ·rcases List.mem_append.1 hx with hx | hx
   ·exact h.mrk a b x hx
   ·simp only [List.mem_singleton, Ms.mark.injEq] at hx
    omega
  ·exact h.mrk a b x hx
theorem NInv.heed {s : Nt} (h : NInv s) {a b no : Nat} (h1 : 1 ≤ no) (h2 : no ≤ s.ns) : NInv (heedS s a b no) := by
 have hH : NInv (heed1 s b no) := by
  unfold heed1
  split
  ·exact h
  ·rename_i hm
   exact h.record h1 h2 (by simpa using hm)
 have hsh : ∀ i t, ((heedS s a b no).sh i t).made = ((heed1 s b no).sh i t).made ∧ ((heedS s a b no).sh i t).hrd = ((heed1 s b no).sh i t).hrd := fun i t => by
  show (upd2 (heed1 s b no).sh (no - 1) b (shutR ((heed1 s b no).sh (no - 1) b) a) i t).made = _ ∧ (upd2 (heed1 s b no).sh (no - 1) b (shutR ((heed1 s b no).sh (no - 1) b) a) i t).hrd = _
  unfold upd2
  split
  ·rename_i e
   obtain ⟨rfl, rfl⟩ := e
   exact ⟨rfl, rfl⟩
  ·exact ⟨rfl, rfl⟩
 refine ⟨hH.n2, hH.n5, hH.n8, hH.pc, hH.ck, hH.ms, hH.le, fun x y => ?_, fun i t f => ?_, hH.mrk⟩
 ·have := hH.cl x y
  rw [show cntR (heedS s a b no).sh x (heedS s a b no).ns = cntR (heed1 s b no).sh x (heed1 s b no).ns from cntR_congr fun j _ => (hsh j x).1]
  exact this
 ·rw [(hsh i t).2]
  exact hH.hh i t f
theorem NInv.new {s : Nt} (h : NInv s) (h8 : s.ns < 8) : NInv (newS s) := by
 refine ⟨h.n2, h.n5, by show s.ns + 1 ≤ 8; omega, h.pc, h.ck, h.ms, h.le, fun a b => ?_, fun i t f => ?_, fun a b no hno => ?_⟩
 ·have := h.cl a b
  show (s.ch a b).length ≤ s.evs.length + (cntR (newS s).sh a s.ns + _)
  rw [show cntR (newS s).sh a s.ns = cntR s.sh a s.ns from cntR_congr fun j hj => by
   show (if j = s.ns then zeroR else s.sh j a).made = _
   rw [if_neg (by omega)]]
  omega
 ·show ((if i = s.ns then zeroR else s.sh i t).hrd f).length ≤ _
  split
  ·show ([] : List Int).length ≤ _
   simp
  ·exact h.hh i t f
 ·have := h.mrk a b no hno
  show 1 ≤ no ∧ no ≤ s.ns + 1
  omega
theorem NInv.start {s : Nt} (h : NInv s) (h8 : s.ns < 8) (a : Nat) : NInv (startS s a) := by
 refine (h.new h8).record (by omega) (by show s.ns + 1 ≤ s.ns + 1; omega) ?_
 show (if s.ns + 1 - 1 = s.ns then zeroR else s.sh (s.ns + 1 - 1) a).made = false
 rw [if_pos (by omega)]
 rfl
theorem workE_0 {s : Nt} {a x : Int} (h : workE s a x = 0) : ∃ A : Nat, a = A ∧ A < s.n ∧ (1 ≤ x ∧ x ≤ 1000000) ∧ s.evs.length < 400 := by
 unfold workE at h
 split at h
 ·rename_i h1
  split at h
  ·omega
  ·obtain ⟨A, rfl⟩ := Int.eq_ofNat_of_zero_le h1.1.1
   exact ⟨A, rfl, by omega, h1.2, by omega⟩
 ·omega
theorem sendE_0 {s : Nt} {a b x : Int} (h : sendE s a b x = 0) : ∃ A B : Nat, a = A ∧ b = B ∧ A < s.n ∧ B < s.n ∧ A ≠ B ∧ (1 ≤ x ∧ x ≤ 1000000) ∧ x ≤ s.pcs A ∧ s.evs.length < 400 := by
 unfold sendE at h
 split at h
 ·omega
 ·rename_i h1
  obtain ⟨A, B, rfl, rfl, h2, h3, h4⟩ := chkF_0 (n := s.n) (a := a) (b := b) (by omega)
  split at h
  ·split at h
   ·omega
   ·split at h
    ·omega
    ·rename_i h5 h6 h7
     rw [Int.toNat_natCast] at h6
     exact ⟨A, B, rfl, rfl, h2, h3, h4, h5, by omega, by omega⟩
  ·omega
theorem NInv.workN {s : Nt} (h : NInv s) (a x : Int) : NInv (workN s a x) := by
 unfold Go.AM.workN
 split
 ·rename_i e
  obtain ⟨A, rfl, h1, h2, h3⟩ := workE_0 e
  exact h.work h3 h1 h2
 ·exact h
theorem NInv.sendN {s : Nt} (h : NInv s) (a b x : Int) : NInv (sendN s a b x) := by
 unfold Go.AM.sendN
 split
 ·rename_i e
  obtain ⟨A, B, rfl, rfl, h1, h2, h3, h4, h5, h6⟩ := sendE_0 e
  exact h.send h6 h1 h4 h5
 ·exact h
theorem NInv.rcvS {s : Nt} (h : NInv s) (a b : Int) : NInv (rcvS s a b) := by
 unfold Go.AM.rcvS
 split
 ·exact h
 ·rename_i e
  obtain ⟨A, B, rfl, rfl, h1, h2, h3⟩ := chkF_0 (n := s.n) (a := a) (b := b) (by omega)
  rw [Int.toNat_natCast, Int.toNat_natCast]
  unfold recvN
  cases hc : s.ch A B with
  | nil => exact h
  | cons w l =>
   cases w with
   | par q c =>
    show NInv (if 400 ≤ s.evs.length then ((8 : Int), s) else (0, dropS (recvS s A B q c) A B l)).2
    split
    ·exact h
    ·exact (h.recv (by omega) h2 (by rw [hc]; simp)).drop (w := .par q c) hc
   | mark no =>
    obtain ⟨m1, m2⟩ := h.mrk A B no (by rw [hc]; simp)
    refine (h.heed m1 m2).drop (w := .mark no) ?_
    show (heed1 s B no).ch A B = _
    rw [heed1_ch s no h3, hc]
theorem NInv.startN {s : Nt} (h : NInv s) (a : Int) : NInv (startN s a) := by
 unfold Go.AM.startN
 split
 ·rename_i e
  refine h.start ?_ _
  unfold startE at e
  split at e
  ·split at e
   ·omega
   ·omega
  ·omega
 ·exact h
def actK (a : ActD) : Int := a.1.tmod 8
def actN (s : Nt) (a : ActD) : Nt :=
 if actK a = 0 then workN s a.2.1 a.2.2.2 else if actK a = 1 ∨ actK a = 2 then sendN s a.2.1 a.2.2.1 a.2.2.2 else if actK a = 7 then startN s a.2.1 else rcvS s a.2.1 a.2.2.1
theorem NInv.act {s : Nt} (h : NInv s) (a : ActD) : NInv (actN s a) := by
 unfold actN
 split
 ·exact h.workN _ _
 ·split
  ·exact h.sendN _ _ _
  ·split
   ·exact h.startN _
   ·exact h.rcvS _ _
def actsN (s : Nt) (l : List ActD) : Nt := l.foldl actN s
theorem NInv.acts {s : Nt} (h : NInv s) : ∀ l : List ActD, NInv (actsN s l) := by
 intro l
 induction l generalizing s with
 | nil => exact h
 | cons a l ih => exact ih (h.act a)
end Go.AM
namespace Go.AM
open Go Go.Proofs
abbrev Acs (own : Nat → Nat) (m : M) (v : Value) (l : List ActD) : Prop := Lst own 0 4 m v l.length fun i => actC ((l[i]?).getD default)
theorem g36 : aggk 36 4 = true := by kernel_rfl
theorem a5 : agg1 5 = true := by kernel_rfl
theorem s23 : slk 23 4 = true := by kernel_rfl
theorem i23 : isSl 23 = true := by kernel_rfl
theorem f36_0 : fdk 36 0 0 = true := by kernel_rfl
theorem f36_1 : fdk 36 1 1 = true := by kernel_rfl
theorem f36_2 : fdk 36 2 2 = true := by kernel_rfl
theorem f36_3 : fdk 36 3 3 = true := by kernel_rfl
abbrev actV (a : ActD) : Value := .agg #[.int .u8 a.1, vi a.2.1, vi a.2.2.1, vi a.2.2.2]
theorem bx36 (m : M) (a : ActD) : xbox m (actV a) = some (pt m.length 0, m ++ [cellR (actC a)]) := by
 have e : xbox m (actV a) = xlen m fun k => xpush m (cellR (actC a)) fun m' => some (pt k 0, m') := by kernel_rfl
 rw [e, xlen_eq, fNat_eq, xpush_eq, fList_eq]
theorem rem5 (x : Int) : mbin E .rem 5 (.int .u8 x) (.int .u8 8) = some (.int .u8 (x.tmod 8)) := by
 have e : mbin E .rem 5 (.int .u8 x) (.int .u8 8) = if (8 : Int) = 0 then none else some (.int .u8 (x.tmod 8)) := by kernel_rfl
 rw [e, if_neg (by omega)]
theorem eql5 (x y : Int) : mbin E .eql 5 (.int .u8 x) (.int .u8 y) = some (.bool (decide (x = y))) := by
 have e : mbin E .eql 5 (.int .u8 x) (.int .u8 y) = some (.bool (x == y)) := rfl
 rw [e]; congr 2
section
variable {k : Nat} {base : Nat} {p : Nat}
end
end Go.AM
namespace Go.AM
open Go Go.Proofs
structure MI (s : Nt) : Prop where
 m1 : ∀ i a b, i < s.ns → a < s.n → b < s.n → a ≠ b → (s.sh i a).made = true → ((s.sh i b).made = false ∨ (s.sh i b).opn a = true) → Ms.mark (i + 1) ∈ s.ch a b
 m2 : ∀ i t f, (s.sh i t).opn f = true → f < s.n ∧ f ≠ t
 m3 : ∀ i, i < s.ns → ∃ a, a < s.n ∧ (s.sh i a).made = true
 m0 : ∀ i t f, (s.sh i t).made = false → (s.sh i t).opn f = false
theorem MI.init (l : List Int) : MI (initS l) := ⟨fun i a b h => by simp [initS] at h, fun i t f h => by simp [initS, zeroR] at h, fun i h => by simp [initS] at h, fun i t f _ => rfl⟩
theorem MI.same {s s' : Nt} (h : MI s) (hn : s'.n = s.n) (hns : s'.ns = s.ns) (hm : ∀ i t, (s'.sh i t).made = (s.sh i t).made) (ho : ∀ i t, (s'.sh i t).opn = (s.sh i t).opn) (hc : ∀ a b no, Ms.mark no ∈ s.ch a b → Ms.mark no ∈ s'.ch a b) : MI s' := by
 refine ⟨fun i a b hi ha hb hab h1 h2 => ?_, fun i t f h1 => ?_, fun i hi => ?_, fun i t f h1 => ?_⟩
 ·rw [hn] at ha hb
  rw [hns] at hi
  rw [hm] at h1 h2
  rw [ho] at h2
  exact hc _ _ _ (h.m1 i a b hi ha hb hab h1 h2)
 ·rw [ho] at h1
  rw [hn]
  exact h.m2 i t f h1
 ·rw [hns] at hi
  obtain ⟨a, h1, h2⟩ := h.m3 i hi
  exact ⟨a, by rw [hn]; exact h1, by rw [hm]; exact h2⟩
 ·rw [hm] at h1
  rw [ho]
  exact h.m0 i t f h1
theorem MI.work {s : Nt} (h : MI s) (a : Nat) (x : Int) : MI (workS s a x) := h.same rfl rfl (fun _ _ => rfl) (fun _ _ => rfl) (fun _ _ _ h => h)
theorem MI.send {s : Nt} (h : MI s) (a b : Nat) (x : Int) : MI (sendS s a b x) := by
 refine h.same rfl rfl (fun _ _ => rfl) (fun _ _ => rfl) (fun i j no hh => ?_)
 show Ms.mark no ∈ upd2 s.ch a b (s.ch a b ++ [_]) i j
 unfold upd2
 split
 ·rename_i e
  obtain ⟨rfl, rfl⟩ := e
  simp [hh]
 ·exact hh
theorem MI.recvDrop {s : Nt} (h : MI s) {a b : Nat} {q : Int} {c : Nat → Int} {l : List Ms} (hc : s.ch a b = .par q c :: l) : MI (dropS (recvS s a b q c) a b l) := by
 have hr : ∀ r : Rc, (hearR r a q).made = r.made ∧ (hearR r a q).opn = r.opn := fun r => by
  unfold hearR
  split <;> exact ⟨rfl, rfl⟩
 have hs : ∀ i t, (hearF s.sh b a q s.ns i t).made = (s.sh i t).made ∧ (hearF s.sh b a q s.ns i t).opn = (s.sh i t).opn := fun i t => by
  rw [hearF_eq]
  split
  ·rename_i e
   rw [← e.2]
   exact hr _
  ·exact ⟨rfl, rfl⟩
 refine h.same rfl rfl (fun i t => (hs i t).1) (fun i t => (hs i t).2) (fun i j no hh => ?_)
 show Ms.mark no ∈ upd2 s.ch a b l i j
 unfold upd2
 split
 ·rename_i e
  obtain ⟨rfl, rfl⟩ := e
  rw [hc] at hh
  simpa using hh
 ·exact hh
theorem MI.record {s : Nt} (h : MI s) {no at_ : Nat} (h1 : 1 ≤ no) (hat : at_ < s.n) (hm : (s.sh (no - 1) at_).made = false) : MI (recordS s no at_) := by
 obtain ⟨e1, e2, _⟩ := recordS_n s no at_
 have hmade : ∀ i t, ((recordS s no at_).sh i t).made = if i = no - 1 ∧ t = at_ then true else (s.sh i t).made := fun i t => by
  rw [recordS_sh]
  split <;> rfl
 have hopn : ∀ i t f, ((recordS s no at_).sh i t).opn f = if (i = no - 1 ∧ t = at_) ∧ f < s.n ∧ f ≠ at_ then true else (s.sh i t).opn f := fun i t f => by
  rw [recordS_sh]
  split
  ·rename_i e
   show (if f < s.n ∧ f ≠ at_ then true else (s.sh i t).opn f) = _
   by_cases hf : f < s.n ∧ f ≠ at_
   ·rw [if_pos hf, if_pos ⟨e, hf⟩]
   ·rw [if_neg hf, if_neg (fun h => hf h.2)]
  ·rename_i e
   rw [if_neg (fun h => e h.1)]
 have hch : ∀ a b x, Ms.mark x ∈ s.ch a b → Ms.mark x ∈ (recordS s no at_).ch a b := fun a b x hx => by
  rw [recordS_ch]
  split
  ·simp [hx]
  ·exact hx
 refine ⟨fun i a b hi ha hb hab g1 g2 => ?_, fun i t f g => ?_, fun i hi => ?_, fun i t f g => ?_⟩
 ·rw [e1] at ha hb
  rw [e2] at hi
  rw [hmade] at g1
  by_cases ea : i = no - 1 ∧ a = at_
  ·obtain ⟨rfl, rfl⟩ := ea
   rw [recordS_ch, if_pos ⟨rfl, hb, fun e => hab e.symm⟩, show no - 1 + 1 = no by omega]
   simp
  ·rw [if_neg ea] at g1
   refine hch _ _ _ (h.m1 i a b hi ha hb hab g1 ?_)
   rw [hmade, hopn] at g2
   by_cases eb : i = no - 1 ∧ b = at_
   ·obtain ⟨rfl, rfl⟩ := eb
    exact .inl hm
   ·rw [if_neg eb, if_neg (fun h => eb h.1)] at g2
    exact g2
 ·rw [e1]
  rw [hopn] at g
  split at g
  ·rename_i e
   rw [e.1.2]
   exact e.2
  ·exact h.m2 i t f g
 ·rw [e2] at hi
  obtain ⟨a, q1, q2⟩ := h.m3 i hi
  refine ⟨a, by rw [e1]; exact q1, ?_⟩
  rw [hmade]
  split
  ·rfl
  ·exact q2
 ·rw [hmade] at g
  rw [hopn]
  split at g
  ·simp at g
  ·rename_i e
   rw [if_neg (fun h => e h.1)]
   exact h.m0 i t f g
theorem MI.heedDrop {s : Nt} (h : MI s) {a b no : Nat} {l : List Ms} (h1 : 1 ≤ no) (hab : a ≠ b) (hb : b < s.n) (hc : s.ch a b = .mark no :: l) : MI (dropS (heedS s a b no) a b l) := by
 have hH : MI (heed1 s b no) := by
  unfold heed1
  split
  ·exact h
  ·rename_i hm
   exact h.record h1 hb (by simpa using hm)
 have hmd : ((heed1 s b no).sh (no - 1) b).made = true := by
  unfold heed1
  split
  ·assumption
  ·rw [recordS_sh, if_pos ⟨rfl, rfl⟩]
   rfl
 have hcH : (heed1 s b no).ch a b = .mark no :: l := by rw [heed1_ch s no hab, hc]
 have hmade : ∀ i t, ((dropS (heedS s a b no) a b l).sh i t).made = ((heed1 s b no).sh i t).made := fun i t => by
  show (upd2 (heed1 s b no).sh (no - 1) b (shutR ((heed1 s b no).sh (no - 1) b) a) i t).made = _
  unfold upd2
  split
  ·rename_i e; obtain ⟨rfl, rfl⟩ := e; rfl
  ·rfl
 have hopn : ∀ i t f, ((dropS (heedS s a b no) a b l).sh i t).opn f = if i = no - 1 ∧ t = b ∧ f = a then false else ((heed1 s b no).sh i t).opn f := fun i t f => by
  show (upd2 (heed1 s b no).sh (no - 1) b (shutR ((heed1 s b no).sh (no - 1) b) a) i t).opn f = _
  by_cases e : i = no - 1 ∧ t = b
  ·obtain ⟨rfl, rfl⟩ := e
   rw [upd2_self]
   show upd _ a false f = _
   by_cases ef : f = a
   ·subst ef; rw [upd_self, if_pos ⟨rfl, rfl, rfl⟩]
   ·rw [upd_ne _ _ ef, if_neg (fun h => ef h.2.2)]
  ·rw [upd2_ne _ _ e, if_neg (fun h => e ⟨h.1, h.2.1⟩)]
 refine ⟨fun i x y hi hx hy hxy g1 g2 => ?_, fun i t f g => ?_, fun i hi => ?_, fun i t f g => ?_⟩
 ·rw [hmade] at g1 g2
  rw [hopn] at g2
  have key : ¬ (i = no - 1 ∧ y = b ∧ x = a) → Ms.mark (i + 1) ∈ (heed1 s b no).ch x y := fun hne => by
   rw [if_neg hne] at g2
   exact hH.m1 i x y hi hx hy hxy g1 g2
  show Ms.mark (i + 1) ∈ upd2 (heed1 s b no).ch a b l x y
  by_cases e : x = a ∧ y = b
  ·obtain ⟨rfl, rfl⟩ := e
   rw [upd2_self]
   by_cases ei : i = no - 1
   ·subst ei
    rw [if_pos ⟨rfl, rfl, rfl⟩] at g2
    rw [hmd] at g2
    simp at g2
   ·have := key (fun h => ei h.1)
    rw [hcH] at this
    rcases List.mem_cons.1 this with h | h
    ·simp only [Ms.mark.injEq] at h
     omega
    ·exact h
  ·rw [upd2_ne _ _ e]
   exact key (fun h => e ⟨h.2.2, h.2.1⟩)
 ·rw [hopn] at g
  split at g
  ·simp at g
  ·exact hH.m2 i t f g
 ·obtain ⟨x, q1, q2⟩ := hH.m3 i hi
  exact ⟨x, q1, by rw [hmade]; exact q2⟩
 ·rw [hmade] at g
  rw [hopn]
  split
  ·rfl
  ·exact hH.m0 i t f g
theorem MI.start {s : Nt} (h : MI s) {a : Nat} (ha : a < s.n) : MI (startS s a) := by
 have hz : ∀ t, ((newS s).sh s.ns t) = zeroR := fun t => by
  show (if s.ns = s.ns then zeroR else s.sh s.ns t) = _
  rw [if_pos rfl]
 have ho : ∀ i t, i ≠ s.ns → (newS s).sh i t = s.sh i t := fun i t hi => if_neg hi
 obtain ⟨e1, e2, _⟩ := recordS_n (newS s) (s.ns + 1) a
 have e1' : (startS s a).n = s.n := e1
 have e2' : (startS s a).ns = s.ns + 1 := e2
 have hsh : ∀ i t, (startS s a).sh i t = if i = s.ns ∧ t = a then recR (newS s) ((newS s).sh i t) a else (newS s).sh i t := fun i t => recordS_sh (newS s) (s.ns + 1) a i t
 have hch : ∀ x y, (startS s a).ch x y = if x = a ∧ y < s.n ∧ y ≠ a then s.ch x y ++ [.mark (s.ns + 1)] else s.ch x y := fun x y => recordS_ch (newS s) (s.ns + 1) a x y
 refine ⟨fun i x y hi hx hy hxy g1 g2 => ?_, fun i t f g => ?_, fun i hi => ?_, fun i t f g => ?_⟩
 ·rw [e1'] at hx hy
  rw [e2'] at hi
  rw [hch]
  by_cases ei : i = s.ns
  ·subst ei
   rw [hsh] at g1
   by_cases ex : x = a
   ·subst ex
    rw [if_pos ⟨rfl, hy, fun e => hxy e.symm⟩]
    simp
   ·rw [if_neg (fun h => ex h.2), hz] at g1
    simp [zeroR] at g1
  ·rw [hsh, if_neg (fun h => ei h.1), ho i _ ei] at g1 g2
   have := h.m1 i x y (by omega) hx hy hxy g1 g2
   split
   ·simp [this]
   ·exact this
 ·rw [e1']
  rw [hsh] at g
  split at g
  ·rename_i e
   obtain ⟨rfl, rfl⟩ := e
   have g' : (if f < s.n ∧ f ≠ t then true else ((newS s).sh s.ns t).opn f) = true := g
   rw [hz] at g'
   split at g'
   ·assumption
   ·simp [zeroR] at g'
  ·by_cases ei : i = s.ns
   ·subst ei
    rw [hz] at g
    simp [zeroR] at g
   ·rw [ho i _ ei] at g
    exact h.m2 i t f g
 ·rw [e2'] at hi
  rw [e1']
  by_cases ei : i = s.ns
  ·subst ei
   refine ⟨a, ha, ?_⟩
   rw [hsh, if_pos ⟨rfl, rfl⟩]
   rfl
  ·obtain ⟨x, q1, q2⟩ := h.m3 i (by omega)
   refine ⟨x, q1, ?_⟩
   rw [hsh, if_neg (fun h => ei h.1), ho i _ ei]
   exact q2
 ·rw [hsh] at g ⊢
  split at g
  ·simp [recR, recG] at g
  ·rename_i e
   rw [if_neg e]
   by_cases ei : i = s.ns
   ·subst ei
    rw [hz]
    rfl
   ·rw [ho i _ ei] at g ⊢
    exact h.m0 i t f g
theorem MI.rcv {s : Nt} (h : MI s) (I : NInv s) (a b : Int) : MI (rcvS s a b) := by
 unfold rcvS
 split
 ·exact h
 ·rename_i e
  obtain ⟨A, B, rfl, rfl, h1, h2, h3⟩ := chkF_0 (n := s.n) (a := a) (b := b) (by omega)
  rw [Int.toNat_natCast, Int.toNat_natCast]
  unfold recvN
  cases hc : s.ch A B with
  | nil => exact h
  | cons w l =>
   cases w with
   | par q c =>
    show MI (if 400 ≤ s.evs.length then ((8 : Int), s) else (0, dropS (recvS s A B q c) A B l)).2
    split
    ·exact h
    ·exact h.recvDrop hc
   | mark no =>
    obtain ⟨m1, m2⟩ := I.mrk A B no (by rw [hc]; simp)
    exact h.heedDrop m1 h3 h2 hc
theorem MI.act {s : Nt} (h : MI s) (I : NInv s) (a : ActD) : MI (actN s a) := by
 unfold actN
 split
 ·unfold workN
  split
  ·exact h.work _ _
  ·exact h
 ·split
  ·unfold sendN
   split
   ·exact h.send _ _ _
   ·exact h
  ·split
   ·unfold startN
    split
    ·rename_i e
     refine h.start ?_
     unfold startE at e
     split at e
     ·rename_i hh
      obtain ⟨q1, q2⟩ := hh
      omega
     ·omega
    ·exact h
   ·exact h.rcv I _ _
theorem MI.acts {s : Nt} (h : MI s) (I : NInv s) : ∀ l : List ActD, MI (actsN s l) := by
 intro l
 induction l generalizing s with
 | nil => exact h
 | cons a l ih => exact ih (h.act I a) (I.act a)
def doneR (r : Rc) : Bool := r.made && (!r.opn 0 && (!r.opn 1 && (!r.opn 2 && (!r.opn 3 && !r.opn 4))))
end Go.AM
namespace Go.AM
open Go Go.Proofs
theorem ceqs_b (xs ys : List Value) (k : Nat) (is : List Nat) (a : Bool) (hx : xs[k]? = some (.bool a)) (hy : ys[k]? = some (.bool false)) : ceqs xs ys ((2 * k + 1) :: is) = if a then some false else ceqs xs ys is := by
 show (match xs[(2 * k + 1) / 2]?, ys[(2 * k + 1) / 2]? with
  | some x, some y => match ceq ((2 * k + 1) % 2) x y with
   | some true => ceqs xs ys is
   | some false => some false
   | none => none
  | _, _ => none) = _
 rw [show (2 * k + 1) / 2 = k by omega, show (2 * k + 1) % 2 = 1 by omega, hx, hy]
 cases a <;> rfl
theorem eq144 (a b c d e : Bool) : mbin E .eql 144 (.agg #[.bool a, .bool b, .bool c, .bool d, .bool e]) (.agg #[.bool false, .bool false, .bool false, .bool false, .bool false]) = some (.bool (!a && (!b && (!c && (!d && !e))))) := by
 have h : mbin E .eql 144 (.agg #[.bool a, .bool b, .bool c, .bool d, .bool e]) (.agg #[.bool false, .bool false, .bool false, .bool false, .bool false]) = (ceqs [.bool a, .bool b, .bool c, .bool d, .bool e] [.bool false, .bool false, .bool false, .bool false, .bool false] [2 * 0 + 1, 2 * 1 + 1, 2 * 2 + 1, 2 * 3 + 1, 2 * 4 + 1]).map .bool := by kernel_rfl
 rw [h, ceqs_b _ _ _ _ a rfl rfl, ceqs_b _ _ _ _ b rfl rfl, ceqs_b _ _ _ _ c rfl rfl, ceqs_b _ _ _ _ d rfl rfl, ceqs_b _ _ _ _ e rfl rfl]
 cases a <;> cases b <;> cases c <;> cases d <;> cases e <;> rfl
theorem bl144 : mbuild E.P 144 [] = some (.agg #[.bool false, .bool false, .bool false, .bool false, .bool false]) := by kernel_rfl
theorem rc_op5 {m : M} {r off : Nat} {x : Rc} {h : Nat → Value} (hc : Cs m r off (rcC x h)) : Cs m r (off + 3) [.bool (x.opn 0), .bool (x.opn 1), .bool (x.opn 2), .bool (x.opn 3), .bool (x.opn 4)] := by
 have h1 : Cs m r off (([.bool x.made, vi x.pcs, vi x.evs] ++ [.bool (x.opn 0), .bool (x.opn 1), .bool (x.opn 2), .bool (x.opn 3), .bool (x.opn 4)]) ++ [h 0, h 1, h 2, h 3, h 4]) := hc
 exact Cs.right (a := [.bool x.made, vi x.pcs, vi x.evs]) h1.left
section
variable {k : Nat} {base : Nat} {p : Nat} {own : Nat → Nat} {m : M} {d : NP} {s : Nt}
theorem t108 (q : Nat) {r off : Nat} {x : Rc} {h : Nat → Value} (hc : Cs m r off (rcC x h)) : rt (q + 1) base 108 [pt r off] m = some (.ret (.bool (doneR x)), m) := by
 refine rt_pure (f := 108) (rf := rf108) (by kernel_rfl) (by kernel_rfl) (by kernel_rfl) q base _ m m _ ?_ rfl
 show r108 (rt q) q m.length (pt r off) m = _
 have h0 : mcell m r off = some (.bool x.made) := by
  have := hc 0 _ rfl
  exact this
 have ho : xload E.P m 144 (pt r (off + 3)) = some (.agg #[.bool (x.opn 0), .bool (x.opn 1), .bool (x.opn 2), .bool (x.opn 3), .bool (x.opn 4)]) := gldk g144 (rc_op5 hc) rfl (by simp)
 unfold r108 doneR
 rw [k1_fun, fVal_fun, mnil_pt, k1s, gfd f147_0, k1s, show off + 0 = off from rfl, gld1 a4, h0, k1s]
 cases hm : x.made with
 | false => rw [kbf]; rfl
 | true => rw [kbt, k1s, gfd f147_3, k1s, ho, k1s, bl144, k1s, eq144, k1s]; rfl
def doneS (s : Nt) (i : Nat) : Bool := (List.range s.n).all fun t => doneR (s.sh i t)
theorem loop79 (q : Nat) (kp kr : Value → M → Res2) (kx : M → Res2) (h : Net own k m p d s) {i : Nat} (hi : i < s.ns) :
  ∀ (w t : Nat), t ≤ s.n → s.n + 1 ≤ w + t → (∀ a, a < t → doneR (s.sh i a) = true) → r79_L0 (rt (q + 1)) (q + 1) base kp kr kx w (sl (d.rr i) s.n) (vi s.n) (vi t) m = if doneS s i then kx m else kr (.bool false) m
 | 0, t, ht, hw, ha => by omega
 | w + 1, t, ht, hw, ha => by
  have n5 := h.n5
  rw [r79_L0_s, lssN, k1s]
  by_cases hlt : t < s.n
  ·rw [decide_eq_true hlt, kbt, gix s125 (d.rr i) 0 s.n s.n t hlt, k1s, show 0 + t * 13 = t * 13 by omega, t108 q (h.N.cs i t hi hlt), kcs, notB 4, k1s]
   cases hd : doneR (s.sh i t) with
   | false =>
    rw [Bool.not_false, kbt, if_neg]
    unfold doneS
    rw [all_range_false hlt hd]
    simp
   | true =>
    rw [Bool.not_true, kbf, add1 3 _ (by omega), k1s]
    refine loop79 q kp kr kx h hi w (t + 1) (by omega) (by omega) fun a h' => ?_
    by_cases e : a = t
    ·subst e; exact hd
    ·exact ha a (by omega)
  ·rw [decide_eq_false hlt, kbf, if_pos]
   unfold doneS
   exact all_range_true fun a h' => ha a (by omega)
theorem t79 (q : Nat) (hq : 6 ≤ q) (h : Net own k m p d s) {i : Nat} (hi : i < s.ns) : rt (q + 2) base 79 [sl (d.rr i) s.n] m = some (.ret (.bool (doneS s i)), m) := by
 have n5 := h.n5
 refine rt_pure (f := 79) (rf := rf79) (by kernel_rfl) (by kernel_rfl) (by kernel_rfl) (q + 1) base _ m m _ ?_ rfl
 show r79 (rt (q + 1)) (q + 1) m.length (sl (d.rr i) s.n) m = _
 unfold r79
 rw [vcall_fun, fVal_fun, glen i125, k2s]
 refine (loop79 q _ _ _ h hi (q + 1) 0 (by omega) (by omega) (by omega)).trans ?_
 split
 ·rename_i e; rw [e]
 ·rename_i e
  have : doneS s i = false := by simpa using e
  rw [this]
def findE (s : Nt) (no : Int) : Int := if 1 ≤ no ∧ no ≤ s.ns then 0 else 6
theorem t78 (q : Nat) (h : Net own k m p d s) (no : Int) : rt (q + 2) base 78 [pt p 0, vi no] m = some (.ret (.tuple #[if findE s no = 0 then sl (d.rr (no.toNat - 1)) s.n else nilS, vi (findE s no)]), m) := by
 rw [rt_imp (f := 78) (rf := rf78) (by kernel_rfl) (by kernel_rfl) (by kernel_rfl)]
 show r78 (rt (q + 1)) (q + 1) base (pt p 0) (vi no) m = _
 unfold r78 findE
 rw [k1_fun, vcall_fun, t68 q _ h.H h.n2, kcs, kbf, show (.int .i64 1 : Value) = vi 1 from rfl, lssI, k1s]
 by_cases h1 : no < 1
 ·rw [decide_eq_true h1, kbt, if_neg (by omega), if_neg (by omega)]
  rfl
 ·rw [decide_eq_false h1, kbf, mnil_pt, k1s, h.H.sns, h.N.vec.lst.len i55, k2s, gtrI, k1s]
  by_cases h2 : no > s.ns
  ·rw [decide_eq_true h2, kbt, if_neg (by omega), if_neg (by omega)]
   rfl
  ·obtain ⟨pp, off, e55, _, _, hc55⟩ := h.N.vec.lst.ix s55 (j := no.toNat - 1) (by omega)
   have n8 := h.ns8
   have hsub : wr (no - 1) = ((no.toNat - 1 : Nat) : Int) := by rw [wr_id (by omega) (by omega)]; omega
   rw [decide_eq_false h2, kbf, k1s, h.H.sns, subI, k1s, hsub, e55, k1s, gld1 a125, hc55.cell, k1s, show (if 1 ≤ no ∧ no ≤ (s.ns : Int) then (0 : Int) else 6) = 0 from if_pos ⟨by omega, by omega⟩, if_pos rfl]
   rfl
theorem t30 (q : Nat) (hq : 6 ≤ q) (h : Net own k m p d s) (no : Int) : rt (q + 3) base 30 [pt p 0, vi no] m = some (.ret (.tuple #[.bool (findE s no = 0 && doneS s (no.toNat - 1)), vi (findE s no)]), m) := by
 refine rt_pure (f := 30) (rf := rf30) (by kernel_rfl) (by kernel_rfl) (by kernel_rfl) (q + 2) base _ m m _ ?_ rfl
 show r30 (rt (q + 2)) (q + 2) m.length (pt p 0) (vi no) m = _
 unfold r30
 rw [k1_fun, t78 q h no, kcs, ext0, k1s, ext1, k1s, neqE, k1s]
 by_cases e : findE s no = 0
 ·have hh : 1 ≤ no ∧ no ≤ s.ns := by
   unfold findE at e
   split at e
   ·assumption
   ·omega
  rw [decide_eq_true e, Bool.not_true, kbf, if_pos e, t79 q hq h (by omega), kcs, Bool.true_and, e]
  rfl
 ·rw [decide_eq_false e, Bool.not_false, kbt, Bool.false_and]
end
section
variable {k : Nat} {base : Nat} {p : Nat}
theorem nilP25 (p : Nat) : mbin E .eql 25 (pt p 0) (.pointer none) = some (.bool false) := isNil25 p
theorem nilPn : mbin E .eql 25 (.pointer none) (.pointer none) = some (.bool true) := by kernel_rfl
end
end Go.AM
namespace Go.AM
open Go Go.Proofs
theorem gb45e (m : M) : xbuildSlice E.P m 45 0 [] = some (sl m.length 0, m ++ [rowz 5 true []]) := by
 have e : xbuildSlice E.P m 45 0 [] = xlen m fun n => xpush m (rowz 5 true []) fun m' => some (sl n 0, m') := by kernel_rfl
 rw [e, xlen_eq, fNat_eq, xpush_eq, fList_eq]
theorem nil45 (a : Addr) (l c : Nat) : mbin E .eql 45 (.slice (some a) l c) nilS = some (.bool false) := by kernel_rfl
theorem nil45n : mbin E .eql 45 nilS nilS = some (.bool true) := by kernel_rfl
theorem clone_app {own : Nat → Nat} {t z n : Nat} {m : M} {r off : Nat} {C : Nat → List Value} (hz : 0 < z) (base : Nat) (hb : base ≤ m.length) (h : Vec own t z m (slo r off n n) n C) (hv : ∀ i, i < n → (C i).all (·.oneCell') = true) (hn : n ≤ 100000) :
  (n = 0 ∧ appF z base (m ++ [rowz z true []]) (sl m.length 0) (slo r off n n) = some (sl m.length 0, m ++ [rowz z true []])) ∨
  (0 < n ∧ appF z base (m ++ [rowz z true []]) (sl m.length 0) (slo r off n n) = some (sl (m.length + 1) n, (m ++ [rowz z true []]) ++ [rowz z false (flatC C n)])) := by
 rcases h with ⟨_, h⟩ | ⟨r', off', ex, N, h, h1, h2, h3, h4, h5⟩
 ·simp [slo] at h
 ·have he : r = r' ∧ off = off' := by
   have := congrArg (fun v => match v with
    | Value.slice (some a) _ _ => (a.block, a.off)
    | _ => (0, 0)) h
   simpa [slo] using this
  obtain ⟨rfl, rfl⟩ := he
  by_cases h0 : n = 0
  ·subst h0
   left
   refine ⟨rfl, ?_⟩
   have hs : xsource (m ++ [rowz z true []]) z (slo r off 0 0) = some (0, []) := by
    have e : xsource (m ++ [rowz z true []]) z (slo r off 0 0) = (xread (m ++ [rowz z true []]) r off (0 * z)).map fun cs => (0, cs) := rfl
    rw [e, xread_eq, Nat.zero_mul, mread0 (h1.congr (push_get h1.lt)) (by omega)]
    rfl
   exact app_none (a := none) hs (.inr (.inl ⟨_, _, _, _, rfl, Nat.le_refl _⟩))
  ·right
   refine ⟨by omega, ?_⟩
   have hfl := flatC_len (fun i hi => (h5 i hi).2)
   have hp : 0 < n * z := Nat.mul_pos (by omega) hz
   have hne : flatC C n ≠ [] := by intro e; rw [e] at hfl; simp at hfl; omega
   have hsrc := xsource_push (x := [rowz z true []]) (z := z) (v := slo r off n n) (c := n) (cs := flatC C n) ⟨r, off, none, n, n, rfl, .inl rfl, rfl, hfl, hne, flatC_mk (fun i hi => (h5 i hi).2) (fun i hi => (h5 i hi).1)⟩
   have hall : (flatC C n).all (·.oneCell') = true := by
    have : ∀ k, k ≤ n → (flatC C k).all (·.oneCell') = true := fun k => by
     induction k with
     | zero => intro _; rfl
     | succ k ih =>
      intro hk
      show (flatC C k ++ C k).all _ = true
      rw [List.all_append, ih (by omega), hv k (by omega)]
      rfl
    exact this n (Nat.le_refl _)
   have := app_some (base := base) hsrc hb (Hd_new m z true []) (off := 0) (len := 0) (olds := []) (.inl rfl) (by simp) (fun i v h => by simp at h) (by simp) (by omega) (by omega) (by omega) hall
   rw [this]
   simp
section
variable {own : Nat → Nat} {k : Nat} {m : M} {p : Nat} {d : NP} {s : Nt} {base : Nat}
theorem lst_src {own : Nat → Nat} {t : Nat} {m : M} {u : Value} {l : List Int} (h : Nums own t m u l) (h0 : l ≠ []) : ∃ r off s ln cap, u = .slice (some ⟨r, off, s⟩) ln cap ∧ (s = none ∨ s = some 2) ∧ l.length = ln ∧ (l.map vi).length = ln * 1 ∧ l.map vi ≠ [] ∧ Cs m r off (l.map vi) := by
 obtain ⟨a, c, rfl, hh⟩ := h
 obtain ⟨r, off, rfl, _, _, hc⟩ := hh (List.length_pos_iff.2 h0)
 refine ⟨r, off, none, _, _, rfl, .inl rfl, rfl, by simp, by simpa using h0, fun i v hi => ?_⟩
 have hil : i < l.length := by
  have := (List.getElem?_eq_some_iff.1 hi).1
  simpa using this
 have hv : v = vi (nth l i) := by
  rw [List.getElem?_map, List.getElem?_eq_getElem hil] at hi
  simp at hi
  rw [nth_get hil]
  exact hi.symm
 subst hv
 have := (hc i hil).cell
 rw [Nat.mul_one] at this
 exact this
theorem clone22 (q : Nat) {t : Nat} {u : Value} {l : List Int} (h : Nums own t m u l) (h0 : l ≠ []) (hl : l.length ≤ 1000) (hb : base ≤ m.length) (tg : Nat) :
  ∃ own' m', rt (q + 1) base 74 [u] m = some (.ret (sl (m.length + 1) l.length), m') ∧ Nums own' tg m' (sl (m.length + 1) l.length) l ∧ (∀ T, Step T own m own' m') ∧ own' (m.length + 1) = tg ∧ (∀ r, r ≠ m.length → r ≠ m.length + 1 → own' r = own r) ∧ own' m.length = 0 ∧ m'.length = m.length + 2 ∧ Hd m' (m.length + 1) 1 false l.length ∧ Cs m' (m.length + 1) 0 (l.map vi) ∧ (∃ x, m' = m ++ x) := by
 have hs := lst_src h h0
 have hrun := t74 q base (c := l.length) (cs := l.map vi) hs hb hl (all_vi l)
 have hl1 : (m ++ [rowz 1 true []]).length = m.length + 1 := by simp
 have hc := Cs_new (m ++ [rowz 1 true []]) 1 false (l.map vi)
 rw [hl1] at hc
 have hd := Hd_new (m ++ [rowz 1 true []]) 1 false (l.map vi)
 rw [hl1, List.length_map] at hd
 refine ⟨upd (upd own m.length 0) (m.length + 1) tg, _, hrun, ?_, fun T => ?_, upd_self _ _ _, fun r h1 h2 => by rw [upd_ne _ _ h2, upd_ne _ _ h1], by rw [upd_ne _ _ (by omega), upd_self], by simp, hd, hc, ⟨[rowz 1 true [], rowz 1 false (l.map vi)], by simp⟩⟩
 ·refine ⟨_, _, rfl, fun _ => ⟨m.length + 1, 0, rfl, hd.lt, upd_self _ _ _, fun i hi => ?_⟩⟩
  rw [Nat.mul_one]
  refine Cs.one (hc i _ ?_)
  rw [List.getElem?_map, List.getElem?_eq_getElem hi, nth_get hi]
  rfl
 ·have a := Step.push T own m (rowz 1 true []) 0
  have b := Step.push T (upd own m.length 0) (m ++ [rowz 1 true []]) (rowz 1 false (l.map vi)) tg
  rw [hl1] at b
  exact a.trans b
theorem ev5 {m : M} {r z n j : Nat} {ex : Bool} {e : Evt} {u w : Value} (h : Cs m r (j * 5) (evC e u)) (hd : Hd m r z ex n) (hn : j * 5 + 5 ≤ n) : Cs (mwr m r (j * 5 + 4) [w]) r (j * 5) (evC e w) := by
 have := Cs.set1 h hd (j := 4) (by simp [evC]) (by simp [evC]; omega) w
 exact this
theorem all_evC {e : Evt} {u : Value} (hu : ∃ a n c, u = .slice a n c) : (evC e u).all (·.oneCell') = true := all5 hu
end
end Go.AM
namespace Go.AM
open Go Go.Proofs
def ClkW (own : Nat → Nat) (m : M) (u : Value) (l : List Int) : Prop := ∃ r, u = sl r l.length ∧ Hd m r 1 false l.length ∧ own r = 48 ∧ Nums own 48 m u l
theorem ClkW.step {own own' : Nat → Nat} {m m' : M} {T : Nat → Prop} {u : Value} {l : List Int} (h : ClkW own m u l) (s : Step T own m own' m') (ht : ¬ T 48) : ClkW own' m' u l := by
 obtain ⟨r, rfl, h1, h2, h3⟩ := h
 exact ⟨r, rfl, s.hd h1 (by rw [h2]; exact ht), (s.tg r h1.lt).trans h2, Lst.step h3 s ht⟩
def EvsW (own : Nat → Nat) (m : M) (v : Value) (l : List Evt) : Prop := ∃ U : Nat → Value, Lst own 49 5 m v l.length (fun i => evC (evt l i) (U i)) ∧ ∀ i, i < l.length → ClkW own m (U i) (evt l i).clk
theorem EvsW.step {own own' : Nat → Nat} {m m' : M} {T : Nat → Prop} {v : Value} {l : List Evt} (h : EvsW own m v l) (s : Step T own m own' m') (ht : ¬ T 48) (ht2 : ¬ T 49) : EvsW own' m' v l := by
 obtain ⟨U, h1, h2⟩ := h
 exact ⟨U, Lst.step h1 s ht2, fun i hi => (h2 i hi).step s ht⟩
section
variable {own : Nat → Nat} {k : Nat} {m : M} {p : Nat} {d : NP} {s : Nt} {base : Nat}
theorem loop26w (q : Nat) (kp kx : Value → M → Res2) {l : List Evt} {r : Nat} (hl : l.length ≤ 1000) (hclk : ∀ i, i < l.length → (evt l i).clk ≠ [] ∧ (evt l i).clk.length ≤ 1000) (hbr : base ≤ r) :
  ∀ (w i : Nat) (own : Nat → Nat) (m : M) (U : Nat → Value), i ≤ l.length → l.length + 1 ≤ w + i → Own base own → Hd m r 5 false (5 * l.length) → own r = 49 → (∀ j, j < l.length → Cs m r (j * 5) (evC (evt l j) (U j)) ∧ (i ≤ j → Nums own 0 m (U j) (evt l j).clk) ∧ (j < i → ClkW own m (U j) (evt l j).clk)) →
   ∃ own' m', ∃ U' : Nat → Value, r26_L0 (rt (q + 1)) (q + 1) base kp kx w (sl r l.length) (vi l.length) (vi i) m = kx (sl r l.length) m' ∧ Own base own' ∧ Hd m' r 5 false (5 * l.length) ∧ own' r = 49 ∧ (∀ j, j < l.length → Cs m' r (j * 5) (evC (evt l j) (U' j)) ∧ ClkW own' m' (U' j) (evt l j).clk) ∧ Step (· = 49) own m own' m'
 | 0, i, own, m, U, hi, hw, hO, hd, ht, hU => by omega
 | w + 1, i, own, m, U, hi, hw, hO, hd, ht, hU => by
  rw [r26_L0_s, lssN, k1s]
  by_cases hlt : i < l.length
  ·have hbm : base ≤ m.length := by have := hd.lt; omega
   obtain ⟨c1, c2, _⟩ := hU i hlt
   have c2 := c2 (Nat.le_refl _)
   have hc4 : mcell m r (i * 5 + 4) = some (U i) := c1 4 _ rfl
   obtain ⟨own1, m1, hrun, hN, hS, htg, hoth, _, hm1, hd1, hcs1, _⟩ := clone22 (base := base) q c2 (hclk i hlt).1 (hclk i hlt).2 hbm 48
   have s1 := hS (fun _ => False)
   have hO1 : Own base own1 := fun x hx => by
    by_cases e1 : x < m.length
    ·rw [s1.tg x e1] at hx; exact hO x hx
    ·omega
   have hd' : Hd m1 r 5 false (5 * l.length) := s1.hd hd (fun h => h)
   have ht1 : own1 r = 49 := (s1.tg r hd.lt).trans ht
   let v := sl (m.length + 1) (evt l i).clk.length
   let m2 : M := mwr m1 r (i * 5 + 4) [v]
   have s2 : Step (· = 49) own1 m1 own1 m2 := Step.wr (T := (· = 49)) ht1 _ _
   have hst : xstore E.P base m1 22 (pt r (i * 5 + 4)) v = some m2 := gstS z22 hbr hd' (by omega) _ _ _
   obtain ⟨own', m', U', g1, g2, g3, g4, g5, g6⟩ := loop26w q kp kx hl hclk hbr w (i + 1) own1 m2 (upd U i v) (by omega) (by omega) hO1 (mwr_hd hd') ht1 (fun j hj => by
    obtain ⟨a1, a2, a3⟩ := hU j hj
    have b1 := s1.cs a1 (fun h => h)
    by_cases e : j = i
    ·subst e
     rw [upd_self]
     refine ⟨ev5 b1 hd' (by omega), fun h => by omega, fun _ => ⟨m.length + 1, rfl, s2.hd hd1 (by rw [htg]; omega), htg, Lst.step hN s2 (by omega)⟩⟩
    ·rw [upd_ne _ _ e]
     refine ⟨b1.wr ?_, fun h => Lst.step (Lst.step (a2 (by omega)) s1 (fun h => h)) s2 (by omega), fun h => ((a3 (by omega)).step s1 (fun h => h)).step s2 (by omega)⟩
     simp [evC]
     omega)
   refine ⟨own', m', U', ?_, g2, g3, g4, g5, (hS _).trans (s2.trans g6)⟩
   rw [decide_eq_true hlt, kbt, gix s45 r 0 _ _ i hlt, k1s, show 0 + i * 5 = i * 5 by omega, gfd f72_4, k1s, gld1 a22, hc4, k1s, hrun, kcs, k1s, gfd f72_4, k1s, hst, kss, add1 3 _ (by omega), k1s]
   exact g1
  ·rw [decide_eq_false hlt, kbf]
   exact ⟨own, m, U, rfl, hO, hd, ht, fun j hj => ⟨(hU j hj).1, (hU j hj).2.2 (by omega)⟩, Step.refl _ _ _⟩
theorem t26w (q : Nat) (hq : 1010 ≤ q) (hO : Own base own) (h : Net own k m p d s) (hl : s.evs.length ≤ 1000) (hclk : ∀ i, i < s.evs.length → (evt s.evs i).clk ≠ [] ∧ (evt s.evs i).clk.length ≤ 1000) :
  ∃ own' m' v, rt (q + 2) base 26 [pt p 0] m = some (.ret v, m') ∧ Own base own' ∧ EvsW own' m' v s.evs ∧ Step (· = 49) own m own' m' := by
 have hbm : base ≤ m.length := by have := hO p (by rw [h.H.tg]; have := h.k0; omega); have := h.H.hd.lt; omega
 rw [rt_imp (f := 26) (rf := rf26) (by kernel_rfl) (by kernel_rfl) (by kernel_rfl)]
 show ∃ own' m' v, r26 (rt (q + 1)) (q + 1) base (pt p 0) m = _ ∧ _
 unfold r26
 rw [k1_fun, vcall_fun, fVal_fun, t68 q _ h.H h.n2, kcs, kbf, mnil_pt, k1s, h.H.evl]
 obtain ⟨U, hV, hU⟩ := h.E
 rw [rt_imp (f := 73) (rf := rf73) (by kernel_rfl) (by kernel_rfl) (by kernel_rfl)]
 show ∃ own' m' v, kc (r73 (rt q) q base d.ev m) _ _ = _ ∧ _
 unfold r73
 rw [k1_fun, vcall_fun, fVal_fun]
 have hV' := hV
 rcases hV' with ⟨h0, hnil⟩ | ⟨r, off, ex, N, hslo, h1, h2, h3, h4, h5⟩
 ·rw [hnil, nil45n, k1s, kbt, kcs]
  have e0 : vcalln E.P base m .len [45] [nilS] = some (vi 0, m) := glen i45 base m none 0 0
  rw [e0, k2s, i0]
  refine ⟨own, m, nilS, ?_, hO, ⟨U, ⟨_, _, by rw [h0], fun h => by omega⟩, fun i hi => by omega⟩, Step.refl _ _ _⟩
  rw [r26_L0_s, show vi (0 : Int) = vi ((0 : Nat) : Int) from rfl, lssN, k1s, decide_eq_false (by omega), kbf]
 ·rw [hslo] at hV ⊢
  rw [nil45, k1s, kbf, gb45e, k2s, vapp p45]
  rcases clone_app (by omega) base hbm hV (fun i hi => all_evC (hU i hi).sl3) (by omega) with ⟨h0, happ⟩ | ⟨h0, happ⟩
  ·rw [happ, k2s, kcs]
   have e0 : vcalln E.P base (m ++ [rowz 5 true []]) .len [45] [sl m.length 0] = some (vi 0, m ++ [rowz 5 true []]) := glen i45 base _ _ 0 0
   rw [e0, k2s, i0]
   refine ⟨upd own m.length 0, m ++ [rowz 5 true []], sl m.length 0, ?_, hO.upd hbm 0, ⟨U, ⟨_, _, by rw [h0], fun h => by omega⟩, fun i hi => by omega⟩, Step.push _ _ _ _ _⟩
   rw [r26_L0_s, show vi (0 : Int) = vi ((0 : Nat) : Int) from rfl, lssN, k1s, decide_eq_false (by omega), kbf]
  ·rw [happ, k2s, kcs, glen i45, k2s, i0]
   let m2 : M := (m ++ [rowz 5 true []]) ++ [rowz 5 false (flatC (fun i => evC (evt s.evs i) (U i)) s.evs.length)]
   let own2 := upd (upd own m.length 0) (m.length + 1) 49
   have hl1 : (m ++ [rowz 5 true []]).length = m.length + 1 := by simp
   have s2 : ∀ T : Nat → Prop, Step T own m own2 m2 := fun T => by
    have a := Step.push T own m (rowz 5 true []) 0
    have b := Step.push T (upd own m.length 0) (m ++ [rowz 5 true []]) (rowz 5 false (flatC (fun i => evC (evt s.evs i) (U i)) s.evs.length)) 49
    rw [hl1] at b
    exact a.trans b
   have hfl : (flatC (fun i => evC (evt s.evs i) (U i)) s.evs.length).length = 5 * s.evs.length := by rw [flatC_len (z := 5) (fun _ _ => rfl), Nat.mul_comm]
   have hd2 : Hd m2 (m.length + 1) 5 false (5 * s.evs.length) := by
    have := Hd_new (m ++ [rowz 5 true []]) 5 false (flatC (fun i => evC (evt s.evs i) (U i)) s.evs.length)
    rw [hl1, hfl] at this
    exact this
   have hc2 := Cs_new (m ++ [rowz 5 true []]) 5 false (flatC (fun i => evC (evt s.evs i) (U i)) s.evs.length)
   rw [hl1] at hc2
   obtain ⟨own3, m3, U3, g1, g2, g3, g4, g5, g6⟩ := loop26w (base := base) q (fun v m => some (.pan v, m)) (fun y m => some (.ret y, m)) (l := s.evs) (r := m.length + 1) hl hclk (by omega) (q + 1) 0 own2 m2 U (by omega) (by omega) ((hO.upd hbm 0).upd (by omega) 49) hd2 (upd_self _ _ _) (fun j hj => by
    have := flatC_cs (z := 5) (fun _ _ => rfl) hc2 j hj
    rw [Nat.zero_add] at this
    exact ⟨this, fun _ => Lst.step (hU j hj) (s2 fun _ => False) (fun h => h), fun h => by omega⟩)
   refine ⟨own3, m3, _, g1, g2, ⟨U3, ⟨_, _, rfl, fun _ => ⟨m.length + 1, 0, rfl, g3.lt, g4, fun i hi => ?_⟩⟩, fun i hi => (g5 i hi).2⟩, (s2 _).trans g6⟩
   rw [Nat.zero_add]
   exact (g5 i hi).1
end
end Go.AM
namespace Go.AM
open Go Go.Proofs
section
variable {own : Nat → Nat} {m : M} {base t z n : Nat} {v : Value} {C : Nat → List Value}
theorem vec_src (h : Vec own t z m v n C) (hz : 0 < z) : xsource m z v = some (n, flatC C n) := by
 rcases h with ⟨rfl, rfl⟩ | ⟨r, off, ex, N, rfl, h1, h2, h3, h4, h5⟩
 ·rfl
 ·have hfl := flatC_len (fun i hi => (h5 i hi).2)
  have e : xsource m z (slo r off n n) = (xread m r off (n * z)).map fun cs => (n, cs) := rfl
  rw [e, xread_eq]
  by_cases h0 : n = 0
  ·subst h0
   rw [Nat.zero_mul, mread0 h1 (by omega)]
   rfl
  ·have hp : 0 < n * z := Nat.mul_pos (by omega) hz
   have hne : flatC C n ≠ [] := by intro e; rw [e] at hfl; simp at hfl; omega
   rw [← hfl, mread_cs (flatC_mk (fun i hi => (h5 i hi).2) (fun i hi => (h5 i hi).1)) hne]
   rfl
theorem app_copy (h : Vec own t z m v n C) (hz : 0 < z) (hn : n ≤ 100000) (tg : Nat) :
  ∃ own' m' w, (∀ base, appF z base m nilS v = some (w, m')) ∧ Vec own' tg z m' w n C ∧ (∀ T, Step T own m own' m') ∧ (∀ base, base ≤ m.length → Own base own → Own base own') ∧ ∃ y, m' = m ++ y := by
 have hs := vec_src h hz
 by_cases h0 : n = 0
 ·subst h0
  exact ⟨own, m, nilS, fun base => app_none (a := none) hs (.inl rfl), .inl ⟨rfl, rfl⟩, fun T => Step.refl _ _ _, fun _ _ h => h, [], by simp⟩
 ·refine ⟨upd own m.length tg, m ++ [rowz z false (flatC C n)], sl m.length n, fun base => app_nil hs (by omega) (by omega), ?_, fun T => Step.push _ _ _ _ _, fun base hb hO => hO.upd hb tg, _, rfl⟩
  refine Vec.new hz own tg m false n (by omega) C (fun i hi => ?_)
  rcases h with ⟨h, _⟩ | ⟨r, off, ex, N, rfl, h1, h2, h3, h4, h5⟩
  ·omega
  ·exact (h5 i hi).2
theorem p86 : appOk 86 1 = true := by kernel_rfl
theorem p107 : appOk 107 2 = true := by kernel_rfl
theorem p97 : appOk 97 1 = true := by kernel_rfl
theorem p93 : appOk 93 1 = true := by kernel_rfl
theorem p80 : appOk 80 1 = true := by kernel_rfl
theorem p94 : appOk 94 5 = true := by kernel_rfl
theorem t96 (q : Nat) (h : Vec own t 1 m v n C) (hn : n ≤ 100000) (tg : Nat) :
  ∃ own' m' w, (∀ base, rt (q + 1) base 96 [v] m = some (.ret w, m')) ∧ Vec own' tg 1 m' w n C ∧ (∀ T, Step T own m own' m') ∧ (∀ base, base ≤ m.length → Own base own → Own base own') ∧ ∃ y, m' = m ++ y := by
 obtain ⟨own', m', w, g1, g2⟩ := app_copy h (by omega) hn tg
 refine ⟨own', m', w, fun base => ?_, g2⟩
 rw [rt_imp (f := 96) (rf := rf96) (by kernel_rfl) (by kernel_rfl) (by kernel_rfl)]
 show r96 (rt q) q base v m = _
 unfold r96
 rw [vcall_fun, fVal_fun, vapp p22, g1, k2s]
theorem t113 (q : Nat) (h : Vec own t 1 m v n C) (hn : n ≤ 100000) (tg : Nat) :
  ∃ own' m' w, (∀ base, rt (q + 1) base 113 [v] m = some (.ret w, m')) ∧ Vec own' tg 1 m' w n C ∧ (∀ T, Step T own m own' m') ∧ (∀ base, base ≤ m.length → Own base own → Own base own') ∧ ∃ y, m' = m ++ y := by
 obtain ⟨own', m', w, g1, g2⟩ := app_copy h (by omega) hn tg
 refine ⟨own', m', w, fun base => ?_, g2⟩
 rw [rt_imp (f := 113) (rf := rf113) (by kernel_rfl) (by kernel_rfl) (by kernel_rfl)]
 show r113 (rt q) q base v m = _
 unfold r113
 rw [vcall_fun, fVal_fun, vapp p86, g1, k2s]
end
end Go.AM
namespace Go.AM
open Go Go.Proofs
def isPar : Ms → Bool
 | .par _ _ => true
 | .mark _ => false
def nPar (l : List Ms) : Nat := (l.filter isPar).length
theorem nPar_app (l : List Ms) (w : Ms) : nPar (l ++ [w]) = nPar l + if isPar w then 1 else 0 := by
 unfold nPar
 rw [List.filter_append, List.length_append]
 cases w <;> rfl
theorem nPar_cons (w : Ms) (l : List Ms) : nPar (w :: l) = nPar l + if isPar w then 1 else 0 := by
 unfold nPar
 rw [List.filter_cons]
 cases w <;> rfl
section
variable {l : List Evt} {e : Evt}
theorem evt_app {i : Nat} (h : i < l.length) : evt (l ++ [e]) i = evt l i := by
 unfold evt
 rw [List.getElem?_append_left h]
theorem evt_new : evt (l ++ [e]) l.length = e := by
 unfold evt
 simp
theorem sndL_app (a b : Int) : ∀ {t : Nat}, t ≤ l.length → sndL (l ++ [e]) a b t = sndL l a b t
 | 0, _ => rfl
 | t + 1, h => by
  show (if isSnd (evt (l ++ [e]) t) a b then sndL (l ++ [e]) a b t ++ [t] else sndL (l ++ [e]) a b t) = (if isSnd (evt l t) a b then sndL l a b t ++ [t] else sndL l a b t)
  rw [evt_app (by omega), sndL_app a b (by omega)]
theorem rcvN_app (a b : Int) : ∀ {t : Nat}, t ≤ l.length → rcvN (l ++ [e]) a b t = rcvN l a b t
 | 0, _ => rfl
 | t + 1, h => by
  show (if isRcv (evt (l ++ [e]) t) a b then rcvN (l ++ [e]) a b t + 1 else rcvN (l ++ [e]) a b t) = (if isRcv (evt l t) a b then rcvN l a b t + 1 else rcvN l a b t)
  rw [evt_app (by omega), rcvN_app a b (by omega)]
theorem mateF_app {i : Nat} (h : i < l.length) : mateF (l ++ [e]) i = mateF l i := by
 unfold mateF
 rw [evt_app h, sndL_app _ _ (by omega), rcvN_app _ _ (by omega)]
theorem evOk_app (n : Nat) {i : Nat} (h : i < l.length) : evOk (l ++ [e]) n i = evOk l n i := by
 unfold evOk
 rw [evt_app h, mateF_app h]
theorem allOk_app (n : Nat) : ∀ {t : Nat}, t ≤ l.length → allOk (l ++ [e]) n t = allOk l n t
 | 0, _ => rfl
 | t + 1, h => by
  show (allOk (l ++ [e]) n t && evOk (l ++ [e]) n t) = (allOk l n t && evOk l n t)
  rw [allOk_app n (by omega), evOk_app n (by omega)]
theorem sndL_new (a b : Int) : (sndL (l ++ [e]) a b (l ++ [e]).length).length = (sndL l a b l.length).length + if isSnd e a b then 1 else 0 := by
 have h : (l ++ [e]).length = l.length + 1 := by simp
 rw [h]
 show (if isSnd (evt (l ++ [e]) l.length) a b then sndL (l ++ [e]) a b l.length ++ [l.length] else sndL (l ++ [e]) a b l.length).length = _
 rw [evt_new, sndL_app a b (Nat.le_refl _)]
 split <;> simp
theorem rcvN_new (a b : Int) : rcvN (l ++ [e]) a b (l ++ [e]).length = rcvN l a b l.length + if isRcv e a b then 1 else 0 := by
 have h : (l ++ [e]).length = l.length + 1 := by simp
 rw [h]
 show (if isRcv (evt (l ++ [e]) l.length) a b then rcvN (l ++ [e]) a b l.length + 1 else rcvN (l ++ [e]) a b l.length) = _
 rw [evt_new, rcvN_app a b (Nat.le_refl _)]
 split <;> rfl
end
structure EI (s : Nt) : Prop where
 ok : ∀ i, i < s.evs.length → okEv s.n (evt s.evs i) = true ∧ (evt s.evs i).clk.length = s.n
 al : allOk s.evs s.n s.evs.length = true
 bal : ∀ a b : Nat, a < s.n → b < s.n → a ≠ b → (sndL s.evs a b s.evs.length).length = rcvN s.evs a b s.evs.length + nPar (s.ch a b)
theorem EI.init (l : List Int) : EI (initS l) := ⟨fun i h => by simp [initS] at h, rfl, fun a b _ _ _ => rfl⟩
theorem EI.same {s s' : Nt} (h : EI s) (hn : s'.n = s.n) (he : s'.evs = s.evs) (hp : ∀ a b, a < s.n → b < s.n → a ≠ b → nPar (s'.ch a b) = nPar (s.ch a b)) : EI s' := by
 refine ⟨fun i hi => ?_, ?_, fun a b ha hb hab => ?_⟩
 ·rw [he] at hi ⊢
  rw [hn]
  exact h.ok i hi
 ·rw [he, hn]; exact h.al
 ·rw [hn] at ha hb
  rw [he, hp a b ha hb hab]
  exact h.bal a b ha hb hab
theorem clkL_len (n : Nat) (c : Nat → Int) : (clkL n c).length = n := by simp [clkL]
theorem EI.tick {s : Nt} (h : EI s) {st : Nat} (hst : st < s.n) {pcs' : Nat → Int} {clk' : Nat → Nat → Int} {sh' : Nat → Nat → Rc} {what other : Nat} (x : Int) (hw : 1 ≤ what ∧ what ≤ 3) (ho : other < s.n) {ch' : Nat → Nat → List Ms}
  (hm : what = 3 → rcvN s.evs other st s.evs.length < (sndL s.evs other st s.evs.length).length)
  (hb : ∀ a b, a < s.n → b < s.n → a ≠ b → nPar (ch' a b) + (if what = 3 ∧ st = b ∧ other = a then 1 else 0) = nPar (s.ch a b) + (if what = 2 ∧ st = a ∧ other = b then 1 else 0)) :
  EI { (tickS { s with pcs := pcs', clk := clk', sh := sh' } st what other x) with ch := ch' } := by
 have hl : ∀ e : Evt, (s.evs ++ [e]).length = s.evs.length + 1 := fun e => by simp
 have key : ∀ e : Evt, e.st = st → e.what = what → e.other = other → e.clk.length = s.n → EI { (tickS { s with pcs := pcs', clk := clk', sh := sh' } st what other x) with evs := s.evs ++ [e], ch := ch' } := fun e e1 e2 e3 e4 => by
  have hok : okEv s.n e = true := okEv_iff.2 ⟨by omega, by omega, by omega, by omega, by omega, by omega⟩
  refine ⟨fun i hi => ?_, ?_, fun a b ha hb' hab => ?_⟩
  ·have hi' : i < (s.evs ++ [e]).length := hi
   show okEv s.n (evt (s.evs ++ [e]) i) = true ∧ (evt (s.evs ++ [e]) i).clk.length = s.n
   by_cases ei : i = s.evs.length
   ·subst ei
    rw [evt_new]
    exact ⟨hok, e4⟩
   ·rw [evt_app (by rw [hl] at hi'; omega)]
    exact h.ok i (by rw [hl] at hi'; omega)
  ·show allOk (s.evs ++ [e]) s.n (s.evs ++ [e]).length = true
   rw [hl]
   show (allOk (s.evs ++ [e]) s.n s.evs.length && evOk (s.evs ++ [e]) s.n s.evs.length) = true
   rw [allOk_app _ (Nat.le_refl _), h.al, Bool.true_and]
   unfold evOk mateF
   rw [evt_new, hok, Bool.true_and, sndL_app _ _ (Nat.le_refl _), rcvN_app _ _ (Nat.le_refl _), e1, e2, e3]
   by_cases hw3 : what = 3
   ·rw [List.getElem?_eq_getElem (hm hw3)]
    simp
   ·rw [decide_eq_false (by omega)]
    rfl
  ·show (sndL (s.evs ++ [e]) a b (s.evs ++ [e]).length).length = rcvN (s.evs ++ [e]) a b (s.evs ++ [e]).length + nPar (ch' a b)
   rw [sndL_new, rcvN_new]
   have h1 := h.bal a b ha hb' hab
   have h2 := hb a b ha hb' hab
   have h3 : isSnd e a b = true ↔ (what = 2 ∧ st = a ∧ other = b) := by rw [isSnd_iff, e1, e2, e3]; omega
   have h4 : isRcv e a b = true ↔ (what = 3 ∧ st = b ∧ other = a) := by rw [isRcv_iff, e1, e2, e3]; omega
   simp only [h3, h4]
   omega
 exact key _ rfl rfl rfl (clkL_len _ _)
theorem EI.work {s : Nt} (h : EI s) {a : Nat} (ha : a < s.n) (x : Int) : EI (workS s a x) := by
 have H := h.tick ha (pcs' := (workS s a x).pcs) (clk' := s.clk) (sh' := s.sh) (what := 1) (other := a) x (by omega) ha (ch' := s.ch) (fun h => by omega) (fun a b _ _ _ => by simp)
 exact ⟨H.ok, H.al, H.bal⟩
theorem EI.send {s : Nt} (h : EI s) {a b : Nat} (ha : a < s.n) (hb : b < s.n) (x : Int) : EI (sendS s a b x) := by
 refine h.tick ha (what := 2) (other := b) x (by omega) hb (ch' := upd2 s.ch a b (s.ch a b ++ [_])) (fun h => by omega) (fun i j _ _ _ => ?_)
 by_cases e : i = a ∧ j = b
 ·obtain ⟨rfl, rfl⟩ := e
  rw [upd2_self, nPar_app]
  simp [isPar]
 ·rw [upd2_ne _ _ e, if_neg (by omega), if_neg (by omega)]
theorem EI.recvDrop {s : Nt} (h : EI s) {a b : Nat} (ha : a < s.n) (hb : b < s.n) (hab : a ≠ b) {q : Int} {c : Nat → Int} {l : List Ms} (hc : s.ch a b = .par q c :: l) : EI (dropS (recvS s a b q c) a b l) := by
 have hbal := h.bal a b ha hb hab
 rw [hc, nPar_cons] at hbal
 simp [isPar] at hbal
 refine h.tick hb (what := 3) (other := a) q (by omega) ha (ch' := upd2 s.ch a b l) (fun _ => by omega) (fun i j _ _ _ => ?_)
 by_cases e : i = a ∧ j = b
 ·obtain ⟨rfl, rfl⟩ := e
  rw [upd2_self, hc, nPar_cons]
  simp [isPar]
 ·rw [upd2_ne _ _ e, if_neg (by omega), if_neg (by omega)]
theorem EI.record {s : Nt} (h : EI s) (no at_ : Nat) : EI (recordS s no at_) := by
 obtain ⟨e1, e2, e3, _⟩ := recordS_n s no at_
 refine h.same e1 e3 (fun a b _ _ _ => ?_)
 rw [recordS_ch]
 split
 ·rw [nPar_app]; rfl
 ·rfl
theorem EI.heedDrop {s : Nt} (h : EI s) {a b no : Nat} (hab : a ≠ b) {l : List Ms} (hc : s.ch a b = .mark no :: l) : EI (dropS (heedS s a b no) a b l) := by
 have hH : EI (heed1 s b no) := by
  unfold heed1
  split
  ·exact h
  ·exact h.record no b
 refine hH.same rfl rfl (fun x y _ _ _ => ?_)
 show nPar (upd2 (heed1 s b no).ch a b l x y) = _
 by_cases e : x = a ∧ y = b
 ·obtain ⟨rfl, rfl⟩ := e
  rw [upd2_self, heed1_ch s no hab, hc, nPar_cons]
  rfl
 ·rw [upd2_ne _ _ e]
theorem EI.rcv {s : Nt} (h : EI s) (a b : Int) : EI (rcvS s a b) := by
 unfold rcvS
 split
 ·exact h
 ·rename_i e
  obtain ⟨A, B, rfl, rfl, h1, h2, h3⟩ := chkF_0 (n := s.n) (a := a) (b := b) (by omega)
  rw [Int.toNat_natCast, Int.toNat_natCast]
  unfold recvN
  cases hc : s.ch A B with
  | nil => exact h
  | cons w l =>
   cases w with
   | par q c =>
    show EI (if 400 ≤ s.evs.length then ((8 : Int), s) else (0, dropS (recvS s A B q c) A B l)).2
    split
    ·exact h
    ·exact h.recvDrop h1 h2 h3 hc
   | mark no => exact h.heedDrop h3 hc
theorem EI.act {s : Nt} (h : EI s) (a : ActD) : EI (actN s a) := by
 unfold actN
 split
 ·unfold workN
  split
  ·rename_i e
   obtain ⟨A, e1, h1, _⟩ := workE_0 e
   rw [e1, Int.toNat_natCast]
   exact h.work h1 _
  ·exact h
 ·split
  ·unfold sendN
   split
   ·rename_i e
    obtain ⟨A, B, e1, e2, h1, h2, _⟩ := sendE_0 e
    rw [e1, e2, Int.toNat_natCast, Int.toNat_natCast]
    exact h.send h1 h2 _
   ·exact h
  ·split
   ·unfold startN
    split
    ·exact (EI.same h (s' := newS s) rfl rfl (fun _ _ _ _ _ => rfl)).record _ _
    ·exact h
   ·exact h.rcv _ _
theorem EI.acts {s : Nt} (h : EI s) : ∀ l : List ActD, EI (actsN s l) := by
 intro l
 induction l generalizing s with
 | nil => exact h
 | cons a l ih => exact ih (h.act a)
end Go.AM
namespace Go.AM
open Go Go.Proofs
section
variable (l : List Evt)
variable {l}
end
theorem nth_clkL {n : Nat} {c : Nat → Int} {i : Nat} (h : i < n) : nth (clkL n c) i = c i := by
 unfold nth clkL
 rw [List.getElem?_map, List.getElem?_range h]
 rfl
end Go.AM
namespace Go.AM
open Go Go.Proofs
def parP : List Ms → List Int
 | [] => []
 | .par q _ :: L => q :: parP L
 | .mark _ :: L => parP L
theorem parP_app : ∀ (L K : List Ms), parP (L ++ K) = parP L ++ parP K
 | [], _ => rfl
 | .par q c :: L, K => by show q :: parP (L ++ K) = _; rw [parP_app L K]; rfl
 | .mark _ :: L, K => parP_app L K
theorem parP_mark (L : List Ms) (no : Nat) : parP (L ++ [.mark no]) = parP L := by
 rw [parP_app]
 show parP L ++ [] = _
 rw [List.append_nil]
end Go.AM
namespace Go.AM
open Go Go.Proofs
def sumI (f : Nat → Int) : Nat → Int
 | 0 => 0
 | n + 1 => sumI f n + f n
def sumL : List Int → Int
 | [] => 0
 | x :: L => x + sumL L
theorem sumL_app : ∀ (L K : List Int), sumL (L ++ K) = sumL L + sumL K
 | [], K => by show sumL K = 0 + sumL K; omega
 | x :: L, K => by
  show x + sumL (L ++ K) = x + sumL L + sumL K
  rw [sumL_app L K]; omega
def totN (s : Nt) : Int := sumI (fun a => s.pcs a + sumI (fun b => sumL (parP (s.ch a b))) s.n) s.n
end Go.AM
namespace Go.AM
open Go Go.Proofs
theorem s86 : slk 86 1 = true := by kernel_rfl
theorem s84 : slk 84 1 = true := by kernel_rfl
theorem i84 : isSl 84 = true := by kernel_rfl
theorem a86 : agg1 86 = true := by kernel_rfl
theorem p84 : appOk 84 1 = true := by kernel_rfl
theorem mk86 (m : M) (n : Nat) (h : n ≤ 100) : xmakeSlice E.P m 86 (vi n) (vi n) = some (sl m.length n, m ++ [rowz 1 true (repCells [.bool false] n)]) := by
 have e : xmakeSlice E.P m 86 (vi n) (vi n) = if ((n : Int) < 0 ∨ (n : Int) < n ∨ (n : Int) > 2 ^ 39 ∨ 1 > 2 ^ 8) then none else
  xlen m fun k => fNat n fun l => fNat n fun c => fList (repCells [.bool false] c) fun cs => xpush m (rowz 1 true cs) fun m' => some (.slice (some ⟨k, 0, none⟩) l c, m') := by kernel_rfl
 rw [e, if_neg (by omega), xlen_eq, fNat_eq, fNat_eq, fNat_eq, fList_eq, xpush_eq, fList_eq]
section
variable {own own' : Nat → Nat} {t : Nat} {m m' : M} {r n : Nat} {f g : Nat → Bool}
end
section
variable {l : List Evt} {v : Value} {own : Nat → Nat} {r : Nat}
end
end Go.AM
namespace Go.AM
open Go Go.Proofs
theorem wr_mod (x : Int) : ∃ k : Int, wr x = x + 18446744073709551616 * k := by
 unfold wr IntKind.wrap
 simp [IntKind.bits, IntKind.signed]
 have h := Int.emod_add_mul_ediv (x + 9223372036854775808) 18446744073709551616
 exact ⟨-((x + 9223372036854775808) / 18446744073709551616), by omega⟩
theorem wr_eq {x y k : Int} (h : x = y + 18446744073709551616 * k) : wr x = wr y := by
 unfold wr IntKind.wrap
 simp [IntKind.bits, IntKind.signed]
 omega
theorem wr_addl (x y : Int) : wr (wr x + y) = wr (x + y) := by
 obtain ⟨k, hk⟩ := wr_mod x
 exact wr_eq (k := k) (by omega)
theorem wr_addr (x y : Int) : wr (x + wr y) = wr (x + y) := by
 obtain ⟨k, hk⟩ := wr_mod y
 exact wr_eq (k := k) (by omega)
theorem wr0 : (.int .i64 0 : Value) = vi (wr 0) := by rw [wr_id (by omega) (by omega)]; rfl
section
variable {own : Nat → Nat} {m : M}
theorem loop104 (call : CallF) (fuel base : Nat) (kx : Value → M → Res2) {t : Nat} {v : Value} {L : List Ms} (hb : base ≤ m.length) (hl : L.length ≤ 100000) :
  ∀ (n i : Nat) (m' : M), (∃ x, m' = m ++ x) → Lst own t 1 m v L.length (msL L) → i ≤ L.length → L.length + 1 ≤ n + i → ∃ m'', r104_L0 call fuel base kx n (vi (wr (sumL (parP (L.take i))))) v (vi L.length) (vi i) m' = kx (vi (wr (sumL (parP L)))) m''
 | 0, i, m', hx, hv, hi, hn => by omega
 | n + 1, i, m', hx, hv, hi, hn => by
  rw [r104_L0_s, lssN, k1s]
  by_cases h : i < L.length
  ·obtain ⟨x, rfl⟩ := hx
   have hvx := hv.push x
   obtain ⟨pp, off, e, _, _, hc⟩ := hvx.ix s103 h
   have hd : msAt L i = L[i] := by unfold msAt; simp [h]
   have hc1 := hc.cell
   rw [hd] at hc1
   have htk : L.take (i + 1) = L.take i ++ [L[i]] := List.take_succ_eq_append_getElem h
   have hst : ∀ q c, xstore E.P base (m ++ x ++ [cellR (stC 0 fun _ => 0)]) 117 (pt (m ++ x).length 0) (parV q c) = some (m ++ x ++ [cellR (stC q c)]) := fun q c => by
    have := gstk (t := 117) (k := 6) z117 (l := stC q c) rfl rfl (off := 0) (base := base) (p := (m ++ x).length) (by simp; omega) (Hd_new (m ++ x) 0 true (stC 0 fun _ => 0)) (by simp [stC])
    rw [mwr_new (m ++ x) 0 true (stC 0 fun _ => 0) (stC q c) rfl] at this
    exact this
   rw [decide_eq_true h, kbt, e, k1s, gld1 a106, hc1, k1s]
   cases hL : L[i] with
   | par q c =>
    obtain ⟨m'', g⟩ := loop104 call fuel base kx hb hl n (i + 1) (m ++ x ++ [cellR (stC q c)]) ⟨x ++ [cellR (stC q c)], by simp⟩ hv (by omega) (by omega)
    refine ⟨m'', ?_⟩
    have hpar : sumL (parP (L.take (i + 1))) = sumL (parP (L.take i)) + q := by
     rw [htk, hL, parP_app, sumL_app]
     show _ + (q + 0) = _
     omega
    rw [hpar] at g
    rw [ta1, k1s, ext0, k1s, ext1, k1s, al117, k2s, hst, kss, kbt, gfd f117_0, k1s, gld1 a3, (Cs_new (m ++ x) 0 true (stC q c)).at 0 rfl, k1s, addI, k1s, wr_addl, add1 3 _ (by omega), k1s]
    exact g
   | mark no =>
    obtain ⟨m'', g⟩ := loop104 call fuel base kx hb hl n (i + 1) (m ++ x ++ [cellR (stC 0 fun _ => 0)]) ⟨x ++ [cellR (stC 0 fun _ => 0)], by simp⟩ hv (by omega) (by omega)
    refine ⟨m'', ?_⟩
    rw [htk, hL, parP_mark] at g
    rw [ta2, k1s, ext0, k1s, ext1, k1s, al117, k2s, hst, kss, kbf, add1 3 _ (by omega), k1s]
    exact g
  ·obtain rfl : i = L.length := by omega
   refine ⟨m', ?_⟩
   rw [decide_eq_false h, kbf, List.take_length]
theorem t104 (k base : Nat) {t : Nat} {v : Value} {L : List Ms} (hv : Lst own t 1 m v L.length (msL L)) (hl : L.length < k) (hl2 : L.length ≤ 100000) : rt (k + 1) base 104 [v] m = some (.ret (vi (wr (sumL (parP L)))), m) := by
 obtain ⟨m'', g⟩ := loop104 (base := m.length) (rt k) k (fun w14 m => some (.ret w14, m)) (Nat.le_refl _) hl2 k 0 m ⟨[], by simp⟩ hv (by omega) (by omega)
 refine rt_pure (f := 104) (rf := rf104) (by kernel_rfl) (by kernel_rfl) (by kernel_rfl) k base _ m m'' _ ?_ rfl
 show r104 (rt k) k m.length v m = _
 unfold r104
 rw [vcall_fun, fVal_fun, hv.len i103, k2s, wr0]
 exact g
end
end Go.AM
namespace Go.AM
open Go Go.Proofs
section
variable {own : Nat → Nat} {k : Nat} {m : M} {p : Nat} {d : NP} {s : Nt}
theorem loop76b (z base : Nat) (kp : Value → M → Res2) (kx : Value → Value → Value → Value → Value → M → Res2) (x0 x11 x12 x13 : Value) (h : Net own k m p d s) (hcl : ∀ a b, (s.ch a b).length ≤ 1000) {a : Nat} (ha : a < s.n) (A : Int) :
  ∀ (w b : Nat), b ≤ s.n → s.n + 1 ≤ w + b → r76_L2 (rt (z + 1001 + 1)) (z + 1001 + 1) base kp kx w x0 (vi (wr (A + sumI (fun b => sumL (parP (s.ch a b))) b))) x11 x12 x13 (sl (d.ri a) s.n) (vi s.n) (vi b) m = kx x0 (vi (wr (A + sumI (fun b => sumL (parP (s.ch a b))) s.n))) x11 x12 x13 m
 | 0, b, hb, hw => by omega
 | w + 1, b, hb, hw => by
  have n5 := h.n5
  rw [r76_L2_s, lssN, k1s]
  by_cases hlt : b < s.n
  ·rw [decide_eq_true hlt, kbt, gix s104 (d.ri a) 0 s.n s.n b hlt, k1s, gld1 a103, Nat.zero_add, Nat.mul_one, h.C.icell a b ha hlt, k1s, t104 (z + 1001) base (h.C.vec a b ha hlt).lst (by have := hcl a b; omega) (by have := hcl a b; omega), kcs, addI, k1s, add1 3 _ (by omega), k1s]
   have ih := loop76b z base kp kx x0 x11 x12 x13 h hcl ha A w (b + 1) (by omega) (by omega)
   have e : A + sumI (fun b => sumL (parP (s.ch a b))) (b + 1) = A + sumI (fun b => sumL (parP (s.ch a b))) b + sumL (parP (s.ch a b)) := by
    show A + (sumI (fun b => sumL (parP (s.ch a b))) b + sumL (parP (s.ch a b))) = _
    omega
   rw [wr_addl, wr_addr, ← e]
   exact ih
  ·obtain rfl : b = s.n := by omega
   rw [decide_eq_false hlt, kbf]
theorem loop76a (z base : Nat) (kp kx : Value → M → Res2) (hcl : ∀ a b, (s.ch a b).length ≤ 1000) :
  ∀ (w a : Nat) (m : M), base ≤ m.length → Net own k m p d s → a ≤ s.n → s.n + 1 ≤ w + a → ∃ m', r76_L0 (rt (z + 1001 + 1)) (z + 1001 + 1) base kp kx w (pt p 0) (vi (wr (sumI (fun a => s.pcs a + sumI (fun b => sumL (parP (s.ch a b))) s.n) a))) (sl d.rs s.n) (vi s.n) (vi a) m = kx (vi (wr (totN s))) m'
 | 0, a, m, hbm, h, ha, hw => by omega
 | w + 1, a, m, hbm, h, ha, hw => by
  have n5 := h.n5
  rw [r76_L0_s, lssN, k1s]
  by_cases hlt : a < s.n
  ·have hcs := h.S.cs a hlt
   let m1 : M := m ++ [cellR (stC (s.pcs a) (s.clk a))]
   have h1 : Net own k m1 p d s := h.step (Step.push0 (fun _ => False) own m [cellR (stC (s.pcs a) (s.clk a))]) (fun _ h => h.elim)
   have hst : xstore E.P base (m ++ [cellR (stC 0 fun _ => 0)]) 114 (pt m.length 0) (parV (s.pcs a) (s.clk a)) = some m1 := by
    have := gstk (t := 114) (k := 6) z114 (l := stC (s.pcs a) (s.clk a)) rfl rfl (off := 0) hbm (Hd_new m 0 true (stC 0 fun _ => 0)) (by simp [stC])
    rw [mwr_new m 0 true (stC 0 fun _ => 0) (stC (s.pcs a) (s.clk a)) rfl] at this
    exact this
   have e : sumI (fun a => s.pcs a + sumI (fun b => sumL (parP (s.ch a b))) s.n) (a + 1) = sumI (fun a => s.pcs a + sumI (fun b => sumL (parP (s.ch a b))) s.n) a + s.pcs a + sumI (fun b => sumL (parP (s.ch a b))) s.n := by
    show sumI (fun a => s.pcs a + sumI (fun b => sumL (parP (s.ch a b))) s.n) a + (s.pcs a + sumI (fun b => sumL (parP (s.ch a b))) s.n) = _
    omega
   have hb := loop76b z base kp (fun w24 w25 w26 w27 w28 m => (k1n (mbin E .add 3 w28 (.int .i64 1)) fun u29 => (r76_L0 (rt (z + 1001 + 1)) (z + 1001 + 1) base kp kx w w24 w25 w26 w27 u29 m))) (pt p 0) (sl d.rs s.n) (vi s.n) (vi a) h1 hcl hlt (sumI (fun a => s.pcs a + sumI (fun b => sumL (parP (s.ch a b))) s.n) a + s.pcs a) (z + 1001 + 1) 0 (by omega) (by omega)
   obtain ⟨m', g⟩ := loop76a z base kp kx hcl w (a + 1) m1 (by simp [m1]; omega) h1 (by omega) (by omega)
   refine ⟨m', ?_⟩
   rw [e] at g
   rw [decide_eq_true hlt, kbt, gix s53 d.rs 0 s.n s.n a hlt, k1s, Nat.zero_add, mread_agg6 hcs, k1s, al114, k2s, hst, kss, gfd f114_0, k1s, gld1 a3, (Cs_new m 0 true (stC (s.pcs a) (s.clk a))).at 0 rfl, k1s, addI, k1s, wr_addl, mnil_pt, k1s, h1.H.chs, gix s54 d.rc 0 s.n s.n a hlt, k1s, Nat.zero_add, Nat.mul_one, gld1 a104, h1.C.cell a hlt, k1s, glen i104, k2s, i0]
   have h0 : sumI (fun b => sumL (parP (s.ch a b))) 0 = 0 := rfl
   rw [h0, Int.add_zero] at hb
   refine Eq.trans hb ?_
   rw [add1 3 _ (by omega), k1s]
   exact g
  ·obtain rfl : a = s.n := by omega
   refine ⟨m, ?_⟩
   rw [decide_eq_false hlt, kbf]
   rfl
theorem t28 (z base : Nat) (h : Net own k m p d s) (hcl : ∀ a b, (s.ch a b).length ≤ 1000) : rt (z + 1001 + 3) base 28 [pt p 0] m = some (.ret (vi (wr (totN s))), m) := by
 refine rt_pure (f := 28) (rf := rf28) (by kernel_rfl) (by kernel_rfl) (by kernel_rfl) (z + 1001 + 2) base _ m m _ ?_ rfl
 show r28 (rt (z + 1001 + 2)) (z + 1001 + 2) m.length (pt p 0) m = _
 have h76 : rt (z + 1001 + 2) m.length 76 [pt p 0] m = some (.ret (vi (wr (totN s))), m) := by
  obtain ⟨m', g⟩ := loop76a z m.length (fun v m => some (.pan v, m)) (fun w30 m => some (.ret w30, m)) hcl (z + 1001 + 1) 0 m (Nat.le_refl _) h (by omega) (by have := h.n5; omega)
  refine rt_pure (f := 76) (rf := rf76) (by kernel_rfl) (by kernel_rfl) (by kernel_rfl) (z + 1001 + 1) base _ m m' _ ?_ rfl
  show r76 (rt (z + 1001 + 1)) (z + 1001 + 1) m.length (pt p 0) m = _
  unfold r76
  have h0 : sumI (fun a => s.pcs a + sumI (fun b => sumL (parP (s.ch a b))) s.n) 0 = 0 := rfl
  rw [h0, ← wr0] at g
  rw [k1_fun, vcall_fun, fVal_fun, mnil_pt, k1s, h.H.sts, glen i53, k2s]
  exact g
 unfold r28
 rw [fVal_fun, t68 (z + 1001 + 1) _ h.H h.n2, kcs, kbf, h76, kcs]
end
section
variable {own : Nat → Nat} {l : List Evt} {v : Value}
end
end Go.AM
namespace Go.AM
open Go Go.Proofs
theorem a60 : agg1 60 = true := by kernel_rfl
theorem a80 : agg1 80 = true := by kernel_rfl
theorem z60 : szk 60 1 = true := by kernel_rfl
theorem z62 : szk 62 2 = true := by kernel_rfl
theorem g62 : aggk 62 2 = true := by kernel_rfl
theorem s80 : slk 80 1 = true := by kernel_rfl
theorem s60 : slk 60 1 = true := by kernel_rfl
theorem i80 : isSl 80 = true := by kernel_rfl
theorem i60 : isSl 60 = true := by kernel_rfl
theorem p60 : appOk 60 1 = true := by kernel_rfl
theorem f62_0 : fdk 62 0 0 = true := by kernel_rfl
theorem f62_1 : fdk 62 1 1 = true := by kernel_rfl
theorem al62 (m : M) : xalloc E.P m 62 = some (pt m.length 0, m ++ [cellR [nilS, nilS]]) := by
 have e : xalloc E.P m 62 = xlen m fun n => xpush m (cellR [nilS, nilS]) fun m' => some (pt n 0, m') := by kernel_rfl
 rw [e, xlen_eq, fNat_eq, xpush_eq, fList_eq]
theorem gb60 (m : M) (a l c : Nat) : xbuildSlice E.P m 60 1 [(0, slo a 0 l c)] = some (sl m.length 1, m ++ [rowz 1 true [slo a 0 l c]]) := by
 have e : xbuildSlice E.P m 60 1 [(0, slo a 0 l c)] = xlen m fun n => xpush m (rowz 1 true [slo a 0 l c]) fun m' => some (sl n 1, m') := by kernel_rfl
 rw [e, xlen_eq, fNat_eq, xpush_eq, fList_eq]
theorem mk80 (m : M) (n : Nat) (h : n ≤ 100) : xmakeSlice E.P m 80 (vi n) (vi n) = some (sl m.length n, m ++ [rowz 1 true (repCells [nilS] n)]) := by
 have e : xmakeSlice E.P m 80 (vi n) (vi n) = if ((n : Int) < 0 ∨ (n : Int) < n ∨ (n : Int) > 2 ^ 39 ∨ 24 > 2 ^ 8) then none else
  xlen m fun k => fNat n fun l => fNat n fun c => fList (repCells [nilS] c) fun cs => xpush m (rowz 1 true cs) fun m' => some (.slice (some ⟨k, 0, none⟩) l c, m') := by kernel_rfl
 rw [e, if_neg (by omega), xlen_eq, fNat_eq, fNat_eq, fNat_eq, fList_eq, xpush_eq, fList_eq]
theorem bl62 : mbuild E.P 62 [] = some (.agg #[nilS, nilS]) := by kernel_rfl
theorem rcC_h (r : Rc) (h : Nat → Value) {i : Nat} (hi : i < 5) : (rcC r h)[8 + i]? = some (h i) := by
 match i, hi with
 | 0, _ | 1, _ | 2, _ | 3, _ | 4, _ => rfl
section
variable {own : Nat → Nat} {k : Nat} {m : M} {p : Nat} {d : NP} {s : Nt} {base : Nat}
theorem cloneV (q : Nat) {t : Nat} {u : Value} {l : List Int} (hO : Own base own) (h : Vec own t 1 m u l.length fun j => [vi (nth l j)]) (hl : l.length ≤ 1000) (hb : base ≤ m.length) :
  ∃ own' m' a c, rt (q + 1) base 74 [u] m = some (.ret (.slice a l.length c), m') ∧ Nums own' 0 m' (.slice a l.length c) l ∧ (∀ T, Step T own m own' m') ∧ Own base own' := by
 by_cases h0 : l = []
 ·subst h0
  rcases h with ⟨_, rfl⟩ | ⟨r, off, ex, N, rfl, h1, h2, h3, h4, h5⟩
  ·exact ⟨own, m, none, 0, t74n q base m, ⟨_, _, rfl, fun h => by simp at h⟩, fun T => Step.refl _ _ _, hO⟩
  ·refine ⟨upd own m.length 0, m ++ [rowz 1 true []], some ⟨m.length, 0, none⟩, 0, ?_, ⟨_, _, rfl, fun h => by simp at h⟩, fun T => Step.push _ _ _ _ _, hO.upd hb 0⟩
   rw [rt_imp (f := 74) (rf := rf74) (by kernel_rfl) (by kernel_rfl) (by kernel_rfl)]
   show r74 (rt q) q base (slo r off 0 0) m = _
   have happ := clone_app (C := fun j => [vi (nth ([] : List Int) j)]) (by omega) base hb (.inr ⟨r, off, ex, N, rfl, h1, h2, h3, h4, h5⟩ : Vec own t 1 m (slo r off 0 0) 0 _) (fun i hi => by omega) (by omega)
   rcases happ with ⟨_, happ⟩ | ⟨hh, _⟩
   ·unfold r74
    rw [k1_fun, vcall_fun, fVal_fun, nil22, k1s, kbf, gb22e, k2s, vapp p22, happ, k2s]
    rfl
   ·omega
 ·obtain ⟨own', m', e, hN, hS, ht, ho, h0', hm', _⟩ := clone22 (base := base) q h.lst h0 hl hb 0
  refine ⟨own', m', _, _, e, hN, hS, fun r hr => ?_⟩
  by_cases e1 : r = m.length
  ·subst e1; exact hb
  ·by_cases e2 : r = m.length + 1
   ·omega
   ·rw [ho r e1 e2] at hr
    exact hO r hr
structure RowU (own : Nat → Nat) (tg : Nat) (m : M) (r n j : Nat) (H : Nat → List Int) : Prop where
 hd : Hd m r 1 true n
 tg : own r = tg
 cell : ∀ t, t < j → ∃ w, mcell m r t = some w ∧ Nums own 0 m w (H t)
theorem RowU.step {own' : Nat → Nat} {m' : M} {T : Nat → Prop} {tg r n j : Nat} {H : Nat → List Int} (h : RowU own tg m r n j H) (st : Step T own m own' m') (ht : ¬ T tg) (h0 : ¬ T 0) : RowU own' tg m' r n j H :=
 ⟨st.hd h.hd (by rw [h.tg]; exact ht), (st.tg r h.hd.lt).trans h.tg, fun t hj => by
  obtain ⟨w, h1, h2⟩ := h.cell t hj
  exact ⟨w, st.cell h1 (by rw [h.tg]; exact ht), Lst.step h2 st h0⟩⟩
theorem loop81b (z : Nat) (kp : Value → M → Res2) (kx : Value → Value → Value → Value → Value → Value → Value → M → Res2) (x2 x3 x8 : Value) {si i r : Nat} (hsi : si < s.ns) (hi : i < s.n) (hbr : base ≤ r) (hlen : ∀ i t f, ((s.sh i t).hrd f).length ≤ 1000) :
  ∀ (w t : Nat) (own : Nat → Nat) (m : M), t ≤ s.n → s.n + 1 ≤ w + t → Own base own → base ≤ m.length → Net own k m p d s → RowU own (302 + i) m r s.n t (fun t => (s.sh si t).hrd i) →
   ∃ own' m', r81_L2 (rt (z + 1)) (z + 1) base kp kx w (sl (d.rr si) s.n) x2 x3 (vi i) (sl r s.n) x8 (vi i) (vi s.n) (vi t) m = kx (sl (d.rr si) s.n) x2 x3 (vi i) (sl r s.n) x8 (vi i) m' ∧ Own base own' ∧ Step (· = 302 + i) own m own' m' ∧ RowU own' (302 + i) m' r s.n s.n (fun t => (s.sh si t).hrd i)
 | 0, t, own, m, ht, hw, hO, hbm, h, hR => by omega
 | w + 1, t, own, m, ht, hw, hO, hbm, h, hR => by
  have n5 := h.n5
  have n8 := h.ns8
  have k0 := h.k0
  rw [r81_L2_s, lssN, k1s]
  by_cases hlt : t < s.n
  ·have hcell := (h.N.cs si t hsi hlt).at (8 + i) (rcC_h _ _ (by omega))
   obtain ⟨own1, m1, a, c, e, hN, hS, hO1⟩ := cloneV (base := base) z hO (h.N.hvec si t i hsi hlt (by omega)) (hlen si t i) hbm
   have s1 := hS (fun _ => False)
   have hR1 := hR.step s1 (fun h => h) (fun h => h)
   let m2 : M := mwr m1 r t [.slice a ((s.sh si t).hrd i).length c]
   have s2 : Step (· = 302 + i) own1 m1 own1 m2 := Step.wr (T := (· = 302 + i)) hR1.tg _ _
   have hst : xstore E.P base m1 22 (pt r t) (.slice a ((s.sh si t).hrd i).length c) = some m2 := gstS z22 hbr hR1.hd hlt _ _ _
   have s12 : Step (· = 302 + i) own m own1 m2 := (hS _).trans s2
   have hR2 : RowU own1 (302 + i) m2 r s.n (t + 1) (fun t => (s.sh si t).hrd i) := by
    refine ⟨mwr_hd hR1.hd, hR1.tg, fun q hq => ?_⟩
    by_cases eq : q = t
    ·subst eq
     exact ⟨_, (mwr_in (vs := [.slice a ((s.sh si q).hrd i).length c]) hR1.hd (by simp; omega)).cell, Lst.step hN s2 (by omega)⟩
    ·obtain ⟨w', q1, q2⟩ := hR1.cell q (by omega)
     exact ⟨w', by rw [mwr_out (by simp; omega)]; exact q1, Lst.step q2 s2 (by omega)⟩
   obtain ⟨own', m', g1, g2, g3, g4⟩ := loop81b z kp kx x2 x3 x8 hsi hi hbr hlen w (t + 1) own1 m2 (by omega) (by omega) hO1 (Nat.le_trans hbm s12.len) (h.step s12 (fun t ht => by omega)) hR2
   refine ⟨own', m', ?_, g2, s12.trans g3, g4⟩
   rw [decide_eq_true hlt, kbt, gix s125 (d.rr si) 0 s.n s.n t hlt, k1s, gfd f147_4, k1s, giA r145 _ _ i (by omega), k1s, gld1 a22, show 0 + t * 13 + 8 + i * 1 = t * 13 + (8 + i) by omega, hcell, k1s, e, kcs, gix s80 r 0 s.n s.n t hlt, k1s, show 0 + t * 1 = t by omega, hst, kss, add1 3 _ (by omega), k1s]
   exact g1
  ·obtain rfl : t = s.n := by omega
   refine ⟨own, m, ?_, hO, Step.refl _ _ _, hR⟩
   rw [decide_eq_false hlt, kbf]
structure ShotB (own : Nat → Nat) (m : M) (b3 : Nat) (P U : Value) (n j : Nat) (R : Nat → Nat) (pc : Nat → Int) (hr : Nat → Nat → List Int) : Prop where
 hd : Hd m b3 0 true 2
 tg : own b3 = 310
 c0 : mcell m b3 0 = some P
 c1 : mcell m b3 1 = some U
 vp : Vec own 300 1 m P j fun i => [vi (pc i)]
 vu : Vec own 301 1 m U j fun i => [sl (R i) n]
 rows : ∀ i, i < j → RowU own (302 + i) m (R i) n n (hr i)
theorem Vec.isSlo {t z n : Nat} {v : Value} {C : Nat → List Value} (h : Vec own t z m v n C) : ∃ a l c, v = .slice a l c := by
 rcases h with ⟨_, rfl⟩ | ⟨r, off, ex, N, rfl, _⟩
 ·exact ⟨_, _, _, rfl⟩
 ·exact ⟨_, _, _, rfl⟩
theorem loop81a (z : Nat) (kp : Value → M → Res2) (kx : Value → Value → M → Res2) (x2 : Value) {si b3 : Nat} (hsi : si < s.ns) (hb3 : base ≤ b3) (hlen : ∀ i t f, ((s.sh i t).hrd f).length ≤ 1000) :
  ∀ (w i : Nat) (own : Nat → Nat) (m : M) (P U : Value) (R : Nat → Nat), i ≤ s.n → s.n + 1 ≤ w + i → Own base own → base ≤ m.length → Net own k m p d s → ShotB own m b3 P U s.n i R (fun t => (s.sh si t).pcs) (fun a t => (s.sh si t).hrd a) →
   ∃ own' m' P' U' R', r81_L0 (rt (z + 10)) (z + 10) base kp kx w (sl (d.rr si) s.n) x2 (pt b3 0) (vi s.n) (vi i) m = kx x2 (pt b3 0) m' ∧ Own base own' ∧ Step (fun t => 300 ≤ t ∧ t < 320) own m own' m' ∧ ShotB own' m' b3 P' U' s.n s.n R' (fun t => (s.sh si t).pcs) (fun a t => (s.sh si t).hrd a)
 | 0, i, own, m, P, U, R, hi, hw, hO, hbm, h, hB => by omega
 | w + 1, i, own, m, P, U, R, hi, hw, hO, hbm, h, hB => by
  have n5 := h.n5
  have n8 := h.ns8
  have k0 := h.k0
  rw [r81_L0_s, lssN, k1s]
  by_cases hlt : i < s.n
  ·-- the row
   let m1 : M := m ++ [rowz 1 true (List.replicate s.n nilS)]
   let own1 := upd own m.length (302 + i)
   have s1 : ∀ T : Nat → Prop, Step T own m own1 m1 := fun T => Step.push T _ _ _ _
   have hm1 : m1.length = m.length + 1 := by simp [m1]
   have hO1 : Own base own1 := hO.upd hbm _
   have hd1 : Hd m1 m.length 1 true s.n := by
    have := Hd_new m 1 true (List.replicate s.n nilS)
    rw [List.length_replicate] at this
    exact this
   have h1 : Net own1 k m1 p d s := h.step (s1 fun _ => False) (fun _ h => h.elim)
   obtain ⟨own2, m2, g1, hO2, s2, hR2⟩ := loop81b (base := base) (z + 9) (fun v m => kp v m) (fun w16 w17 w18 w19 w20 w21 w22 m => (k1n (mfieldAddr E.P 62 w18 0) fun u23 => (k1n (xload E.P m 22 u23) fun u24 => (k1n (mindexAddr E.P 125 w16 w19) fun u25 => (k1n (mfieldAddr E.P 147 u25 1) fun u26 => (k1n (xload E.P m 3 u26) fun u27 => (k2 (xbuildSlice E.P m 22 1 [(0, u27)]) fun u28 m => (k2 (vcalln E.P base m .append [22, 22] [u24, u28]) fun u29 m => (k1n (mfieldAddr E.P 62 w18 0) fun u30 => (ks (xstore E.P base m 22 u30 u29) fun m => (k1n (mfieldAddr E.P 62 w18 1) fun u31 => (k1n (xload E.P m 60 u31) fun u32 => (k2 (xbuildSlice E.P m 60 1 [(0, w20)]) fun u33 m => (k2 (vcalln E.P base m .append [60, 60] [u32, u33]) fun u34 m => (k1n (mfieldAddr E.P 62 w18 1) fun u35 => (ks (xstore E.P base m 60 u35 u34) fun m => (k1n (mbin E .add 3 w22 (.int .i64 1)) fun u36 => (r81_L0 (rt (z + 10)) (z + 10) base kp kx w w16 w17 w18 w21 u36 m)))))))))))))))))) x2 (pt b3 0) (vi s.n) hsi hlt hbm hlen (z + 10) 0 own1 m1 (by omega) (by omega) hO1 (by omega) h1 ⟨hd1, upd_self _ _ _, fun t ht => by omega⟩
   have s12 : Step (· = 302 + i) own m own2 m2 := (s1 _).trans s2
   have h2 : Net own2 k m2 p d s := h.step s12 (fun t ht => by omega)
   have hm2 : m1.length ≤ m2.length := s2.len
   have tg2 : own2 b3 = 310 := (s12.tg b3 hB.hd.lt).trans hB.tg
   have hd2 : Hd m2 b3 0 true 2 := s12.hd hB.hd (by rw [hB.tg]; omega)
   have c02 : mcell m2 b3 0 = some P := s12.cell hB.c0 (by rw [hB.tg]; omega)
   have c12 : mcell m2 b3 1 = some U := s12.cell hB.c1 (by rw [hB.tg]; omega)
   have hpcs := (h2.N.cs si i hsi hlt).at 1 rfl
   let m3 : M := m2 ++ [rowz 1 true [vi (s.sh si i).pcs]]
   let own3 := upd own2 m2.length 0
   have s3 : ∀ T : Nat → Prop, Step T own2 m2 own3 m3 := fun T => Step.push T _ _ _ _
   have hO3 : Own base own3 := hO2.upd (by omega) 0
   have hm3 : m3.length = m2.length + 1 := by simp [m3]
   obtain ⟨m4, p1, p2, s4, hm4⟩ := ((hB.vp.step s12 (by omega)).step (s3 fun _ => False) (fun h => h)).add hO3 (by omega) (by omega) (src1 (m := m2) (z := 1) (c := [vi (s.sh si i).pcs]) rfl (by omega)) rfl rfl (by omega)
   let own4 := upd own3 m3.length 300
   have hO4 : Own base own4 := hO3.upd (by omega) 300
   have hvp4 := p2 (fun t => [vi (s.sh si t).pcs]) (fun _ _ => rfl) rfl
   have s34 : Step (· = 300) own2 m2 own4 m4 := (s3 _).trans s4
   have tg4 : own4 b3 = 310 := (s34.tg b3 hd2.lt).trans tg2
   have hd4 : Hd m4 b3 0 true 2 := s34.hd hd2 (by rw [tg2]; omega)
   let m5 : M := mwr m4 b3 0 [sl m3.length (i + 1)]
   have s5 : Step (· = 310) own4 m4 own4 m5 := Step.wr tg4 _ _
   have hst5 : xstore E.P base m4 22 (pt b3 0) (sl m3.length (i + 1)) = some m5 := gstS z22 hb3 hd4 (by omega) _ _ _
   have hm5 : m5.length = m4.length := mwr_len _ _ _ _
   have c05 : mcell m5 b3 0 = some (sl m3.length (i + 1)) := (mwr_in (vs := [sl m3.length (i + 1)]) hd4 (by simp)).cell
   have c15 : mcell m5 b3 1 = some U := by
    rw [mwr_out (by simp)]
    exact s34.cell c12 (by rw [tg2]; omega)
   have hd5 : Hd m5 b3 0 true 2 := mwr_hd hd4
   let m6 : M := m5 ++ [rowz 1 true [sl m.length s.n]]
   let own6 := upd own4 m5.length 0
   have s6 : ∀ T : Nat → Prop, Step T own4 m5 own6 m6 := fun T => Step.push T _ _ _ _
   have hO6 : Own base own6 := hO4.upd (by omega) 0
   have hm6 : m6.length = m5.length + 1 := by simp [m6]
   have s25 : Step (fun t => t = 300 ∨ t = 310) own2 m2 own4 m5 := (s34.mono fun t ht => .inl ht).trans (s5.mono fun t ht => .inr ht)
   have hvu6 := ((hB.vu.step s12 (by omega)).step s25 (by omega)).step (s6 fun _ => False) (fun h => h)
   obtain ⟨m7, u1, u2, s7, hm7⟩ := hvu6.add hO6 (by omega) (by omega) (src1 (m := m5) (z := 1) (c := [sl m.length s.n]) rfl (by omega)) rfl rfl (by omega)
   let own7 := upd own6 m6.length 301
   have hO7 : Own base own7 := hO6.upd (by omega) 301
   have hvu7 := u2 (fun t => [sl (upd R i m.length t) s.n]) (fun t ht => by rw [upd_ne _ _ (by omega)]) (by rw [upd_self])
   have s67 : Step (· = 301) own4 m5 own7 m7 := (s6 _).trans s7
   have tg7 : own7 b3 = 310 := (s67.tg b3 hd5.lt).trans tg4
   have hd7 : Hd m7 b3 0 true 2 := s67.hd hd5 (by rw [tg4]; omega)
   let m8 : M := mwr m7 b3 1 [sl m6.length (i + 1)]
   have s8 : Step (· = 310) own7 m7 own7 m8 := Step.wr tg7 _ _
   have hst8 : xstore E.P base m7 60 (pt b3 1) (sl m6.length (i + 1)) = some m8 := gstS z60 hb3 hd7 (by omega) _ _ _
   have s58 : Step (fun t => t = 301 ∨ t = 310) own4 m5 own7 m8 := (s67.mono fun t ht => .inl ht).trans (s8.mono fun t ht => .inr ht)
   have s28 : Step (fun t => t = 300 ∨ t = 301 ∨ t = 310) own2 m2 own7 m8 := (s25.mono fun t ht => by omega).trans (s58.mono fun t ht => by omega)
   have hB8 : ShotB own7 m8 b3 (sl m3.length (i + 1)) (sl m6.length (i + 1)) s.n (i + 1) (upd R i m.length) (fun t => (s.sh si t).pcs) (fun a t => (s.sh si t).hrd a) := by
    refine ⟨mwr_hd hd7, tg7, ?_, (mwr_in (vs := [sl m6.length (i + 1)]) hd7 (by simp)).cell, ?_, hvu7.step s8 (by omega), fun q hq => ?_⟩
    ·rw [mwr_out (by simp)]
     exact s67.cell c05 (by rw [tg4]; omega)
    ·exact (hvp4.step s5 (by omega)).step s58 (by omega)
    ·by_cases e : q = i
     ·subst e
      rw [upd_self]
      exact hR2.step s28 (by omega) (by omega)
     ·rw [upd_ne _ _ e]
      exact ((hB.rows q (by omega)).step s12 (by omega) (by omega)).step s28 (by omega) (by omega)
   have s18 : Step (fun t => 300 ≤ t ∧ t < 320) own m own7 m8 := (s12.mono fun t ht => by omega).trans (s28.mono fun t ht => by omega)
   obtain ⟨own', m', P', U', R', q1, q2, q3, q4⟩ := loop81a z kp kx x2 hsi hb3 hlen w (i + 1) own7 m8 _ _ _ (by omega) (by omega) hO7 (Nat.le_trans hbm s18.len) (h.step s18 (fun t ht => by omega)) hB8
   refine ⟨own', m', P', U', R', ?_, q2, s18.trans q3, q4⟩
   rw [decide_eq_true hlt, kbt, glen i125, k2s, mk80 m s.n (by omega), k2s, rep1, glen i125, k2s, i0]
   refine g1.trans ?_
   rw [gfd f62_0, k1s, gld1 a22, Nat.zero_add, c02, k1s, gix s125 (d.rr si) 0 s.n s.n i hlt, k1s, gfd f147_1, k1s, gld1 a3, show 0 + i * 13 + 1 = i * 13 + 1 by omega, hpcs, k1s, gb22, k2s, vapp p22, p1, k2s, k1s, hst5, kss, gfd f62_1, k1s, gld1 a60, Nat.zero_add, c15, k1s, gb60, k2s, vapp p60, u1, k2s, k1s, hst8, kss, add1 3 _ (by omega), k1s]
   exact q1
  ·obtain rfl : i = s.n := by omega
   refine ⟨own, m, P, U, R, ?_, hO, Step.refl _ _ _, hB⟩
   rw [decide_eq_false hlt, kbf]
end
end Go.AM
namespace Go.AM
open Go Go.Proofs
theorem al147 (m : M) : xalloc E.P m 147 = some (pt m.length 0, m ++ [cellR (rcC zeroR fun _ => nilS)]) := by
 have e : xalloc E.P m 147 = xlen m fun n => xpush m (cellR (rcC zeroR fun _ => nilS)) fun m' => some (pt n 0, m') := by kernel_rfl
 rw [e, xlen_eq, fNat_eq, xpush_eq, fList_eq]
def snapE (s : Nt) (no : Int) : Int := if findE s no = 0 then (if doneS s (no.toNat - 1) then 0 else 9) else 6
theorem findE_0 {s : Nt} {no : Int} (h : findE s no = 0) : 1 ≤ no ∧ no.toNat - 1 < s.ns := by
 unfold findE at h
 split at h
 ·rename_i e; omega
 ·omega
theorem eq26 (a : Int) : mbin E .eql 26 (vi a) (.int .i64 0) = some (.bool (decide (a = 0))) := eqlI 26 a 0
structure Shot (own : Nat → Nat) (m : M) (P U : Value) (n : Nat) (R : Nat → Nat) (pc : Nat → Int) (hr : Nat → Nat → List Int) : Prop where
 p : Lst own 300 1 m P n fun i => [vi (pc i)]
 u : Lst own 301 1 m U n fun i => [sl (R i) n]
 rows : ∀ i, i < n → RowU own (302 + i) m (R i) n n (hr i)
theorem Shot.step {own own' : Nat → Nat} {m m' : M} {T : Nat → Prop} {P U : Value} {n : Nat} {R : Nat → Nat} {pc : Nat → Int} {hr : Nat → Nat → List Int} (h : Shot own m P U n R pc hr) (h5 : n ≤ 5) (st : Step T own m own' m') (hT : ∀ t, T t → t ≠ 0 ∧ (t < 300 ∨ 307 ≤ t)) : Shot own' m' P U n R pc hr :=
 ⟨Lst.step h.p st (fun a => by have := hT _ a; omega), Lst.step h.u st (fun a => by have := hT _ a; omega), fun i hi => (h.rows i hi).step st (fun a => by have := hT _ a; omega) (fun a => by have := hT _ a; omega)⟩
section
variable {own : Nat → Nat} {k : Nat} {m : M} {p : Nat} {d : NP} {s : Nt} {base : Nat}
theorem t80 (q : Nat) (hq : 6 ≤ q) (h : Net own k m p d s) (no : Int) : rt (q + 3) base 80 [pt p 0, vi no] m = some (.ret (.tuple #[if snapE s no = 0 then sl (d.rr (no.toNat - 1)) s.n else nilS, vi (snapE s no)]), m) := by
 rw [rt_imp (f := 80) (rf := rf80) (by kernel_rfl) (by kernel_rfl) (by kernel_rfl)]
 show r80 (rt (q + 2)) (q + 2) base (pt p 0) (vi no) m = _
 unfold r80 snapE
 rw [k1_fun, t78 q h no, kcs, ext0, k1s, ext1, k1s, eq26, k1s]
 by_cases h0 : findE s no = 0
 ·obtain ⟨_, hi⟩ := findE_0 h0
  rw [decide_eq_true h0, kbt, if_pos h0, if_pos h0, t79 q hq h hi, kcs, notB 4, k1s]
  cases hd : doneS s (no.toNat - 1) with
  | true => rw [Bool.not_true, kbf, h0]; rfl
  | false => rw [Bool.not_false, kbt]; rfl
 ·have h6 : findE s no = 6 := by
   unfold findE at h0 ⊢
   split at h0
   ·exact absurd rfl h0
   ·rename_i e; rw [if_neg e]
  rw [decide_eq_false h0, kbf, if_neg h0, if_neg h0, h6]
  rfl
theorem ld62 {m : M} {b : Nat} {P U : Value} (h0 : mcell m b 0 = some P) (h1 : mcell m b 1 = some U) : xload E.P m 62 (pt b 0) = some (.agg #[P, U]) := by
 have hc : Cs m b 0 [P, U] := fun i v hi => by
  match i with
  | 0 => simp at hi; subst hi; exact h0
  | 1 => simp at hi; subst hi; exact h1
  | i + 2 => simp at hi
 exact gldk g62 hc rfl (by simp)
end
end Go.AM
namespace Go.AM
open Go Go.Proofs
open Go.ChangeShapes Go.WideShapes
section
variable {H : Type} {enc : TypeId × Value → H} {W : World} {b0 : Nat} {v : Value} {d : DataW H} {p : List MemPlace} {ρ : Map} {m : M} (hR : Rel ρ m W) (hro : ∀ row ∈ m, row.ro = true)
include hR hro
set_option maxRecDepth 100000
theorem openActs (hval : Value.okWide Try.prog W .any b0 23 v) (hd : DataW.Trod enc Try.prog W 0 (fun _ => true) true 23 v d p) :
  ∃ (ρ' : Map) (ext : M) (xv : Value) (l : List ActD), ρ.le ρ' ∧ Rel ρ' (m ++ ext) W ∧ (∀ row ∈ (m ++ ext : M), row.ro = true) ∧ VRel ρ' xv v ∧ Acs (fun _ => 0) (m ++ ext) xv l := by
 obtain ⟨fuel, hf⟩ := hd
 obtain ⟨a, len, cap, rfl⟩ := okWide_slice un23 hval
 obtain ⟨ρ', ext, xv, l, h1, h2, h3, h4, h5⟩ := openFlat un23 ce36 (by omega) (fun c : ActD => actC c) (fun _ => rfl) (fun a v hv ρ => by
  simp only [actC, List.mem_cons, List.not_mem_nil, or_false] at hv
  rcases hv with rfl | rfl | rfl | rfl <;> exact .int _ _) (fun n cs x hx => by
  obtain ⟨a, e, _⟩ := act_of_trod hx
  exact ⟨a, e⟩) hR hro hf
 exact ⟨ρ', ext, xv, l, h1, h2, h3, h4, openFlat_lst (f := fun c : ActD => actC c) (z := 4) (fun _ => rfl) h5⟩
end
end Go.AM
namespace Go.AM
open Go Go.Proofs
section
variable {own : Nat → Nat} {l : List Evt} {v : Value}
end
section
variable {own : Nat → Nat} {m : M} {base : Nat}
theorem doneS_all {s : Nt} {i : Nat} (n5 : s.n ≤ 5) (h : doneS s i = true) : ∀ t, t < s.n → (s.sh i t).made = true ∧ ∀ f, f < s.n → (s.sh i t).opn f = false := fun t ht => by
 unfold doneS at h
 have := List.all_eq_true.1 h t (List.mem_range.2 ht)
 unfold doneR at this
 simp only [Bool.and_eq_true, Bool.not_eq_true'] at this
 refine ⟨this.1, fun f hf => ?_⟩
 match f with
 | 0 => exact this.2.1
 | 1 => exact this.2.2.1
 | 2 => exact this.2.2.2.1
 | 3 => exact this.2.2.2.2.1
 | 4 => exact this.2.2.2.2.2
 | f + 5 => omega
end
end Go.AM
namespace Go.AM
open Go Go.Proofs
theorem EvB.pcs_ {m : M} {p : Nat} {e : Evt} {u : Value} (h : EvB m p e u) (K : Value → Res2) : (k1n (mfieldAddr E.P 72 (pt p 0) 3) fun a => k1n (xload E.P m 3 a) K) = K (vi e.pcs) := by
 rw [gfd f72_3, k1s, gld1 a3, Cs.at h 3 rfl, k1s]
section
variable {own : Nat → Nat} {k : Nat} {p : Nat} {base : Nat}
end
end Go.AM
namespace Go.AM
open Go Go.Proofs
theorem mwr_pre {m y : M} {r off : Nat} {vs : List Value} (h : m.length ≤ r) : ∃ y', mwr (m ++ y) r off vs = m ++ y' ∧ y'.length = y.length := by
 unfold mwr
 split
 ·split
  ·rw [List.set_append_right _ _ h]
   exact ⟨_, rfl, by simp⟩
  ·exact ⟨y, rfl, rfl⟩
 ·exact ⟨y, rfl, rfl⟩
theorem kv130 (call : CallF) (base : Nat) (q : Int) (c : Nat → Int) (m : M) : kv call base (imeth 0 (msV (.par q c))) [] m = call base 130 [parV q c] m := by kernel_rfl
theorem t130 (n base : Nat) (q : Int) (c : Nat → Int) (m : M) : rt (n + 1) base 130 [parV q c] m = some (.ret (vi q), m) := by
 refine rt_pure (f := 130) (rf := rf130) (by kernel_rfl) (by kernel_rfl) (by kernel_rfl) n base _ m (m ++ [cellR (stC q c)]) _ ?_ rfl
 show r130 (rt n) n m.length (parV q c) m = _
 unfold r130
 have e : xbox m (parV q c) = some (pt m.length 0, m ++ [cellR (stC q c)]) := by
  have e : xbox m (parV q c) = xlen m fun k => xpush m (cellR (stC q c)) fun m' => some (pt k 0, m') := by kernel_rfl
  rw [e, xlen_eq, fNat_eq, xpush_eq, fList_eq]
 rw [k1_fun, fVal_fun, e, k2s, gfd f117_0, k1s, gld1 a3, (Cs_new m 0 true (stC q c)).at 0 rfl, k1s]
theorem r17_L0_s (call : CallF) (fuel base : Nat) (kr : Value → M → Res2) (kx0 : M → Res2) (n : Nat) (x0 x1 x5 : Value) (m : M) : r17_L0 call fuel base kr kx0 (n + 1) x0 x1 x5 m =
  (k2 (vcalln E.P base m .len [22] [x0]) fun u4 m => (k1n (mbin E .lss 3 x5 u4) fun u5 => (kb u5 (k1n (mindexAddr E.P 22 x0 x5) fun u6 => (k1n (xload E.P m 3 u6) fun u7 => (k1n (mindexAddr E.P 22 x1 x5) fun u8 => (k1n (xload E.P m 3 u8) fun u9 => (k1n (mbin E .neq 3 u7 u9) fun u10 => (kb u10 (kr (.bool false) m) (k1n (mbin E .add 3 x5 (.int .i64 1)) fun u11 => (r17_L0 call fuel base kr kx0 n x0 x1 u11 m)))))))) (kx0 m)))) := by
 unfold r17_L0
 rw [k1_fun, vcall_fun]
end Go.AM
namespace Go.AM
open Go Go.Proofs
section
variable {own : Nat → Nat} {m : M} {base : Nat}
theorem loop17 (call : CallF) (fuel base : Nat) (kr : Value → M → Res2) (kx : M → Res2) {tx ty : Nat} {x y : Value} {l : List Int} (hx : Nums own tx m x l) (hy : Nums own ty m y l) (hl : l.length ≤ 1000) :
  ∀ (n i : Nat), i ≤ l.length → l.length + 1 ≤ n + i → r17_L0 call fuel base kr kx n x y (vi i) m = kx m
 | 0, i, hi, hn => by omega
 | n + 1, i, hi, hn => by
  rw [r17_L0_s, hx.len i22, k2s, lssN, k1s]
  by_cases h : i < l.length
  ·rw [decide_eq_true h, kbt, hx.get h, hy.get h, neqI, k1s, decide_eq_true rfl, Bool.not_true, kbf, add1 3 _ (by omega), k1s]
   exact loop17 call fuel base kr kx hx hy hl n (i + 1) (by omega) (by omega)
  ·rw [decide_eq_false h, kbf]
theorem t17 (k base : Nat) (hk : 1001 ≤ k) {tx ty : Nat} {x y : Value} {l : List Int} (hx : Nums own tx m x l) (hy : Nums own ty m y l) (hl : l.length ≤ 1000) : rt (k + 1) base 17 [x, y] m = some (.ret (.bool true), m) := by
 refine rt_pure (f := 17) (rf := rf17) (by kernel_rfl) (by kernel_rfl) (by kernel_rfl) k base _ m m _ ?_ rfl
 show r17 (rt k) k m.length x y m = _
 unfold r17
 rw [k1_fun, vcall_fun, fVal_fun, hx.len i22, k2s, hy.len i22, k2s, neqI, k1s, decide_eq_true rfl, Bool.not_true, kbf, i0]
 exact loop17 (rt k) k m.length _ _ hx hy hl k 0 (by omega) (by omega)
variable {k : Nat} {p : Nat} {d : NP} {s : Nt}
end
end Go.AM
