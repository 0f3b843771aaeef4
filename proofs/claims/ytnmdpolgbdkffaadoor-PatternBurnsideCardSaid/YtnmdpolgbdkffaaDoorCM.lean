import Derived.Deep.DeepHandedRow
import Derived.Deep.SlicePairs
import Derived.Deep.Strs
import Derived.JoinedCond
import Derived.KernelRfl
import Derived.Laws.BytesArg
import Derived.Laws.StructEq
import Derived.Lib.LaidTab
import Derived.Lib.SmallJoins
import Derived.OpenShut
import Derived.ProofKit
import Derived.Test.YtnmdpolgbdkffaaDoorCards
import Derived.Test.YtnmdpolgbdkffaaDoorRows
import Derived.Test.YtnmdpolgbdkffaaDoorTie
import Derived.WalkKit
import Derived.Test.YtnmdpolgbdkffaaDoorAmB
import Derived.Test.YtnmdpolgbdkffaaDoorAmModel
import Derived.Test.YtnmdpolgbdkffaaDoorAmOps6
import Derived.Test.YtnmdpolgbdkffaaDoorAmCode
import Derived.Test.YtnmdpolgbdkffaaDoorAmK2
import Derived.Test.YtnmdpolgbdkffaaDoorAmEq
import Derived.Test.YtnmdpolgbdkffaaDoorRBase
import Derived.Test.YtnmdpolgbdkffaaDoorR81
import Derived.Test.YtnmdpolgbdkffaaDoorAmS
import Derived.Test.YtnmdpolgbdkffaaDoorS11
import Derived.Test.YtnmdpolgbdkffaaDoorFL
set_option linter.unusedVariables false
set_option linter.unusedSimpArgs false
set_option linter.unusedSectionVars false
namespace Go.AM
open Go Go.Proofs
open Go.ChangeShapes Go.WideShapes
section
variable {H : Type} {enc : TypeId × Value → H} {P : Program} {w : World} {base : Nat} {sp : Nat → Bool} {held : Bool}
/-- A struct of whole numbers, one cell each, that reads as some numbers holds them. -/
theorem ints_of_trod {k : IntKind} {ti e : TypeId} {fs : Array Field} {n : Nat} {cs : List Value} {x : DataW H × List MemPlace} (he : P.underlying e = some (.struct fs)) (hi : P.underlying ti = some (.int k)) (hci : P.cellsOf ti = 1) (hce : P.cellsOf e = fs.size)
    (hf : ∀ (j : Nat) (f : Field), fs[j]? = some f → f.type = ti ∧ f.offset = j) (h : DataW.trod enc P w base sp held n e cs = some x) :
    ∃ l : List Int, cs = l.map (Value.int k) ∧ x = (.agg (l.map fun z => .lit (.int k z)), []) ∧ l.length = fs.size ∧ ∀ z ∈ l, (Lit.int k z).wf = true := by
  obtain ⟨xs, m, _, rfl, hl, hlen, hg⟩ := DataW.trod_struct he h
  have key : ∀ j, j < fs.size → ∃ z, cs[j]? = some (.int k z) ∧ xs[j]? = some (.lit (.int k z), []) ∧ (Lit.int k z).wf = true := by
    intro j hj
    have e1 : fs[j]? = some fs[j] := by simp [hj]
    obtain ⟨h1, h2⟩ := hf j _ e1
    have h3 := hg j _ e1
    rw [h1, h2, hci] at h3
    have hjx : j < xs.length := by omega
    have e2 : xs[j]? = some xs[j] := by simp [hjx]
    rw [e2] at h3
    obtain ⟨z, c1, c2, c3⟩ := DataW.trod_int hi h3
    refine ⟨z, ?_, by rw [e2, c2], c3⟩
    have := congrArg (·[0]?) c1
    simpa [List.getElem?_take, List.getElem?_drop] using this
  let l : List Int := cs.map fun v => match v with
    | .int _ z => z
    | _ => 0
  have hll : l.length = fs.size := by simp only [l, List.length_map]; omega
  have hz : ∀ (j : Nat) (z : Int), cs[j]? = some (Value.int k z) → l[j]? = some z := fun j z hc => by simp [l, hc]
  refine ⟨l, ?_, ?_, hll, fun z hz' => ?_⟩
  · refine List.ext_getElem? fun j => ?_
    by_cases hj : j < fs.size
    · obtain ⟨z, a, _, _⟩ := key j hj
      rw [a, List.getElem?_map, hz j z a]; rfl
    · rw [List.getElem?_eq_none (by omega), List.getElem?_eq_none (by simp; omega)]
  · have hx : xs = l.map fun z => (DataW.lit (.int k z), []) := by
      refine List.ext_getElem? fun j => ?_
      by_cases hj : j < fs.size
      · obtain ⟨z, a, b, _⟩ := key j hj
        rw [b, List.getElem?_map, hz j z a]; rfl
      · rw [List.getElem?_eq_none (by omega), List.getElem?_eq_none (by simp; omega)]
    subst hx
    have h2 : ((l.map fun z => ((DataW.lit (.int k z), []) : DataW H × List MemPlace)).flatMap (·.2)) = [] := by
      rw [List.flatMap_eq_nil_iff]
      intro y hy
      obtain ⟨z, _, rfl⟩ := List.mem_map.1 hy
      rfl
    rw [h2, List.map_map]
    rfl
  · obtain ⟨j, hj, rfl⟩ := List.mem_iff_getElem.1 hz'
    obtain ⟨z, a, _, c⟩ := key j (by omega)
    have := hz j z a
    rw [List.getElem?_eq_getElem hj] at this
    rw [Option.some.inj this]
    exact c
end
def fieldsIn (fs : Array Field) (ti : TypeId) : Bool := (List.range fs.size).all fun j => match fs[j]? with
  | some f => f.type == ti && f.offset == j
  | none => false
theorem fieldsIn_of {fs : Array Field} {ti : TypeId} (h : fieldsIn fs ti = true) : ∀ (j : Nat) (f : Field), fs[j]? = some f → f.type = ti ∧ f.offset = j := by
  intro j f hj
  have hlt : j < fs.size := (Array.getElem?_eq_some_iff.1 hj).1
  have := List.all_eq_true.1 h j (List.mem_range.2 hlt)
  rw [hj] at this
  simpa using this
end Go.AM
namespace Go.Proofs.YtnmdpolgbdkffaaDoor.own
open Go.ChangeShapes Go.WideShapes Go.ChangeAt Go.RowKit Go.AM
theorem own : ownKnob Tryd.prog.godebug = none := by kernel_rfl
theorem gTab : Tryd.prog.globalNamed "encaustic/pattern.kinds" = some 0 := by kernel_rfl
theorem gTabType : (Tryd.prog.globals[0]?).map (·.type) = some 92 := by kernel_rfl
theorem cells92 : Tryd.prog.cellsOf 92 = 48 := by kernel_rfl
theorem cells50 : Tryd.prog.cellsOf 50 = (Tryd.prog.fieldsOf 50).size := by kernel_rfl
theorem cells3 : Tryd.prog.cellsOf 3 = 1 := by kernel_rfl
theorem un92 : Tryd.prog.underlying 92 = some (.array 8 50) := by kernel_rfl
theorem un50 : Tryd.prog.underlying 50 = some (.struct (Tryd.prog.fieldsOf 50)) := by kernel_rfl
theorem size50 : (Tryd.prog.fieldsOf 50).size = 6 := by kernel_rfl
theorem un3 : Tryd.prog.underlying 3 = some (.int .i64) := by kernel_rfl
theorem fi50 : fieldsIn (Tryd.prog.fieldsOf 50) 3 = true := by kernel_rfl
abbrev laid : List (String × DataW Unit) := [("encaustic/pattern.kinds", Rows.laid_encaustic_pattern_kinds)]
def tabD : List (List Int) := [[1, 0, 0, 1, 0, 0], [0, -1, 1, 0, 0, 0], [-1, 0, 0, -1, 0, 0], [0, 1, -1, 0, 0, 0], [1, 0, 0, -1, 0, 0], [-1, 0, 0, 1, 0, 0], [0, 1, 1, 0, 0, 0], [0, -1, -1, 0, 0, 0]]
theorem laid_tabD {H : Type} : (Rows.laid_encaustic_pattern_kinds : DataW H) = .agg (tabD.map fun r => .agg (r.map fun z => .lit (.int .i64 z))) := rfl
def tabZ : List Int := [1,0,0,1,0,0, 0,-1,1,0,0,0, -1,0,0,-1,0,0, 0,1,-1,0,0,0, 1,0,0,-1,0,0, -1,0,0,1,0,0, 0,1,1,0,0,0, 0,-1,-1,0,0,0]
theorem gtabs_eq : gtabs = [(0, tabZ.map fun (n : Int) => .int .i64 n)] := rfl
theorem tabZ_at : ((List.range 8).all fun i => (List.range 6).all fun j => tabZ[i * 6 + j]? == (tabD[i]?.bind (·[j]?))) = true := by decide +kernel
theorem lit_inj {H : Type} {l r : List Int} (h : (DataW.agg (l.map fun z => DataW.lit (.int .i64 z)) : DataW H) = .agg (r.map fun z => .lit (.int .i64 z))) : l = r := by
  simp only [DataW.agg.injEq] at h
  have hlen := congrArg List.length h
  simp only [List.length_map] at hlen
  refine List.ext_getElem? fun j => ?_
  have hj := congrArg (·[j]?) h
  simp only [List.getElem?_map] at hj
  cases e1 : l[j]? <;> cases e2 : r[j]? <;> rw [e1, e2] at hj <;> simp_all
theorem table_cells {H : Type} {enc : TypeId × Value → H} {w : World} {base : Nat} {sp : Nat → Bool} {held : Bool} {fuel : Nat} {cs : List Value} {p : List MemPlace} (h : DataW.trod enc Tryd.prog w base sp held fuel 92 cs = some (Rows.laid_encaustic_pattern_kinds, p)) : cs = tabZ.map fun n => .int .i64 n := by
  obtain ⟨xs, m, _, hx, hl, hlen, hg⟩ := DataW.trod_array un92 h
  rw [laid_tabD] at hx
  simp only [Prod.mk.injEq, DataW.agg.injEq] at hx
  have hrow : ∀ i r, tabD[i]? = some r → (cs.drop (i * 6)).take 6 = r.map (Value.int .i64) := by
    intro i r hr
    have hi : i < 8 := (List.getElem?_eq_some_iff.1 hr).1
    have h1 := hg i hi
    rw [show Tryd.prog.cellsOf 50 = 6 from cells50.trans size50] at h1
    have hix : i < xs.length := by omega
    have e2 : xs[i]? = some xs[i] := by simp [hix]
    rw [e2] at h1
    obtain ⟨l, c1, c2, c3, _⟩ := ints_of_trod un50 un3 cells3 cells50 (fieldsIn_of fi50) h1
    have h3 := congrArg (·[i]?) hx.1
    simp only [List.getElem?_map, hr, Option.map_some] at h3
    rw [e2] at h3
    simp only [Option.map_some, Option.some.injEq] at h3
    rw [c2] at h3
    rw [c1, lit_inj h3]
  rw [cells92] at hl
  refine List.ext_getElem? fun q => ?_
  by_cases hq : q < 48
  · have ht := List.all_eq_true.1 (List.all_eq_true.1 tabZ_at (q / 6) (List.mem_range.2 (by omega))) (q % 6) (List.mem_range.2 (by omega))
    rw [beq_iff_eq, show q / 6 * 6 + q % 6 = q by omega] at ht
    have hlt : q / 6 < tabD.length := by show q / 6 < 8; omega
    have e1 : tabD[q / 6]? = some tabD[q / 6] := List.getElem?_eq_getElem hlt
    rw [e1] at ht
    have h2 := hrow (q / 6) _ e1
    have h3 := congrArg (·[q % 6]?) h2
    simp only [List.getElem?_take, List.getElem?_drop, List.getElem?_map] at h3
    rw [if_pos (by omega), show q / 6 * 6 + q % 6 = q by omega] at h3
    rw [h3, List.getElem?_map, ht]
    rfl
  · rw [List.getElem?_eq_none (by omega), List.getElem?_eq_none (by rw [List.length_map]; show 48 ≤ q; omega)]
theorem glob_of {W : World} (h : laidMetH Tryd.prog laid W) : Glob (fun _ => none) W := by
  obtain ⟨ps, ⟨g', t', cs, fuel, p, q, hg', ht', hvar, hd, _, _⟩, _⟩ := (show laidMet Tryd.prog laid W from h)
  obtain rfl := Option.some.inj (gTab.symm.trans hg')
  obtain rfl := Option.some.inj (gTabType.symm.trans ht')
  have ht := table_cells hd
  unfold World.var? at hvar
  rw [gTab] at hvar
  simp only [Option.bind_some] at hvar
  refine ⟨fun g l hl => ?_, fun g l hl r k hr => by simp at hr⟩
  have hm := glook_mem hl
  rw [gtabs_eq] at hm
  simp only [List.mem_singleton, Prod.mk.injEq] at hm
  obtain ⟨rfl, rfl⟩ := hm
  split at hvar
  · rename_i C T fz hc
    refine ⟨C, T, fz, hc, ?_⟩
    rw [← ht, Option.some.inj hvar]
  · simp at hvar
/-- What is there stays as it is. -/
def Stays (W w' : World) : Prop := W.keptBut w' (fun _ => False) ∧ ∀ a, a.block < W.heap.size → w'.frozen? a = W.frozen? a
theorem post_of_stays {H : Type} {enc : TypeId × Value → H} {P : Program} {f : Func} {s : ChangeSpec} {apart fresh handsOn again : Bool} {W W' : World} {args : Array Value} {v : Value} {ds gs : List (DataW H)} {before pa pv : List MemPlace}
    (hW : DataW.Whole enc P f.params.toList s.vars apart W args.toList ds gs before)
    (hres : ∀ (b : Nat) (sp : Nat → Bool) (hd : Bool), DataW.TrodAll enc P W' b sp hd f.resultTypes.toList (v.resultList f.resultTypes.size) (s.fn H (ds ++ gs)).results [])
    (hargs : ∀ sp : Nat → Bool, (∀ p ∈ before, sp p.block = true) → DataW.TrodAll enc P W' 0 sp true f.params.toList args.toList (s.fn H (ds ++ gs)).args pa)
    (hvars : ∀ sp : Nat → Bool, (∀ p ∈ before, sp p.block = true) → DataW.TrodVars enc P W' sp s.vars (s.fn H (ds ++ gs)).vars pv)
    (hps : before = pa ++ pv) (hk : W.keptBut W' (· ∈ before)) (hfz : ∀ a, a.block < W.heap.size → W'.frozen? a = W.frozen? a)
    (hok : ∀ (j : Nat) (t : TypeId) (r : Value), f.resultTypes[j]? = some t → (v.resultList f.resultTypes.size)[j]? = some r → Value.okWide P W' .any 0 t r) :
    s.post enc P f apart fresh handsOn again W args v W' := by
  have hlt : ∀ p ∈ before, p.block < W.heap.size := fun p hp => hW.lt p hp
  have hold : ∀ p ∈ before, (fun b => decide (b < W.heap.size)) p.block = true := fun p hp => by simpa using hlt p hp
  refine ⟨ds, gs, before, [], pa, pv, hW, hres _ _ _, hargs _ hold, hvars _ hold, World.keptBut_mono (fun p hp => ⟨hp, ?_⟩) hk, fun _ => ?_⟩
  · rw [hps, List.mem_append] at hp
    exact Or.inr hp
  · obtain ⟨_, _, _, _, _, hz, hn⟩ := hW
    refine ⟨hok, _, _, ([] ++ pa) ++ pv, ⟨[] ++ pa, pv, trodAll_append (hargs _ (fun _ _ => rfl)) (hres _ _ _), hvars _ (fun _ _ => rfl), rfl, ?_, ?_⟩, ?_⟩
    · intro b off hp
      have hp' : MemPlace.cell b off ∈ before := by rw [hps]; simpa using hp
      rw [hfz _ (hlt _ hp')]
      exact hz b off hp'
    · intro ha
      have := hn ha
      rw [hps] at this
      simpa using this
    · intro p hp _
      rw [hps]
      simpa using hp
/-- A world for the witness: the settled one, the table holding what its initialiser lays. -/
noncomputable def laidWorld (os : Os) : World :=
  { World.holding Tryd.prog os ⟨#[], #[], []⟩ with heap := (World.holding Tryd.prog os ⟨#[], #[], []⟩).heap.modify 0 fun
      | .cells _ t frozen => .cells (tabZ.map fun n => Value.int .i64 n).toArray t frozen
      | o => o }
theorem stays_same {ρ ρ' : Map} {n : Nat} {W w' : World} (hd : ∀ r l, ρ r = some l → r < n) (h : Ext n ρ ρ' W w') : Stays W w' ∧ ∀ b, b < W.heap.size → w'.heap[b]? = W.heap[b]? := by
  have hf : ∀ b, b < W.heap.size → w'.heap[b]? = W.heap[b]? := fun b hb => h.frame b hb fun r l hr hn => by
    have := hd r l hr
    omega
  refine ⟨⟨⟨h.os, h.output, fun i hi => ?_⟩, fun a ha => ?_⟩, hf⟩
  · rw [hf i hi]
    cases W.heap[i]? with
    | none => rfl
    | some o => cases o with
      | cells c t fr => exact ⟨rfl, rfl, rfl, fun _ _ => rfl⟩
      | map es clock => exact .inr ⟨rfl, rfl⟩
      | _ => rfl
  · unfold World.frozen?
    rw [hf a.block ha]
theorem un4 : Tryd.prog.underlying 4 = some .bool := by kernel_rfl
theorem g0 : 0 < Tryd.prog.globals.size := by
  have : decide (0 < Tryd.prog.globals.size) = true := by kernel_rfl
  exact of_decide_eq_true this
theorem row0 : ((begin Tryd.prog (fun _ _ => 0) default).world.heap[0]?).bind Obj.row? = some ((Array.replicate 48 (.int .i64 0)), 92) := by kernel_rfl
theorem type0 {W : World} (h : W.ShapedOpen Tryd.prog) : ∀ C T fz, W.heap[0]? = some (.cells C T fz) → T = 92 := by
  intro C T fz hC
  obtain ⟨cs, h1, _⟩ := h.1 0 _ _ g0 row0
  rw [hC] at h1
  simp only [Option.some.injEq, Obj.cells.injEq] at h1
  exact h1.2.1
end Go.Proofs.YtnmdpolgbdkffaaDoor.own
namespace Go.AM
open Go Go.Proofs
open Go.ChangeShapes Go.WideShapes
theorem rel_addro {ρ : Map} {m : M} {W : World} (hR : Rel ρ m W) (hro : ∀ row ∈ m, row.ro = true) {bk off esz : Nat} {C : Array Value} {T : TypeId} {fz : _} (hheap : W.heap[bk]? = some (.cells C T fz)) (cells : List Value) (hbk : bk ≠ 0) (hsz : off + cells.length ≤ C.size)
    (hc : ∀ j v, cells[j]? = some v → C[off + j]? = some v ∧ ∀ ρ : Map, VRel ρ v v) :
    ∃ ρ' : Map, ρ.le ρ' ∧ ρ' m.length = some ⟨bk, off, C.size, esz, false⟩ ∧ Rel ρ' (m ++ [{ esz := esz, ex := false, ro := true, cells := cells }]) W ∧ ∀ row ∈ (m ++ [{ esz := esz, ex := false, ro := true, cells := cells }] : M), row.ro = true := by
  have hnone : ρ m.length = none := by
    cases e : ρ m.length with
    | none => rfl
    | some l => have := hR.dom _ _ e; omega
  let ρ' : Map := fun r => if r = m.length then some ⟨bk, off, C.size, esz, false⟩ else ρ r
  have hle : ρ.le ρ' := by
    intro r l hr
    have : r ≠ m.length := by intro e; subst e; rw [hnone] at hr; simp at hr
    simp [ρ', this, hr]
  have hro' : ∀ row ∈ (m ++ [{ esz := esz, ex := false, ro := true, cells := cells }] : M), row.ro = true := by
    intro row h
    rcases List.mem_append.1 h with h | h
    · exact hro row h
    · simp only [List.mem_singleton] at h
      subst h; rfl
  have cs : ∀ r l, ρ' r = some l → (r = m.length ∧ l = ⟨bk, off, C.size, esz, false⟩) ∨ (r ≠ m.length ∧ ρ r = some l) := by
    intro r l h
    by_cases e : r = m.length
    · simp only [ρ', if_pos e, Option.some.injEq] at h
      exact .inl ⟨e, h.symm⟩
    · simp only [ρ', if_neg e] at h
      exact .inr ⟨e, h⟩
  refine ⟨ρ', hle, by simp [ρ'], ⟨fun r l h => ?_, fun r l row h hr => ?_, fun r r' l l' row row' h h' hne hr hr' hf => ?_, ?_⟩, hro'⟩
  · rcases cs r l h with ⟨rfl, _⟩ | ⟨_, h⟩
    · simp
    · have := hR.dom r l h
      simp; omega
  · rcases cs r l h with ⟨rfl, rfl⟩ | ⟨hne, h⟩
    · simp only [List.getElem?_concat_length, Option.some.injEq] at hr
      subst hr
      refine ⟨rfl, rfl, C, T, fz, hheap, rfl, hsz, fun h => by simp at h, fun j v hj => ?_⟩
      obtain ⟨h1, h2⟩ := hc j v hj
      exact ⟨v, h1, h2 ρ'⟩
    · have hlt := hR.dom r l h
      rw [List.getElem?_append_left hlt] at hr
      obtain ⟨h1, h2, C', T', fz', h3, h4, h5, h6, h7⟩ := hR.row r l row h hr
      refine ⟨h1, h2, C', T', fz', h3, h4, h5, h6, fun j v hj => ?_⟩
      obtain ⟨v', h8, h9⟩ := h7 j v hj
      exact ⟨v', h8, h9.mono hle⟩
  · have := hro' row (List.mem_of_getElem? hr)
    rw [this] at hf
    simp at hf
  · refine ⟨hR.gl.here, fun g k hg r l h => ?_⟩
    have hf := hR.gl.free g k hg
    have hg : g = 0 := by have := glook_mem hg; unfold gtabs at this; simp at this; exact this.1
    rcases cs r l h with ⟨_, rfl⟩ | ⟨_, h⟩
    · exact fun e => hbk (e.trans (by simpa using hg))
    · exact hf r l h
theorem lies_le_str {p : Program} {d : Nat} {e u : TypeId} {count off n : Nat} (hu : p.underlying u = some .string) (h : liesAt p d e count off u n = true) : off ≤ count * p.cellsOf e := by
  cases d with
  | zero => simp [liesAt] at h
  | succ d =>
    unfold liesAt at h
    rw [hu] at h
    simp only [Bool.or_false] at h
    generalize p.depth = dd at h
    generalize (fun x => sameLayout p dd x u) = fit at h
    cases dd with
    | zero => simp [rowAt] at h
    | succ dd =>
      unfold rowAt at h
      simp only at h
      by_cases hs : p.cellsOf e = 0
      · rw [if_pos hs] at h
        simp at h
      · rw [if_neg hs] at h
        have hm := Nat.div_add_mod off (p.cellsOf e)
        have hmod := Nat.mod_lt off (Nat.pos_of_ne_zero hs)
        rw [Bool.or_eq_true] at h
        rcases h with h | h
        · simp only [Bool.and_eq_true, beq_iff_eq, decide_eq_true_eq] at h
          have h1 : off / p.cellsOf e ≤ count := by omega
          have h2 : p.cellsOf e * (off / p.cellsOf e) ≤ p.cellsOf e * count := Nat.mul_le_mul_left _ h1
          rw [Nat.mul_comm count]
          omega
        · rw [Bool.and_eq_true] at h
          have h1 : off / p.cellsOf e < count := by simpa using h.1
          have h2 : p.cellsOf e * (off / p.cellsOf e + 1) ≤ p.cellsOf e * count := Nat.mul_le_mul_left _ h1
          rw [Nat.mul_add] at h2
          rw [Nat.mul_comm count]
          omega
theorem addr_add (bk off n : Nat) : (⟨bk, off, none⟩ : Addr).add n = ⟨bk, off + n, none⟩ := by
  unfold Addr.add
  split
  · rename_i h
    simp_all
  · rfl
def Same (W W' : World) : Prop := ∀ b, b < W.heap.size → W'.heap[b]? = W.heap[b]?
theorem Same.cell {W W' : World} (h : Same W W') {a : Addr} {v : Value} (hc : W.cell? a = some v) : W'.cell? a = some v := by
  have hb : a.block < W.heap.size := by
    unfold World.cell? at hc
    cases e : W.heap[a.block]? with
    | none => rw [e] at hc; simp at hc
    | some o => exact (Array.getElem?_eq_some_iff.1 e).1
  unfold World.cell? at hc ⊢
  rw [h _ hb]
  exact hc
theorem un22 : Tryd.prog.underlying 22 = some (.slice 9) := by kernel_rfl
theorem un9 : Tryd.prog.underlying 9 = some .string := by kernel_rfl
theorem ce9 : Tryd.prog.cellsOf 9 = 1 := by kernel_rfl
theorem un92' : Tryd.prog.underlying 92 = some (.array 8 50) := by kernel_rfl
theorem un50' : Tryd.prog.underlying 50 = some (.struct (Tryd.prog.fieldsOf 50)) := by kernel_rfl
theorem ty50 : ((Tryd.prog.fieldsOf 50).all fun f => f.type == 3) = true := by kernel_rfl
/-- Nothing but whole numbers and moves lies in the laid table. -/
theorem lies0 {u : TypeId} (h92 : sameLayout Tryd.prog Tryd.prog.depth 92 u = false) (h50 : sameLayout Tryd.prog Tryd.prog.depth 50 u = false) (h3 : sameLayout Tryd.prog Tryd.prog.depth 3 u = false) (hun : ∀ m e, Tryd.prog.underlying u ≠ some (.array m e)) (count off n : Nat) : liesAt Tryd.prog Tryd.prog.depth 92 count off u n = false := by
  have hrow3 : ∀ d c o k, rowAt Tryd.prog (sameLayout Tryd.prog Tryd.prog.depth · u) d 3 c o k = false := by
    intro d c o k
    cases d with
    | zero => rfl
    | succ d =>
      unfold rowAt
      simp only [h3, u3, Bool.and_false, Bool.or_self]
      split <;> rfl
  have hrow50 : ∀ d c o k, rowAt Tryd.prog (sameLayout Tryd.prog Tryd.prog.depth · u) d 50 c o k = false := by
    intro d c o k
    cases d with
    | zero => rfl
    | succ d =>
      unfold rowAt
      simp only [h50, un50', Bool.and_false, Bool.false_or]
      have hany : ∀ r, ((Tryd.prog.fieldsOf 50).any fun f => decide (f.offset ≤ r) && decide (r < f.offset + Tryd.prog.cellsOf f.type) && rowAt Tryd.prog (sameLayout Tryd.prog Tryd.prog.depth · u) d f.type 1 (r - f.offset) k) = false := by
        intro r
        rw [Array.any_eq_false]
        intro i hi
        have := (Array.all_eq_true.1 ty50) i hi
        have e : (Tryd.prog.fieldsOf 50)[i].type = 3 := by simpa using this
        rw [e, hrow3]
        simp
      split
      · rfl
      · rw [hany]; simp
  have hrow : ∀ d c o k, rowAt Tryd.prog (sameLayout Tryd.prog Tryd.prog.depth · u) d 92 c o k = false := by
    intro d c o k
    cases d with
    | zero => rfl
    | succ d =>
      unfold rowAt
      simp only [h92, un92', hrow50, Bool.and_false, Bool.or_self]
      split <;> rfl
  generalize hd : Tryd.prog.depth = D at hrow ⊢
  cases D with
  | zero => rfl
  | succ D =>
    unfold liesAt
    have : sameLayout Tryd.prog (D + 1) = sameLayout Tryd.prog Tryd.prog.depth := by rw [hd]
    rw [hd]
    rw [hrow, Bool.false_or]
    split
    · rename_i m u' e
      exact absurd e (hun m u')
    · rfl
theorem lies9 (count off n : Nat) : liesAt Tryd.prog Tryd.prog.depth 92 count off 9 n = false :=
  lies0 (by kernel_rfl) (by kernel_rfl) (by kernel_rfl) (fun m e h => by rw [un9] at h; simp at h) count off n
set_option maxRecDepth 100000 in
theorem openStrs {H : Type} {enc : TypeId × Value → H} {W : World} {b0 : Nat} {v : Value} {d : DataW H} {p : List MemPlace} {ρ : Map} {m : M} (hR : Rel ρ m W) (hro : ∀ row ∈ m, row.ro = true) (h0 : ∀ C T fz, W.heap[0]? = some (.cells C T fz) → T = 92)
    (hval : Value.okWide Tryd.prog W .any b0 22 v) (hd : DataW.Trod enc Tryd.prog W 0 (fun _ => true) true 22 v d p) :
    ∃ (ρ' : Map) (ext : M) (xv : Value) (l : List ByteArray), ρ.le ρ' ∧ Rel ρ' (m ++ ext) W ∧ (∀ row ∈ (m ++ ext : M), row.ro = true) ∧ Strs (m ++ ext) xv l ∧ l.length ≤ 9223372036854775807 ∧ (∀ b ∈ l, b.size ≤ 9223372036854775807) ∧ VRel ρ' xv v ∧
      ∀ (W' : World) (sp : Nat → Bool), Same W W' → (∀ q ∈ p, sp q.block = true) → DataW.Trod enc Tryd.prog W' 0 sp true 22 v d p := by
  obtain ⟨fuel, hf⟩ := hd
  obtain ⟨a, len, cap, rfl⟩ := okWide_slice un22 hval
  have hf' : DataW.trod enc Tryd.prog W 0 (fun _ => true) true fuel 22 [.slice a len cap] = some (d, p) := hf
  rcases Go.Deep.open_strs un22 un9 ce9 hf' with ⟨hc, hx⟩ | ⟨a', len', cap', k, Sx, hc, _, hl, hm, hmm, hx, hall⟩
  · simp only [List.cons.injEq, and_true, Value.slice.injEq] at hc
    obtain ⟨rfl, rfl, rfl⟩ := hc
    simp only [Prod.mk.injEq] at hx
    obtain ⟨rfl, rfl⟩ := hx
    refine ⟨ρ, [], nilS, [], Map.le_refl _, by simpa using hR, by simpa using hro, .inl ⟨rfl, rfl⟩, by simp, by simp, .sliceNil, fun W' sp _ _ => ⟨1, ?_⟩⟩
    show DataW.trod enc Tryd.prog W' 0 sp true 1 22 [.slice none 0 0] = _
    unfold DataW.trod
    rw [un22]
    rfl
  · simp only [List.cons.injEq, and_true, Value.slice.injEq] at hc
    obtain ⟨rfl, rfl, rfl⟩ := hc
    simp only [if_true] at hmm
    subst hmm
    simp only [Prod.mk.injEq] at hx
    obtain ⟨rfl, rfl⟩ := hx
    simp only [Value.okWide, un22, Cell.okWide, Cell.ok] at hval
    obtain ⟨_, _, _, hspot, row, cells, hshape, hlies⟩ := hval
    obtain ⟨bk, off, spot⟩ := a'
    simp only at hspot hlies hshape
    subst hspot
    unfold World.shape? at hshape
    cases hheap : W.heap[bk]? with
    | none => rw [hheap] at hshape; simp at hshape
    | some o =>
      rw [hheap] at hshape
      cases o with
      | cells C T fz =>
        simp only [Option.some.injEq, Prod.mk.injEq] at hshape
        obtain ⟨rfl, rfl⟩ := hshape
        have hbk : bk ≠ 0 := fun e => by
          subst e
          have := h0 C T fz hheap
          subst this
          rw [lies9] at hlies
          simp at hlies
        have hcell : ∀ i, i < k → C[off + i]? = some (.string (Sx i)) := fun i hi => by
          have h := (hall i hi).1
          rw [addr_add] at h
          unfold World.cell? at h
          simp only [hheap] at h
          simpa using h
        have hoff : off ≤ C.size := by
          exact Nat.le_trans (lies_le_str un9 hlies) (Nat.div_mul_le_self _ _)
        have hcap : off + k ≤ C.size := by
          by_cases hk0 : k = 0
          · omega
          · have := (Array.getElem?_eq_some_iff.1 (hcell (k - 1) (by omega))).1
            omega
        let l : List ByteArray := (List.range len).map Sx
        have hll : l.length = len := by simp [l]
        obtain ⟨ρ', hle, hρ, hR', hro'⟩ := rel_addro (esz := 1) (off := off) hR hro hheap (l.map Value.string) hbk (by rw [List.length_map, hll]; omega) (fun j v hj => by
          rw [List.getElem?_map] at hj
          cases e : l[j]? with
          | none => rw [e] at hj; simp at hj
          | some s =>
            rw [e] at hj
            simp only [Option.map_some, Option.some.injEq] at hj
            subst hj
            have hjl : j < len := by have := (List.getElem?_eq_some_iff.1 e).1; omega
            have hs : s = Sx j := by
              simp only [l, List.getElem?_map, List.getElem?_range hjl, Option.map_some, Option.some.injEq] at e
              exact e.symm
            subst hs
            exact ⟨hcell j (by omega), fun _ => .string _⟩)
        refine ⟨ρ', _, sl m.length len, l, hle, hR', hro', .inr ⟨m.length, _, by rw [hll], List.getElem?_concat_length, rfl⟩, by rw [hll]; have : maxLen = 9223372036854775807 := rfl; omega, fun b hb => ?_, ?_, fun W' sp hS hsp => ?_⟩
        · obtain ⟨i, hi, rfl⟩ := List.mem_map.1 hb
          have := (hall i (by have := List.mem_range.1 hi; omega)).2
          have h2 : maxLen = 9223372036854775807 := rfl
          omega
        · exact .slice hρ (Nat.le_refl _) hl (fun h => by simp at h) (.inr rfl) (by show off + k * 1 ≤ C.size; omega)
        · show ∃ n, DataW.trod enc Tryd.prog W' 0 sp true n 22 [.slice (some ⟨bk, off, none⟩) len k] = _
          have q0 : ∀ i, i < k → W'.cell? ⟨bk, off + i, none⟩ = some (.string (Sx i)) := fun i hi => hS.cell (by have e := (hall i hi).1; rw [addr_add] at e; exact e)
          cases hb : sp bk with
          | true => exact Go.Deep.shut_strs_whole un22 un9 ce9 (Nat.zero_le _) hl hm hb Sx q0 (fun i hi => (hall i hi).2)
          | false =>
            have hm0 : k = 0 := by
              apply Classical.byContradiction
              intro hne
              have := hsp (.cell bk (off + 0)) (by
                simp only [MemPlace.row, List.mem_map, List.mem_range]
                exact ⟨0, by omega, rfl⟩)
              simp only [MemPlace.block] at this
              rw [hb] at this
              simp at this
            subst hm0
            have hl0 : len = 0 := by omega
            subst hl0
            exact Go.Deep.shut_strs un22 un9 ce9 (Nat.zero_le _) (Nat.le_refl _) hm hb Sx q0 (fun i hi => (hall i hi).2)
      | _ => simp at hshape
end Go.AM
