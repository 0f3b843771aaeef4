import Derived.ChangeStays
import Derived.Deep.DeepHandedRow
import Derived.Deep.Slices
import Derived.Deep.Strs
import Derived.JoinedCond
import Derived.KernelRfl
import Derived.LaidLaws
import Derived.Laws.BytesArg
import Derived.Laws.StructEq
import Derived.OpenShut
import Derived.ProofKit
import Derived.RangeFuncLeaves
import Derived.RangeFuncRecord
import Derived.RowKit
import Derived.Test.YtljhnbimlomdlaaGreatProg
import Derived.Test.YtljhnbimlomdlaaGreatRows
import Derived.WalkKit
import Derived.Test.YtljhnbimlomdlaaGreatAmB
import Derived.Test.YtljhnbimlomdlaaGreatAmG
import Derived.Test.YtljhnbimlomdlaaGreatAmModel
import Derived.Test.YtljhnbimlomdlaaGreatAmRel
import Derived.Test.YtljhnbimlomdlaaGreatAmOps6
import Derived.Test.YtljhnbimlomdlaaGreatAmCode
import Derived.Test.YtljhnbimlomdlaaGreatAmDraw5
import Derived.Test.YtljhnbimlomdlaaGreatAmEq
import Derived.Test.YtljhnbimlomdlaaGreatRBase
import Derived.Test.YtljhnbimlomdlaaGreatR31
import Derived.Test.YtljhnbimlomdlaaGreatR63
import Derived.Test.YtljhnbimlomdlaaGreatR93
import Derived.Test.YtljhnbimlomdlaaGreatAmS
import Derived.Test.YtljhnbimlomdlaaGreatSCD
import Derived.Test.YtljhnbimlomdlaaGreatS16a
import Derived.Test.YtljhnbimlomdlaaGreatS16b
import Derived.Test.YtljhnbimlomdlaaGreatS16
import Derived.Test.YtljhnbimlomdlaaGreatS17
import Derived.Test.YtljhnbimlomdlaaGreatWM1
import Derived.Test.YtljhnbimlomdlaaGreatWA
import Derived.Test.YtljhnbimlomdlaaGreatWH
import Derived.Test.YtljhnbimlomdlaaGreatWT
set_option linter.unusedVariables false
set_option linter.unusedSimpArgs false
set_option linter.unusedSectionVars false
namespace Go.AM
open Go Go.Proofs
open Go.ChangeShapes Go.WideShapes
section
variable {H : Type} {enc : TypeId × Value → H} {P : Program} {w : World} {base : Nat} {sp : Nat → Bool} {held : Bool}
/-- A struct of whole numbers, one cell each, that reads as some numbers holds them. -/
theorem ints_of_trod {k : IntKind} {ti e : TypeId} {fs : Array Field} {n : Nat} {cs : List Value} {x : DataW H × List MemPlace} (he : P.underlying e = some (.struct fs)) (hi : P.underlying ti = some (.int k)) (hci : P.cellsOf ti = 1) (hce : P.cellsOf e = fs.size)
    (hf : ∀ (j : Nat) (f : Field), fs[j]? = some f → f.type = ti ∧ f.offset = j) (h : DataW.trod enc P w base sp held n e cs = some x) :
    ∃ l : List Int, cs = l.map (Value.int k) ∧ x = (.agg (l.map fun z => .lit (.int k z)), []) ∧ l.length = fs.size ∧ ∀ z ∈ l, (Lit.int k z).wf = true := by
  obtain ⟨xs, m, _, rfl, hl, hlen, hg⟩ := DataW.trod_struct he h
  have key : ∀ j, j < fs.size → ∃ z, cs[j]? = some (.int k z) ∧ xs[j]? = some (.lit (.int k z), []) ∧ (Lit.int k z).wf = true := by
    intro j hj
    have e1 : fs[j]? = some fs[j] := by simp [hj]
    obtain ⟨h1, h2⟩ := hf j _ e1
    have h3 := hg j _ e1
    rw [h1, h2, hci] at h3
    have hjx : j < xs.length := by omega
    have e2 : xs[j]? = some xs[j] := by simp [hjx]
    rw [e2] at h3
    obtain ⟨z, c1, c2, c3⟩ := DataW.trod_int hi h3
    refine ⟨z, ?_, by rw [e2, c2], c3⟩
    have := congrArg (·[0]?) c1
    simpa [List.getElem?_take, List.getElem?_drop] using this
  let l : List Int := cs.map fun v => match v with
    | .int _ z => z
    | _ => 0
  have hll : l.length = fs.size := by simp only [l, List.length_map]; omega
  have hz : ∀ (j : Nat) (z : Int), cs[j]? = some (Value.int k z) → l[j]? = some z := fun j z hc => by simp [l, hc]
  refine ⟨l, ?_, ?_, hll, fun z hz' => ?_⟩
  · refine List.ext_getElem? fun j => ?_
    by_cases hj : j < fs.size
    · obtain ⟨z, a, _, _⟩ := key j hj
      rw [a, List.getElem?_map, hz j z a]; rfl
    · rw [List.getElem?_eq_none (by omega), List.getElem?_eq_none (by simp; omega)]
  · have hx : xs = l.map fun z => (DataW.lit (.int k z), []) := by
      refine List.ext_getElem? fun j => ?_
      by_cases hj : j < fs.size
      · obtain ⟨z, a, b, _⟩ := key j hj
        rw [b, List.getElem?_map, hz j z a]; rfl
      · rw [List.getElem?_eq_none (by omega), List.getElem?_eq_none (by simp; omega)]
    subst hx
    have h2 : ((l.map fun z => ((DataW.lit (.int k z), []) : DataW H × List MemPlace)).flatMap (·.2)) = [] := by
      rw [List.flatMap_eq_nil_iff]
      intro y hy
      obtain ⟨z, _, rfl⟩ := List.mem_map.1 hy
      rfl
    rw [h2, List.map_map]
    rfl
  · obtain ⟨j, hj, rfl⟩ := List.mem_iff_getElem.1 hz'
    obtain ⟨z, a, _, c⟩ := key j (by omega)
    have := hz j z a
    rw [List.getElem?_eq_getElem hj] at this
    rw [Option.some.inj this]
    exact c
end
def fieldsIn (fs : Array Field) (ti : TypeId) : Bool := (List.range fs.size).all fun j => match fs[j]? with
  | some f => f.type == ti && f.offset == j
  | none => false
theorem fieldsIn_of {fs : Array Field} {ti : TypeId} (h : fieldsIn fs ti = true) : ∀ (j : Nat) (f : Field), fs[j]? = some f → f.type = ti ∧ f.offset = j := by
  intro j f hj
  have hlt : j < fs.size := (Array.getElem?_eq_some_iff.1 hj).1
  have := List.all_eq_true.1 h j (List.mem_range.2 hlt)
  rw [hj] at this
  simpa using this
theorem addr_add (bk off n : Nat) : (⟨bk, off, none⟩ : Addr).add n = ⟨bk, off + n, none⟩ := by
  unfold Addr.add
  split
  · rename_i h
    simp_all
  · rfl
def Same (W W' : World) : Prop := ∀ b, b < W.heap.size → W'.heap[b]? = W.heap[b]?
/-- What is there stays as it is. -/
def Stays (W w' : World) : Prop := W.keptBut w' (fun _ => False) ∧ ∀ a, a.block < W.heap.size → w'.frozen? a = W.frozen? a
theorem glob0 (W : World) : Glob (fun _ => none) W := ⟨fun g l h => by simp [glook, gtabs] at h, fun g l h => by simp [glook, gtabs] at h⟩
theorem post_of_stays {H : Type} {enc : TypeId × Value → H} {P : Program} {f : Func} {s : ChangeSpec} {apart fresh handsOn again : Bool} {W W' : World} {args : Array Value} {v : Value} {ds gs : List (DataW H)} {before pa pv : List MemPlace}
    (hW : DataW.Whole enc P f.params.toList s.vars apart W args.toList ds gs before)
    (hres : ∀ (b : Nat) (sp : Nat → Bool) (hd : Bool), DataW.TrodAll enc P W' b sp hd f.resultTypes.toList (v.resultList f.resultTypes.size) (s.fn H (ds ++ gs)).results [])
    (hargs : ∀ sp : Nat → Bool, (∀ p ∈ before, sp p.block = true) → DataW.TrodAll enc P W' 0 sp true f.params.toList args.toList (s.fn H (ds ++ gs)).args pa)
    (hvars : ∀ sp : Nat → Bool, (∀ p ∈ before, sp p.block = true) → DataW.TrodVars enc P W' sp s.vars (s.fn H (ds ++ gs)).vars pv)
    (hps : before = pa ++ pv) (hk : W.keptBut W' (· ∈ before)) (hfz : ∀ a, a.block < W.heap.size → W'.frozen? a = W.frozen? a)
    (hok : ∀ (j : Nat) (t : TypeId) (r : Value), f.resultTypes[j]? = some t → (v.resultList f.resultTypes.size)[j]? = some r → Value.okWide P W' .any 0 t r) :
    s.post enc P f apart fresh handsOn again W args v W' := by
  have hlt : ∀ p ∈ before, p.block < W.heap.size := fun p hp => hW.lt p hp
  have hold : ∀ p ∈ before, (fun b => decide (b < W.heap.size)) p.block = true := fun p hp => by simpa using hlt p hp
  refine ⟨ds, gs, before, [], pa, pv, hW, hres _ _ _, hargs _ hold, hvars _ hold, World.keptBut_mono (fun p hp => ⟨hp, ?_⟩) hk, fun _ => ?_⟩
  · rw [hps, List.mem_append] at hp
    exact Or.inr hp
  · obtain ⟨_, _, _, _, _, hz, hn⟩ := hW
    refine ⟨hok, _, _, ([] ++ pa) ++ pv, ⟨[] ++ pa, pv, trodAll_append (hargs _ (fun _ _ => rfl)) (hres _ _ _), hvars _ (fun _ _ => rfl), rfl, ?_, ?_⟩, ?_⟩
    · intro b off hp
      have hp' : MemPlace.cell b off ∈ before := by rw [hps]; simpa using hp
      rw [hfz _ (hlt _ hp')]
      exact hz b off hp'
    · intro ha
      have := hn ha
      rw [hps] at this
      simpa using this
    · intro p hp _
      rw [hps]
      simpa using hp
theorem stays_same {ρ ρ' : Map} {n : Nat} {W w' : World} (hd : ∀ r l, ρ r = some l → r < n) (h : Ext n ρ ρ' W w') : Stays W w' ∧ ∀ b, b < W.heap.size → w'.heap[b]? = W.heap[b]? := by
  have hf : ∀ b, b < W.heap.size → w'.heap[b]? = W.heap[b]? := fun b hb => h.frame b hb fun r l hr hn => by
    have := hd r l hr
    omega
  refine ⟨⟨⟨h.os, h.output, fun i hi => ?_⟩, fun a ha => ?_⟩, hf⟩
  · rw [hf i hi]
    cases W.heap[i]? with
    | none => rfl
    | some o => cases o with
      | cells c t fr => exact ⟨rfl, rfl, rfl, fun _ _ => rfl⟩
      | map es clock => exact .inr ⟨rfl, rfl⟩
      | _ => rfl
  · unfold World.frozen?
    rw [hf a.block ha]
theorem kids : Kids Tryz.prog (· < Tryz.prog.types.size) := kids_rows (by kernel_rfl) (by kernel_rfl)
theorem rowsPos : ((List.range Tryz.prog.types.size).all fun t => match Tryz.prog.underlying t with
  | some (.slice e) => decide (0 < Tryz.prog.cellsOf e)
  | _ => true) = true := by kernel_rfl
theorem slicePos {t e : TypeId} (h : t < Tryz.prog.types.size) (hu : Tryz.prog.underlying t = some (.slice e)) : 0 < Tryz.prog.cellsOf e := by
  have := List.all_eq_true.1 rowsPos t (List.mem_range.2 h)
  rw [hu] at this
  simpa using this
/-- What was read reads the same afterwards. -/
theorem trod_back {H : Type} {enc : TypeId × Value → H} {W W' : World} {t : TypeId} {v : Value} {d : DataW H} {p : List MemPlace} (ht : t < Tryz.prog.types.size) (h : DataW.Trod enc Tryz.prog W 0 (fun _ => true) true t v d p) (hS : Same W W') (hlt : ∀ q ∈ p, q.block < W.heap.size) {sp : Nat → Bool} (hsp : ∀ q ∈ p, sp q.block = true) :
    DataW.Trod enc Tryz.prog W' 0 sp true t v d p := by
  obtain ⟨fuel, hf⟩ := h
  refine ⟨fuel, DataW.trod_stays kids slicePos (fun h => by simp at h) ht hf (fun q hq => ?_) hsp⟩
  have hb := hS q.block (hlt q hq)
  cases q with
  | cell b off =>
    simp only [MemPlace.block] at hb
    show W'.cell? ⟨b, off, none⟩ = W.cell? ⟨b, off, none⟩
    unfold World.cell?
    rw [hb]
  | map b => exact hb
theorem trodAll_back {H : Type} {enc : TypeId × Value → H} {W W' : World} (hS : Same W W') {sp : Nat → Bool} : ∀ {ts : List TypeId} {vs : List Value} {ds : List (DataW H)} {p : List MemPlace}, (∀ t ∈ ts, t < Tryz.prog.types.size) → DataW.TrodAll enc Tryz.prog W 0 (fun _ => true) true ts vs ds p → (∀ q ∈ p, q.block < W.heap.size) → (∀ q ∈ p, sp q.block = true) →
    DataW.TrodAll enc Tryz.prog W' 0 sp true ts vs ds p
  | [], _, _, _, _, h, _, _ => by
    obtain ⟨rfl, rfl, rfl⟩ := trodAll_nil h
    exact trodAll_mk0
  | t :: ts, _, _, _, ht, h, hlt, hsp => by
    obtain ⟨v, vs1, d, ds1, a, b, rfl, rfl, rfl, h1, h2⟩ := trodAll_cons h
    exact trodAll_cons_mk (trod_back (ht t (by simp)) h1 hS (fun q hq => hlt q (by simp [hq])) (fun q hq => hsp q (by simp [hq]))) (trodAll_back hS (fun t' h' => ht t' (by simp [h'])) h2 (fun q hq => hlt q (by simp [hq])) (fun q hq => hsp q (by simp [hq])))
theorem rel_addro {ρ : Map} {m : M} {W : World} (hR : Rel ρ m W) (hro : ∀ row ∈ m, row.ro = true) {bk off esz : Nat} {C : Array Value} {T : TypeId} {fz : _} (hheap : W.heap[bk]? = some (.cells C T fz)) (cells : List Value) (hsz : off + cells.length ≤ C.size)
    (hc : ∀ j v, cells[j]? = some v → ∃ v', C[off + j]? = some v' ∧ VRel ρ v v') :
    ∃ ρ' : Map, ρ.le ρ' ∧ ρ' m.length = some ⟨bk, off, C.size, esz, false, false⟩ ∧ Rel ρ' (m ++ [{ esz := esz, ex := false, ro := true, cells := cells }]) W ∧ ∀ row ∈ (m ++ [{ esz := esz, ex := false, ro := true, cells := cells }] : M), row.ro = true := by
  have hnone : ρ m.length = none := by
    cases e : ρ m.length with
    | none => rfl
    | some l => have := hR.dom _ _ e; omega
  let ρ' : Map := fun r => if r = m.length then some ⟨bk, off, C.size, esz, false, false⟩ else ρ r
  have hle : ρ.le ρ' := by
    intro r l hr
    have : r ≠ m.length := by intro e; subst e; rw [hnone] at hr; simp at hr
    simp [ρ', this, hr]
  have hro' : ∀ row ∈ (m ++ [{ esz := esz, ex := false, ro := true, cells := cells }] : M), row.ro = true := by
    intro row h
    rcases List.mem_append.1 h with h | h
    · exact hro row h
    · simp only [List.mem_singleton] at h
      subst h; rfl
  have cs : ∀ r l, ρ' r = some l → (r = m.length ∧ l = ⟨bk, off, C.size, esz, false, false⟩) ∨ (r ≠ m.length ∧ ρ r = some l) := by
    intro r l h
    by_cases e : r = m.length
    · simp only [ρ', if_pos e, Option.some.injEq] at h
      exact .inl ⟨e, h.symm⟩
    · simp only [ρ', if_neg e] at h
      exact .inr ⟨e, h⟩
  refine ⟨ρ', hle, by simp [ρ'], ⟨fun r l h => ?_, fun r l row h hr => ?_, fun r r' l l' row row' h h' hne hr hr' hf => ?_, fun r r' l l' h h' hne hk hk' => ?_, ?_⟩, hro'⟩
  · rcases cs r l h with ⟨rfl, _⟩ | ⟨_, h⟩
    · simp
    · have := hR.dom r l h
      simp; omega
  · rcases cs r l h with ⟨rfl, rfl⟩ | ⟨hne, h⟩
    · simp only [List.getElem?_concat_length, Option.some.injEq] at hr
      subst hr
      refine ⟨fun _ => ⟨rfl, rfl, C, T, fz, hheap, rfl, hsz, fun h => by simp at h, fun j v hj => ?_⟩, fun h => by simp at h⟩
      obtain ⟨v', h1, h2⟩ := hc j v hj
      exact ⟨v', h1, h2.mono hle⟩
    · have hlt := hR.dom r l h
      rw [List.getElem?_append_left hlt] at hr
      exact (hR.row' r l row h hr).mono hle rfl
  · have := hro' row (List.mem_of_getElem? hr)
    rw [this] at hf
    simp at hf
  · rcases cs r l h with ⟨_, rfl⟩ | ⟨_, h⟩
    · simp at hk
    · rcases cs r' l' h' with ⟨_, rfl⟩ | ⟨_, h'⟩
      · simp at hk'
      · exact hR.lsep r r' l l' h h' hne hk hk'
  · exact ⟨fun g k hg => by simp [glook, gtabs] at hg, fun g k hg => by simp [glook, gtabs] at hg⟩
theorem flat_cell {α : Type} {f : α → List Value} {z : Nat} (hl : ∀ a, (f a).length = z) : ∀ (l : List α) (j : Nat) (h : j < l.length), ((l.flatMap f).drop (j * z)).take z = f l[j]
  | a :: l, 0, _ => by
    rw [Nat.zero_mul, List.drop_zero, List.flatMap_cons, List.take_append_of_le_length (by rw [hl]; exact Nat.le_refl _)]
    exact List.take_of_length_le (by rw [hl]; exact Nat.le_refl _)
  | a :: l, j + 1, h => by
    have e : (j + 1) * z = (f a).length + j * z := by rw [hl, Nat.add_mul]; omega
    rw [List.flatMap_cons, e, List.drop_append]
    rw [List.drop_eq_nil_of_le (by omega), List.nil_append, Nat.add_sub_cancel_left]
    simpa using flat_cell hl l j (by simpa using h)
theorem flat_len {α : Type} {f : α → List Value} {z : Nat} (hl : ∀ a, (f a).length = z) (l : List α) : (l.flatMap f).length = l.length * z := by
  induction l with
  | nil => simp
  | cons a l ih => rw [List.flatMap_cons, List.length_append, hl, ih, List.length_cons, Nat.add_mul]; omega
theorem flat_get {α : Type} {f : α → List Value} {z : Nat} (hl : ∀ a, (f a).length = z) (l : List α) (q : Nat) (v : Value) (hv : (l.flatMap f)[q]? = some v) : ∃ j k, ∃ h : j < l.length, k < z ∧ q = j * z + k ∧ (f l[j])[k]? = some v := by
  have hq : q < l.length * z := by
    rw [← flat_len hl]
    exact (List.getElem?_eq_some_iff.1 hv).1
  have hz : 0 < z := by
    rcases Nat.eq_zero_or_pos z with h | h
    · subst h; simp at hq
    · exact h
  have hj : q / z < l.length := (Nat.div_lt_iff_lt_mul hz).2 hq
  have hk : q % z < z := Nat.mod_lt _ hz
  have e : q / z * z + q % z = q := by rw [Nat.mul_comm]; exact Nat.div_add_mod q z
  refine ⟨q / z, q % z, hj, hk, e.symm, ?_⟩
  rw [← flat_cell hl l _ hj, List.getElem?_take, if_pos hk, List.getElem?_drop, e, hv]
/-- An argument that is a slice of things without addresses. -/
theorem openFlat {H : Type} {enc : TypeId × Value → H} {W : World} {t e : TypeId} {z : Nat} (ht : Tryz.prog.underlying t = some (.slice e)) (ce : Tryz.prog.cellsOf e = z) (hz : 0 < z) {α : Type} [Inhabited α] (f : α → List Value) (hl : ∀ a, (f a).length = z) (hs : ∀ a v, v ∈ f a → ∀ ρ : Map, VRel ρ v v)
    (hQ : ∀ n cs x, DataW.trod enc Tryz.prog W 0 (fun _ => true) true n e cs = some x → ∃ a, cs = f a) {ρ : Map} {m : M} (hR : Rel ρ m W) (hro : ∀ row ∈ m, row.ro = true) {fuel : Nat} {v : Value} {x : DataW H × List MemPlace} (h : DataW.trod enc Tryz.prog W 0 (fun _ => true) true fuel t [v] = some x) :
    ∃ (ρ' : Map) (ext : M) (xv : Value) (l : List α), ρ.le ρ' ∧ Rel ρ' (m ++ ext) W ∧ (∀ row ∈ (m ++ ext : M), row.ro = true) ∧ VRel ρ' xv v ∧ ((l = [] ∧ (xv = nilS ∨ xv = emS)) ∨ ∃ p row, xv = slo p 0 l.length l.length ∧ (m ++ ext)[p]? = some row ∧ row.esz = z ∧ row.cells = l.flatMap f) := by
  rcases Go.Deep.open_slice ht h with ⟨hc, hx⟩ | ⟨a, len, cap, k, n, D, Pl, hc, _, hlen, _, hmm, hx, hall⟩
  · simp only [List.cons.injEq, and_true] at hc
    subst hc
    exact ⟨ρ, [], nilS, [], Map.le_refl _, by simpa using hR, by simpa using hro, .sliceNil, .inl ⟨rfl, .inl rfl⟩⟩
  · simp only [List.cons.injEq, and_true] at hc
    subst hc
    simp only [if_true] at hmm
    subst hmm
    by_cases hk0 : k = 0
    · subst hk0
      obtain rfl : len = 0 := by omega
      exact ⟨ρ, [], emS, [], Map.le_refl _, by simpa using hR, by simpa using hro, .sliceE, .inl ⟨rfl, .inr rfl⟩⟩
    · have h0 := hall 0 (by omega)
      obtain ⟨cs0, c0, _⟩ := h0
      rw [ce] at c0
      obtain ⟨_, hl0, hcell0⟩ := World.cells?_some c0
      have hc00 := hcell0 0 (by omega)
      rw [Nat.zero_mul] at hc00
      have hspot : a.spot = none ∧ ∃ C T fz, W.heap[a.block]? = some (.cells C T fz) := by
        have e1 : (a.add 0).add 0 = a := by simp [Addr.add]
        rw [e1] at hc00
        unfold World.cell? at hc00
        have hpos : 0 < cs0.length := by omega
        cases hh : W.heap[a.block]? with
        | none => rw [hh] at hc00; simp [hpos] at hc00
        | some o =>
          rw [hh] at hc00
          cases o with
          | cells C T fz =>
            simp only at hc00
            split at hc00
            · simp [hpos] at hc00
            · rename_i hs
              exact ⟨by simpa using hs, C, T, fz, rfl⟩
          | _ => simp [hpos] at hc00
      obtain ⟨bk, off, spot⟩ := a
      obtain ⟨hsp, C, T, fz, hheap⟩ := hspot
      simp only at hsp hheap
      subst hsp
      have each : ∀ i, i < k → ∃ b : α, ∀ q, q < z → C[off + i * z + q]? = (f b)[q]? := fun i hi => by
        obtain ⟨cs', c1, c2⟩ := hall i hi
        obtain ⟨b, rfl⟩ := hQ _ _ _ c2
        rw [ce] at c1
        obtain ⟨_, _, hcell⟩ := World.cells?_some c1
        refine ⟨b, fun q hq => ?_⟩
        have := hcell q hq
        rw [addr_add, addr_add] at this
        unfold World.cell? at this
        simp only [hheap] at this
        simpa using this
      obtain ⟨g, hg⟩ := Go.Deep.choose_lt each
      have hcap : off + k * z ≤ C.size := by
        have h1 := hg (k - 1) (by omega) (z - 1) (by omega)
        have h2 : (f (g (k - 1)))[z - 1]? = some ((f (g (k - 1)))[z - 1]'(by rw [hl]; omega)) := List.getElem?_eq_getElem _
        rw [h2] at h1
        have h3 := (Array.getElem?_eq_some_iff.1 h1).1
        have h4 : (k - 1 + 1) * z = (k - 1) * z + z := Nat.add_one_mul _ _
        rw [show k - 1 + 1 = k by omega] at h4
        omega
      let l : List α := (List.range len).map g
      have hll : l.length = len := by simp [l]
      have hlz : len * z ≤ k * z := Nat.mul_le_mul_right _ hlen
      obtain ⟨ρ', hle, hρ, hR', hro'⟩ := rel_addro (esz := z) (off := off) hR hro hheap (l.flatMap f) (by rw [flat_len hl, hll]; omega) (fun j v hj => by
        obtain ⟨i, q, hi, hq, rfl, hv⟩ := flat_get hl l j v hj
        have e : l[i] = g i := by simp [l]
        rw [e] at hv
        refine ⟨v, ?_, hs _ v (List.mem_of_getElem? hv) ρ⟩
        rw [← Nat.add_assoc, hg i (by omega) q hq, hv])
      refine ⟨ρ', _, slo m.length 0 l.length l.length, l, hle, hR', hro', ?_, .inr ⟨m.length, _, rfl, List.getElem?_concat_length, rfl, rfl⟩⟩
      rw [hll]
      exact .slice hρ (Nat.le_refl _) hlen (fun h => by simp at h) (.inr rfl) hcap rfl
theorem un22 : Tryz.prog.underlying 22 = some (.slice 9) := by kernel_rfl
theorem un9 : Tryz.prog.underlying 9 = some .string := by kernel_rfl
theorem un23 : Tryz.prog.underlying 23 = some (.slice 34) := by kernel_rfl
theorem un24 : Tryz.prog.underlying 24 = some (.slice 3) := by kernel_rfl
theorem un34 : Tryz.prog.underlying 34 = some (.slice 68) := by kernel_rfl
theorem un68 : Tryz.prog.underlying 68 = some (.struct (Tryz.prog.fieldsOf 68)) := by kernel_rfl
theorem un4 : Tryz.prog.underlying 4 = some .bool := by kernel_rfl
theorem ce3 : Tryz.prog.cellsOf 3 = 1 := by kernel_rfl
theorem ce9 : Tryz.prog.cellsOf 9 = 1 := by kernel_rfl
theorem ce24 : Tryz.prog.cellsOf 24 = 1 := by kernel_rfl
theorem ce34 : Tryz.prog.cellsOf 34 = 1 := by kernel_rfl
theorem ce68 : Tryz.prog.cellsOf 68 = (Tryz.prog.fieldsOf 68).size := by kernel_rfl
theorem ce68' : Tryz.prog.cellsOf 68 = 2 := by kernel_rfl
theorem sz68 : (Tryz.prog.fieldsOf 68).size = 2 := by kernel_rfl
theorem fi68 : fieldsIn (Tryz.prog.fieldsOf 68) 3 = true := by kernel_rfl
theorem flat1 {α : Type} (f : α → Value) (l : List α) : l.flatMap (fun z => [f z]) = l.map f := by
  induction l with
  | nil => rfl
  | cons a l ih => rw [List.flatMap_cons, ih]; rfl
theorem openIntsC {H : Type} {enc : TypeId × Value → H} {W : World} {ρ : Map} {m : M} (hR : Rel ρ m W) (hro : ∀ row ∈ m, row.ro = true) {fuel : Nat} {v : Value} {x : DataW H × List MemPlace} (h : DataW.trod enc Tryz.prog W 0 (fun _ => true) true fuel 24 [v] = some x) :
    ∃ (ρ' : Map) (ext : M) (xv : Value) (l : List Int), ρ.le ρ' ∧ Rel ρ' (m ++ ext) W ∧ (∀ row ∈ (m ++ ext : M), row.ro = true) ∧ VRel ρ' xv v ∧ Ints (m ++ ext) xv l := by
  obtain ⟨ρ', ext, xv, l, h1, h2, h3, h4, h5⟩ := openFlat un24 ce3 (by omega) (fun z => [vi z]) (fun _ => rfl) (fun a v hv ρ => by simp only [List.mem_singleton] at hv; subst hv; exact .int _ _) (fun n cs x hx => by
    obtain ⟨z, hz, _⟩ := DataW.trod_int u3 hx
    exact ⟨z, hz⟩) hR hro h
  refine ⟨ρ', ext, xv, l, h1, h2, h3, h4, ?_⟩
  rcases h5 with h5 | ⟨p, row, e1, e2, e3, e4⟩
  · exact .inl h5
  · have e5 : row.cells = l.map vi := e4.trans (flat1 vi l)
    exact .inr ⟨p, l.length, row, e1, Nat.le_refl _, e2, e3, fun j hj => by unfold atInt; rw [e5]; simp [hj]⟩
theorem openStrsC {H : Type} {enc : TypeId × Value → H} {W : World} {ρ : Map} {m : M} (hR : Rel ρ m W) (hro : ∀ row ∈ m, row.ro = true) {fuel : Nat} {v : Value} {x : DataW H × List MemPlace} (h : DataW.trod enc Tryz.prog W 0 (fun _ => true) true fuel 22 [v] = some x) :
    ∃ (ρ' : Map) (ext : M) (xv : Value) (l : List ByteArray), ρ.le ρ' ∧ Rel ρ' (m ++ ext) W ∧ (∀ row ∈ (m ++ ext : M), row.ro = true) ∧ VRel ρ' xv v ∧ Strs (m ++ ext) xv l := by
  obtain ⟨ρ', ext, xv, l, h1, h2, h3, h4, h5⟩ := openFlat un22 ce9 (by omega) (fun z => [.string z]) (fun _ => rfl) (fun a v hv ρ => by simp only [List.mem_singleton] at hv; subst hv; exact .string _) (fun n cs x hx => by
    obtain ⟨z, hz, _⟩ := DataW.trod_string un9 hx
    exact ⟨z, hz⟩) hR hro h
  refine ⟨ρ', ext, xv, l, h1, h2, h3, h4, ?_⟩
  rcases h5 with h5 | ⟨p, row, e1, e2, e3, e4⟩
  · exact .inl h5
  · have e5 : row.cells = l.map Value.string := e4.trans (flat1 Value.string l)
    exact .inr ⟨p, l.length, row, e1, Nat.le_refl _, e2, e3, fun j hj => by unfold atStr; rw [e5]; simp [hj]⟩
theorem openCelsC34 {H : Type} {enc : TypeId × Value → H} {W : World} {ρ : Map} {m : M} (hR : Rel ρ m W) (hro : ∀ row ∈ m, row.ro = true) {fuel : Nat} {v : Value} {x : DataW H × List MemPlace} (h : DataW.trod enc Tryz.prog W 0 (fun _ => true) true fuel 34 [v] = some x) :
    ∃ (ρ' : Map) (ext : M) (xv : Value) (l : List Cel), ρ.le ρ' ∧ Rel ρ' (m ++ ext) W ∧ (∀ row ∈ (m ++ ext : M), row.ro = true) ∧ VRel ρ' xv v ∧ Cels (m ++ ext) xv l := by
  obtain ⟨ρ', ext, xv, l, h1, h2, h3, h4, h5⟩ := openFlat un34 ce68' (by omega) (fun c : Cel => [vi c.1, vi c.2]) (fun _ => rfl) (fun a v hv ρ => by
    simp only [List.mem_cons, List.not_mem_nil, or_false] at hv
    rcases hv with rfl | rfl <;> exact .int _ _) (fun n cs x hx => by
    obtain ⟨l, e1, _, e3, _⟩ := ints_of_trod un68 u3 ce3 ce68 (fieldsIn_of fi68) hx
    rw [sz68] at e3
    match l, e3 with
    | [a, b], _ => exact ⟨(a, b), e1⟩) hR hro h
  refine ⟨ρ', ext, xv, l, h1, h2, h3, h4, ?_⟩
  rcases h5 with h5 | ⟨p, row, e1, e2, e3, e4⟩
  · exact .inl h5
  · exact .inr ⟨p, l.length, row, e1, Nat.le_refl _, e2, e3, fun j hj => by
      have := clI_get l j hj
      unfold atCel
      rw [e4]
      exact this⟩
theorem openTilsC {H : Type} {enc : TypeId × Value → H} {W : World} {ρ : Map} {m : M} (hR : Rel ρ m W) (hro : ∀ row ∈ m, row.ro = true) {fuel : Nat} {v : Value} {x : DataW H × List MemPlace} (h : DataW.trod enc Tryz.prog W 0 (fun _ => true) true fuel 23 [v] = some x) :
    ∃ (ρ' : Map) (ext : M) (xv : Value) (l : List (List Cel)), ρ.le ρ' ∧ Rel ρ' (m ++ ext) W ∧ (∀ row ∈ (m ++ ext : M), row.ro = true) ∧ VRel ρ' xv v ∧ Tils (m ++ ext) xv l := by
  rcases Go.Deep.open_slice1 un23 ce34 h with ⟨hc, hx⟩ | ⟨a, len, cap, k, n, V, D, Pl, hc, _, hlen, _, hmm, hx, hall⟩
  · simp only [List.cons.injEq, and_true] at hc
    subst hc
    exact ⟨ρ, [], nilS, [], Map.le_refl _, by simpa using hR, by simpa using hro, .sliceNil, .inl ⟨rfl, .inl rfl⟩⟩
  · simp only [List.cons.injEq, and_true] at hc
    subst hc
    simp only [if_true] at hmm
    subst hmm
    by_cases hk0 : k = 0
    · subst hk0
      obtain rfl : len = 0 := by omega
      exact ⟨ρ, [], emS, [], Map.le_refl _, by simpa using hR, by simpa using hro, .sliceE, .inl ⟨rfl, .inr rfl⟩⟩
    · have hc00 := (hall 0 (by omega)).1
      have hspot : a.spot = none ∧ ∃ C T fz, W.heap[a.block]? = some (.cells C T fz) := by
        have e1 : a.add 0 = a := by simp [Addr.add]
        rw [e1] at hc00
        unfold World.cell? at hc00
        cases hh : W.heap[a.block]? with
        | none => rw [hh] at hc00; simp at hc00
        | some o =>
          rw [hh] at hc00
          cases o with
          | cells C T fz =>
            simp only at hc00
            split at hc00
            · simp at hc00
            · rename_i hs
              exact ⟨by simpa using hs, C, T, fz, rfl⟩
          | _ => simp at hc00
      obtain ⟨bk, off, spot⟩ := a
      obtain ⟨hsp, C, T, fz, hheap⟩ := hspot
      simp only at hsp hheap
      subst hsp
      have hcell : ∀ i, i < k → C[off + i]? = some (V i) := fun i hi => by
        have := (hall i hi).1
        rw [addr_add] at this
        unfold World.cell? at this
        simp only [hheap] at this
        simpa using this
      have many : ∀ q, q ≤ len → ∃ (ρ' : Map) (ext : M) (us : List Value) (l : List (List Cel)), ρ.le ρ' ∧ Rel ρ' (m ++ ext) W ∧ (∀ row ∈ (m ++ ext : M), row.ro = true) ∧ us.length = q ∧ l.length = q ∧ ∀ i, ∀ h1 : i < us.length, ∀ h2 : i < l.length, VRel ρ' us[i] (V i) ∧ Cels (m ++ ext) us[i] l[i] := by
        intro q
        induction q with
        | zero => exact fun _ => ⟨ρ, [], [], [], Map.le_refl _, by simpa using hR, by simpa using hro, rfl, rfl, fun i h => by simp at h⟩
        | succ q ih =>
          intro hq
          obtain ⟨ρ1, ext1, us, l, a1, a2, a3, a4, a5, a6⟩ := ih (by omega)
          obtain ⟨ρ2, ext2, u, r, b1, b2, b3, b4, b5⟩ := openCelsC34 a2 a3 (hall q (by omega)).2
          rw [List.append_assoc] at b2 b3 b5
          refine ⟨ρ2, ext1 ++ ext2, us ++ [u], l ++ [r], Map.le_trans a1 b1, b2, b3, by simp [a4], by simp [a5], fun i h1 h2 => ?_⟩
          by_cases hi : i < q
          · rw [List.getElem_append_left (by omega), List.getElem_append_left (by omega)]
            obtain ⟨c1, c2⟩ := a6 i (by omega) (by omega)
            refine ⟨c1.mono b1, ?_⟩
            rw [← List.append_assoc]
            exact c2.app ext2
          · have hi : i = q := by simp at h1; omega
            subst hi
            have e1 : (us ++ [u])[i] = u := by rw [List.getElem_append_right (by omega)]; simp [a4]
            have e2 : (l ++ [r])[i] = r := by rw [List.getElem_append_right (by omega)]; simp [a5]
            rw [e1, e2]
            exact ⟨b4, b5⟩
      obtain ⟨ρ1, ext1, us, l, a1, a2, a3, a4, a5, a6⟩ := many len (Nat.le_refl _)
      have hcap : off + k ≤ C.size := by
        have := (Array.getElem?_eq_some_iff.1 (hcell (k - 1) (by omega))).1
        omega
      obtain ⟨ρ', hle, hρ, hR', hro'⟩ := rel_addro (esz := 1) (off := off) a2 a3 hheap us (by omega) (fun j v hj => by
        have hjl : j < us.length := (List.getElem?_eq_some_iff.1 hj).1
        rw [List.getElem?_eq_getElem hjl] at hj
        simp only [Option.some.injEq] at hj
        subst hj
        exact ⟨V j, hcell j (by omega), (a6 j hjl (by omega)).1⟩)
      rw [List.append_assoc] at hR' hro'
      refine ⟨ρ', _, slo (m ++ ext1).length 0 l.length l.length, l, Map.le_trans a1 hle, hR', hro', ?_, .inr ⟨(m ++ ext1).length, l.length, { esz := 1, ex := false, ro := true, cells := us }, rfl, Nat.le_refl _, by rw [← List.append_assoc]; exact List.getElem?_concat_length, rfl, fun j hj => ?_⟩⟩
      · rw [a5]
        exact .slice hρ (Nat.le_refl _) hlen (fun h => by simp at h) (.inr rfl) (by show off + k * 1 ≤ C.size; omega) rfl
      · refine ⟨us[j]'(by omega), List.getElem?_eq_getElem _, ?_⟩
        rw [← List.append_assoc]
        exact ((a6 j (by omega) hj).2).app _
noncomputable def fld (t : TypeId) (i : Nat) : Field := match (Tryz.prog.fieldsOf t)[i]? with
  | some f => f
  | none => { name := "", type := 0, embedded := false, tag := "", pkgPath := "", offset := 0, byteOffset := 0 }
theorem un26 : Tryz.prog.underlying 26 = some (.struct #[fld 26 0, fld 26 1]) := by kernel_rfl
theorem ce26 : Tryz.prog.cellsOf 26 = 2 := by kernel_rfl
theorem of26 : (fld 26 0).offset = 0 ∧ (fld 26 1).offset = 1 := ⟨by kernel_rfl, by kernel_rfl⟩
theorem ty26 : (fld 26 0).type = 24 ∧ (fld 26 1).type = 3 := ⟨by kernel_rfl, by kernel_rfl⟩
section
variable {H : Type} {enc : TypeId × Value → H} {W : World} {b0 : Nat} {v : Value} {d : DataW H} {p : List MemPlace} {ρ : Map} {m : M} (hR : Rel ρ m W) (hro : ∀ row ∈ m, row.ro = true)
include hR hro
set_option maxRecDepth 100000
theorem openStrs (hval : Value.okWide Tryz.prog W .any b0 22 v) (hd : DataW.Trod enc Tryz.prog W 0 (fun _ => true) true 22 v d p) :
    ∃ (ρ' : Map) (ext : M) (xv : Value) (l : List ByteArray), ρ.le ρ' ∧ Rel ρ' (m ++ ext) W ∧ (∀ row ∈ (m ++ ext : M), row.ro = true) ∧ VRel ρ' xv v ∧ Strs (m ++ ext) xv l := by
  obtain ⟨fuel, hf⟩ := hd
  obtain ⟨a, len, cap, rfl⟩ := okWide_slice un22 hval
  exact openStrsC hR hro hf
theorem openTils (hval : Value.okWide Tryz.prog W .any b0 23 v) (hd : DataW.Trod enc Tryz.prog W 0 (fun _ => true) true 23 v d p) :
    ∃ (ρ' : Map) (ext : M) (xv : Value) (l : List (List Cel)), ρ.le ρ' ∧ Rel ρ' (m ++ ext) W ∧ (∀ row ∈ (m ++ ext : M), row.ro = true) ∧ VRel ρ' xv v ∧ Tils (m ++ ext) xv l := by
  obtain ⟨fuel, hf⟩ := hd
  obtain ⟨a, len, cap, rfl⟩ := okWide_slice un23 hval
  exact openTilsC hR hro hf
theorem openWeights (hval : Value.okWide Tryz.prog W .any b0 26 v) (hd : DataW.Trod enc Tryz.prog W 0 (fun _ => true) true 26 v d p) :
    ∃ (ρ' : Map) (ext : M) (xv : Value) (l : List Int × Int), ρ.le ρ' ∧ Rel ρ' (m ++ ext) W ∧ (∀ row ∈ (m ++ ext : M), row.ro = true) ∧ VRel ρ' xv v ∧ ∃ vn, xv = wV vn l.2 ∧ Ints (m ++ ext) vn l.1 := by
  obtain ⟨cs, rfl, hsz⟩ := okWide_struct un26 hval
  obtain ⟨fuel, hf⟩ := hd
  have hf' : DataW.trod enc Tryz.prog W 0 (fun _ => true) true fuel 26 cs.toList = some (d, p) := hf
  obtain ⟨y0, y1, n, _, hl, g0, g1⟩ := trod_struct2 un26 hf'
  rw [ce26] at hl
  obtain ⟨a, b, hab⟩ : ∃ a b, cs.toList = [a, b] := by
    match h : cs.toList, hl with
    | [a, b], _ => exact ⟨a, b, rfl⟩
  rw [hab, of26.1, ty26.1, ce24] at g0
  rw [hab, of26.2, ty26.2, ce3] at g1
  obtain ⟨z, c0, _⟩ := DataW.trod_int u3 (show DataW.trod enc Tryz.prog W 0 (fun _ => true) true n 3 [b] = some y1 from g1)
  simp only [List.cons.injEq, and_true] at c0
  subst c0
  obtain ⟨ρ', ext, xv, l, h1, h2, h3, h4, h5⟩ := openIntsC hR hro (show DataW.trod enc Tryz.prog W 0 (fun _ => true) true n 24 [a] = some y0 from g0)
  obtain rfl : cs = [a, Value.int .i64 z].toArray := by apply Array.ext'; simpa using hab
  exact ⟨ρ', ext, wV xv z, (l, z), h1, h2, h3, vrel_agg (x := [xv, vi z]) (LRel.cons h4 (LRel.cons (.int _ _) (LRel.nil _))), xv, rfl, h5⟩
end
end Go.AM
