import Derived.ChangeStays
import Derived.Deep.DeepHandedRow
import Derived.Deep.Slices
import Derived.JoinedCond
import Derived.KernelRfl
import Derived.LaidLaws
import Derived.Laws.BytesArg
import Derived.Laws.StructEq
import Derived.OpenShut
import Derived.ProofKit
import Derived.RowKit
import Derived.Scope
import Derived.Test.YtdkbpahldfgphaaRows
import Derived.WalkKit
import Derived.Test.YtdkbpahldfgphaaAmB
import Derived.Test.YtdkbpahldfgphaaAmModel
import Derived.Test.YtdkbpahldfgphaaAmOps5
import Derived.Test.YtdkbpahldfgphaaAmOps6
import Derived.Test.YtdkbpahldfgphaaAmCode
import Derived.Test.YtdkbpahldfgphaaAmX
import Derived.Test.YtdkbpahldfgphaaAmEq
import Derived.Test.YtdkbpahldfgphaaRBase
import Derived.Test.YtdkbpahldfgphaaR29
import Derived.Test.YtdkbpahldfgphaaAmS
import Derived.Test.YtdkbpahldfgphaaS16
import Derived.Test.YtdkbpahldfgphaaWd
import Derived.Test.YtdkbpahldfgphaaYC
import Derived.Test.YtdkbpahldfgphaaZV
set_option linter.unusedVariables false
set_option linter.unusedSimpArgs false
set_option linter.unusedSectionVars false
set_option linter.unusedVariables false
set_option linter.unusedSimpArgs false
set_option linter.unusedSectionVars false
namespace Go.AM
open Go Go.Proofs
open Go.ChangeShapes Go.WideShapes
section
variable {H : Type} {enc : TypeId × Value → H} {P : Program} {w : World} {base : Nat} {sp : Nat → Bool} {held : Bool}
/-- A struct of whole numbers, one cell each, that reads as some numbers holds them. -/
theorem ints_of_trod {k : IntKind} {ti e : TypeId} {fs : Array Field} {n : Nat} {cs : List Value} {x : DataW H × List MemPlace} (he : P.underlying e = some (.struct fs)) (hi : P.underlying ti = some (.int k)) (hci : P.cellsOf ti = 1) (hce : P.cellsOf e = fs.size)
    (hf : ∀ (j : Nat) (f : Field), fs[j]? = some f → f.type = ti ∧ f.offset = j) (h : DataW.trod enc P w base sp held n e cs = some x) :
    ∃ l : List Int, cs = l.map (Value.int k) ∧ x = (.agg (l.map fun z => .lit (.int k z)), []) ∧ l.length = fs.size ∧ ∀ z ∈ l, (Lit.int k z).wf = true := by
  obtain ⟨xs, m, _, rfl, hl, hlen, hg⟩ := DataW.trod_struct he h
  have key : ∀ j, j < fs.size → ∃ z, cs[j]? = some (.int k z) ∧ xs[j]? = some (.lit (.int k z), []) ∧ (Lit.int k z).wf = true := by
    intro j hj
    have e1 : fs[j]? = some fs[j] := by simp [hj]
    obtain ⟨h1, h2⟩ := hf j _ e1
    have h3 := hg j _ e1
    rw [h1, h2, hci] at h3
    have hjx : j < xs.length := by omega
    have e2 : xs[j]? = some xs[j] := by simp [hjx]
    rw [e2] at h3
    obtain ⟨z, c1, c2, c3⟩ := DataW.trod_int hi h3
    refine ⟨z, ?_, by rw [e2, c2], c3⟩
    have := congrArg (·[0]?) c1
    simpa [List.getElem?_take, List.getElem?_drop] using this
  let l : List Int := cs.map fun v => match v with
    | .int _ z => z
    | _ => 0
  have hll : l.length = fs.size := by simp only [l, List.length_map]; omega
  have hz : ∀ (j : Nat) (z : Int), cs[j]? = some (Value.int k z) → l[j]? = some z := fun j z hc => by simp [l, hc]
  refine ⟨l, ?_, ?_, hll, fun z hz' => ?_⟩
  · refine List.ext_getElem? fun j => ?_
    by_cases hj : j < fs.size
    · obtain ⟨z, a, _, _⟩ := key j hj
      rw [a, List.getElem?_map, hz j z a]; rfl
    · rw [List.getElem?_eq_none (by omega), List.getElem?_eq_none (by simp; omega)]
  · have hx : xs = l.map fun z => (DataW.lit (.int k z), []) := by
      refine List.ext_getElem? fun j => ?_
      by_cases hj : j < fs.size
      · obtain ⟨z, a, b, _⟩ := key j hj
        rw [b, List.getElem?_map, hz j z a]; rfl
      · rw [List.getElem?_eq_none (by omega), List.getElem?_eq_none (by simp; omega)]
    subst hx
    have h2 : ((l.map fun z => ((DataW.lit (.int k z), []) : DataW H × List MemPlace)).flatMap (·.2)) = [] := by
      rw [List.flatMap_eq_nil_iff]
      intro y hy
      obtain ⟨z, _, rfl⟩ := List.mem_map.1 hy
      rfl
    rw [h2, List.map_map]
    rfl
  · obtain ⟨j, hj, rfl⟩ := List.mem_iff_getElem.1 hz'
    obtain ⟨z, a, _, c⟩ := key j (by omega)
    have := hz j z a
    rw [List.getElem?_eq_getElem hj] at this
    rw [Option.some.inj this]
    exact c
end
def fieldsIn (fs : Array Field) (ti : TypeId) : Bool := (List.range fs.size).all fun j => match fs[j]? with
  | some f => f.type == ti && f.offset == j
  | none => false
theorem fieldsIn_of {fs : Array Field} {ti : TypeId} (h : fieldsIn fs ti = true) : ∀ (j : Nat) (f : Field), fs[j]? = some f → f.type = ti ∧ f.offset = j := by
  intro j f hj
  have hlt : j < fs.size := (Array.getElem?_eq_some_iff.1 hj).1
  have := List.all_eq_true.1 h j (List.mem_range.2 hlt)
  rw [hj] at this
  simpa using this
theorem addr_add (bk off n : Nat) : (⟨bk, off, none⟩ : Addr).add n = ⟨bk, off + n, none⟩ := by
  unfold Addr.add
  split
  · rename_i h
    simp_all
  · rfl
def Same (W W' : World) : Prop := ∀ b, b < W.heap.size → W'.heap[b]? = W.heap[b]?
theorem post_of_stays {H : Type} {enc : TypeId × Value → H} {P : Program} {f : Func} {s : ChangeSpec} {apart fresh handsOn again : Bool} {W W' : World} {args : Array Value} {v : Value} {ds gs : List (DataW H)} {before pa pv : List MemPlace}
    (hW : DataW.Whole enc P f.params.toList s.vars apart W args.toList ds gs before)
    (hres : ∀ (b : Nat) (sp : Nat → Bool) (hd : Bool), DataW.TrodAll enc P W' b sp hd f.resultTypes.toList (v.resultList f.resultTypes.size) (s.fn H (ds ++ gs)).results [])
    (hargs : ∀ sp : Nat → Bool, (∀ p ∈ before, sp p.block = true) → DataW.TrodAll enc P W' 0 sp true f.params.toList args.toList (s.fn H (ds ++ gs)).args pa)
    (hvars : ∀ sp : Nat → Bool, (∀ p ∈ before, sp p.block = true) → DataW.TrodVars enc P W' sp s.vars (s.fn H (ds ++ gs)).vars pv)
    (hps : before = pa ++ pv) (hk : W.keptBut W' (· ∈ before)) (hfz : ∀ a, a.block < W.heap.size → W'.frozen? a = W.frozen? a)
    (hok : ∀ (j : Nat) (t : TypeId) (r : Value), f.resultTypes[j]? = some t → (v.resultList f.resultTypes.size)[j]? = some r → Value.okWide P W' .any 0 t r) :
    s.post enc P f apart fresh handsOn again W args v W' := by
  have hlt : ∀ p ∈ before, p.block < W.heap.size := fun p hp => hW.lt p hp
  have hold : ∀ p ∈ before, (fun b => decide (b < W.heap.size)) p.block = true := fun p hp => by simpa using hlt p hp
  refine ⟨ds, gs, before, [], pa, pv, hW, hres _ _ _, hargs _ hold, hvars _ hold, World.keptBut_mono (fun p hp => ⟨hp, ?_⟩) hk, fun _ => ?_⟩
  · rw [hps, List.mem_append] at hp
    exact Or.inr hp
  · obtain ⟨_, _, _, _, _, hz, hn⟩ := hW
    refine ⟨hok, _, _, ([] ++ pa) ++ pv, ⟨[] ++ pa, pv, trodAll_append (hargs _ (fun _ _ => rfl)) (hres _ _ _), hvars _ (fun _ _ => rfl), rfl, ?_, ?_⟩, ?_⟩
    · intro b off hp
      have hp' : MemPlace.cell b off ∈ before := by rw [hps]; simpa using hp
      rw [hfz _ (hlt _ hp')]
      exact hz b off hp'
    · intro ha
      have := hn ha
      rw [hps] at this
      simpa using this
    · intro p hp _
      rw [hps]
      simpa using hp
theorem kids : Kids Try.prog (· < Try.prog.types.size) := kids_rows (by kernel_rfl) (by kernel_rfl)
theorem rowsPos : ((List.range Try.prog.types.size).all fun t => match Try.prog.underlying t with
  | some (.slice e) => decide (0 < Try.prog.cellsOf e)
  | _ => true) = true := by kernel_rfl
theorem slicePos {t e : TypeId} (h : t < Try.prog.types.size) (hu : Try.prog.underlying t = some (.slice e)) : 0 < Try.prog.cellsOf e := by
  have := List.all_eq_true.1 rowsPos t (List.mem_range.2 h)
  rw [hu] at this
  simpa using this
/-- What was read reads the same afterwards. -/
theorem trod_back {H : Type} {enc : TypeId × Value → H} {W W' : World} {t : TypeId} {v : Value} {d : DataW H} {p : List MemPlace} (ht : t < Try.prog.types.size) (h : DataW.Trod enc Try.prog W 0 (fun _ => true) true t v d p) (hS : Same W W') (hlt : ∀ q ∈ p, q.block < W.heap.size) {sp : Nat → Bool} (hsp : ∀ q ∈ p, sp q.block = true) :
    DataW.Trod enc Try.prog W' 0 sp true t v d p := by
  obtain ⟨fuel, hf⟩ := h
  refine ⟨fuel, DataW.trod_stays kids slicePos (fun h => by simp at h) ht hf (fun q hq => ?_) hsp⟩
  have hb := hS q.block (hlt q hq)
  cases q with
  | cell b off =>
    simp only [MemPlace.block] at hb
    show W'.cell? ⟨b, off, none⟩ = W.cell? ⟨b, off, none⟩
    unfold World.cell?
    rw [hb]
  | map b => exact hb
theorem trodAll_back {H : Type} {enc : TypeId × Value → H} {W W' : World} (hS : Same W W') {sp : Nat → Bool} : ∀ {ts : List TypeId} {vs : List Value} {ds : List (DataW H)} {p : List MemPlace}, (∀ t ∈ ts, t < Try.prog.types.size) → DataW.TrodAll enc Try.prog W 0 (fun _ => true) true ts vs ds p → (∀ q ∈ p, q.block < W.heap.size) → (∀ q ∈ p, sp q.block = true) →
    DataW.TrodAll enc Try.prog W' 0 sp true ts vs ds p
  | [], _, _, _, _, h, _, _ => by
    obtain ⟨rfl, rfl, rfl⟩ := trodAll_nil h
    exact trodAll_mk0
  | t :: ts, _, _, _, ht, h, hlt, hsp => by
    obtain ⟨v, vs1, d, ds1, a, b, rfl, rfl, rfl, h1, h2⟩ := trodAll_cons h
    exact trodAll_cons_mk (trod_back (ht t (by simp)) h1 hS (fun q hq => hlt q (by simp [hq])) (fun q hq => hsp q (by simp [hq]))) (trodAll_back hS (fun t' h' => ht t' (by simp [h'])) h2 (fun q hq => hlt q (by simp [hq])) (fun q hq => hsp q (by simp [hq])))
theorem rel_addro {ρ : Map} {m : M} {W : World} (hR : Rel ρ m W) (hro : ∀ row ∈ m, row.ro = true) {bk off esz : Nat} {C : Array Value} {T : TypeId} {fz : _} (hheap : W.heap[bk]? = some (.cells C T fz)) (cells : List Value) (hsz : off + cells.length ≤ C.size)
    (hc : ∀ j v, cells[j]? = some v → ∃ v', C[off + j]? = some v' ∧ VRel ρ v v') :
    ∃ ρ' : Map, ρ.le ρ' ∧ ρ' m.length = some ⟨bk, off, C.size, esz, false⟩ ∧ Rel ρ' (m ++ [{ esz := esz, ex := false, ro := true, cells := cells }]) W ∧ ∀ row ∈ (m ++ [{ esz := esz, ex := false, ro := true, cells := cells }] : M), row.ro = true := by
  have hnone : ρ m.length = none := by
    cases e : ρ m.length with
    | none => rfl
    | some l => have := hR.dom _ _ e; omega
  let ρ' : Map := fun r => if r = m.length then some ⟨bk, off, C.size, esz, false⟩ else ρ r
  have hle : ρ.le ρ' := by
    intro r l hr
    have : r ≠ m.length := by intro e; subst e; rw [hnone] at hr; simp at hr
    simp [ρ', this, hr]
  have hro' : ∀ row ∈ (m ++ [{ esz := esz, ex := false, ro := true, cells := cells }] : M), row.ro = true := by
    intro row h
    rcases List.mem_append.1 h with h | h
    · exact hro row h
    · simp only [List.mem_singleton] at h
      subst h; rfl
  have cs : ∀ r l, ρ' r = some l → (r = m.length ∧ l = ⟨bk, off, C.size, esz, false⟩) ∨ (r ≠ m.length ∧ ρ r = some l) := by
    intro r l h
    by_cases e : r = m.length
    · simp only [ρ', if_pos e, Option.some.injEq] at h
      exact .inl ⟨e, h.symm⟩
    · simp only [ρ', if_neg e] at h
      exact .inr ⟨e, h⟩
  refine ⟨ρ', hle, by simp [ρ'], ⟨fun r l h => ?_, fun r l row h hr => ?_, fun r r' l l' row row' h h' hne hr hr' hf => ?_, ?_⟩, hro'⟩
  · rcases cs r l h with ⟨rfl, _⟩ | ⟨_, h⟩
    · simp
    · have := hR.dom r l h
      simp; omega
  · rcases cs r l h with ⟨rfl, rfl⟩ | ⟨hne, h⟩
    · simp only [List.getElem?_concat_length, Option.some.injEq] at hr
      subst hr
      refine ⟨rfl, rfl, C, T, fz, hheap, rfl, hsz, fun h => by simp at h, fun j v hj => ?_⟩
      obtain ⟨v', h1, h2⟩ := hc j v hj
      exact ⟨v', h1, h2.mono hle⟩
    · have hlt := hR.dom r l h
      rw [List.getElem?_append_left hlt] at hr
      obtain ⟨h1, h2, C', T', fz', h3, h4, h5, h6, h7⟩ := hR.row r l row h hr
      refine ⟨h1, h2, C', T', fz', h3, h4, h5, h6, fun j v hj => ?_⟩
      obtain ⟨v', h8, h9⟩ := h7 j v hj
      exact ⟨v', h8, h9.mono hle⟩
  · have := hro' row (List.mem_of_getElem? hr)
    rw [this] at hf
    simp at hf
  · exact ⟨fun g k hg => by simp [glook, gtabs] at hg, fun g k hg => by simp [glook, gtabs] at hg⟩
theorem flat_cell {α : Type} {f : α → List Value} {z : Nat} (hl : ∀ a, (f a).length = z) : ∀ (l : List α) (j : Nat) (h : j < l.length), ((l.flatMap f).drop (j * z)).take z = f l[j]
  | a :: l, 0, _ => by
    rw [Nat.zero_mul, List.drop_zero, List.flatMap_cons, List.take_append_of_le_length (by rw [hl]; exact Nat.le_refl _)]
    exact List.take_of_length_le (by rw [hl]; exact Nat.le_refl _)
  | a :: l, j + 1, h => by
    have e : (j + 1) * z = (f a).length + j * z := by rw [hl, Nat.add_mul]; omega
    rw [List.flatMap_cons, e, List.drop_append]
    rw [List.drop_eq_nil_of_le (by omega), List.nil_append, Nat.add_sub_cancel_left]
    simpa using flat_cell hl l j (by simpa using h)
theorem flat_len {α : Type} {f : α → List Value} {z : Nat} (hl : ∀ a, (f a).length = z) (l : List α) : (l.flatMap f).length = l.length * z := by
  induction l with
  | nil => simp
  | cons a l ih => rw [List.flatMap_cons, List.length_append, hl, ih, List.length_cons, Nat.add_mul]; omega
theorem flat_get {α : Type} {f : α → List Value} {z : Nat} (hl : ∀ a, (f a).length = z) (l : List α) (q : Nat) (v : Value) (hv : (l.flatMap f)[q]? = some v) : ∃ j k, ∃ h : j < l.length, k < z ∧ q = j * z + k ∧ (f l[j])[k]? = some v := by
  have hq : q < l.length * z := by
    rw [← flat_len hl]
    exact (List.getElem?_eq_some_iff.1 hv).1
  have hz : 0 < z := by
    rcases Nat.eq_zero_or_pos z with h | h
    · subst h; simp at hq
    · exact h
  have hj : q / z < l.length := (Nat.div_lt_iff_lt_mul hz).2 hq
  have hk : q % z < z := Nat.mod_lt _ hz
  have e : q / z * z + q % z = q := by rw [Nat.mul_comm]; exact Nat.div_add_mod q z
  refine ⟨q / z, q % z, hj, hk, e.symm, ?_⟩
  rw [← flat_cell hl l _ hj, List.getElem?_take, if_pos hk, List.getElem?_drop, e, hv]
/-- An argument that is a slice of things without addresses. -/
theorem openFlat {H : Type} {enc : TypeId × Value → H} {W : World} {t e : TypeId} {z : Nat} (ht : Try.prog.underlying t = some (.slice e)) (ce : Try.prog.cellsOf e = z) (hz : 0 < z) {α : Type} [Inhabited α] (f : α → List Value) (hl : ∀ a, (f a).length = z) (hs : ∀ a v, v ∈ f a → ∀ ρ : Map, VRel ρ v v)
    (hQ : ∀ n cs x, DataW.trod enc Try.prog W 0 (fun _ => true) true n e cs = some x → ∃ a, cs = f a) {ρ : Map} {m : M} (hR : Rel ρ m W) (hro : ∀ row ∈ m, row.ro = true) {fuel : Nat} {v : Value} {x : DataW H × List MemPlace} (h : DataW.trod enc Try.prog W 0 (fun _ => true) true fuel t [v] = some x) :
    ∃ (ρ' : Map) (ext : M) (xv : Value) (l : List α), ρ.le ρ' ∧ Rel ρ' (m ++ ext) W ∧ (∀ row ∈ (m ++ ext : M), row.ro = true) ∧ VRel ρ' xv v ∧ ((l = [] ∧ (xv = nilS ∨ xv = emS)) ∨ ∃ p row, xv = slo p 0 l.length l.length ∧ (m ++ ext)[p]? = some row ∧ row.esz = z ∧ row.cells = l.flatMap f) := by
  rcases Go.Deep.open_slice ht h with ⟨hc, hx⟩ | ⟨a, len, cap, k, n, D, Pl, hc, _, hlen, _, hmm, hx, hall⟩
  · simp only [List.cons.injEq, and_true] at hc
    subst hc
    exact ⟨ρ, [], nilS, [], Map.le_refl _, by simpa using hR, by simpa using hro, .sliceNil, .inl ⟨rfl, .inl rfl⟩⟩
  · simp only [List.cons.injEq, and_true] at hc
    subst hc
    simp only [if_true] at hmm
    subst hmm
    by_cases hk0 : k = 0
    · subst hk0
      obtain rfl : len = 0 := by omega
      exact ⟨ρ, [], emS, [], Map.le_refl _, by simpa using hR, by simpa using hro, .sliceE, .inl ⟨rfl, .inr rfl⟩⟩
    · have h0 := hall 0 (by omega)
      obtain ⟨cs0, c0, _⟩ := h0
      rw [ce] at c0
      obtain ⟨_, hl0, hcell0⟩ := World.cells?_some c0
      have hc00 := hcell0 0 (by omega)
      rw [Nat.zero_mul] at hc00
      have hspot : a.spot = none ∧ ∃ C T fz, W.heap[a.block]? = some (.cells C T fz) := by
        have e1 : (a.add 0).add 0 = a := by simp [Addr.add]
        rw [e1] at hc00
        unfold World.cell? at hc00
        have hpos : 0 < cs0.length := by omega
        cases hh : W.heap[a.block]? with
        | none => rw [hh] at hc00; simp [hpos] at hc00
        | some o =>
          rw [hh] at hc00
          cases o with
          | cells C T fz =>
            simp only at hc00
            split at hc00
            · simp [hpos] at hc00
            · rename_i hs
              exact ⟨by simpa using hs, C, T, fz, rfl⟩
          | _ => simp [hpos] at hc00
      obtain ⟨bk, off, spot⟩ := a
      obtain ⟨hsp, C, T, fz, hheap⟩ := hspot
      simp only at hsp hheap
      subst hsp
      have each : ∀ i, i < k → ∃ b : α, ∀ q, q < z → C[off + i * z + q]? = (f b)[q]? := fun i hi => by
        obtain ⟨cs', c1, c2⟩ := hall i hi
        obtain ⟨b, rfl⟩ := hQ _ _ _ c2
        rw [ce] at c1
        obtain ⟨_, _, hcell⟩ := World.cells?_some c1
        refine ⟨b, fun q hq => ?_⟩
        have := hcell q hq
        rw [addr_add, addr_add] at this
        unfold World.cell? at this
        simp only [hheap] at this
        simpa using this
      obtain ⟨g, hg⟩ := Go.Deep.choose_lt each
      have hcap : off + k * z ≤ C.size := by
        have h1 := hg (k - 1) (by omega) (z - 1) (by omega)
        have h2 : (f (g (k - 1)))[z - 1]? = some ((f (g (k - 1)))[z - 1]'(by rw [hl]; omega)) := List.getElem?_eq_getElem _
        rw [h2] at h1
        have h3 := (Array.getElem?_eq_some_iff.1 h1).1
        have h4 : (k - 1 + 1) * z = (k - 1) * z + z := Nat.add_one_mul _ _
        rw [show k - 1 + 1 = k by omega] at h4
        omega
      let l : List α := (List.range len).map g
      have hll : l.length = len := by simp [l]
      have hlz : len * z ≤ k * z := Nat.mul_le_mul_right _ hlen
      obtain ⟨ρ', hle, hρ, hR', hro'⟩ := rel_addro (esz := z) (off := off) hR hro hheap (l.flatMap f) (by rw [flat_len hl, hll]; omega) (fun j v hj => by
        obtain ⟨i, q, hi, hq, rfl, hv⟩ := flat_get hl l j v hj
        have e : l[i] = g i := by simp [l]
        rw [e] at hv
        refine ⟨v, ?_, hs _ v (List.mem_of_getElem? hv) ρ⟩
        rw [← Nat.add_assoc, hg i (by omega) q hq, hv])
      refine ⟨ρ', _, slo m.length 0 l.length l.length, l, hle, hR', hro', ?_, .inr ⟨m.length, _, rfl, List.getElem?_concat_length, rfl, rfl⟩⟩
      rw [hll]
      exact .slice hρ (Nat.le_refl _) hlen (fun h => by simp at h) (.inr rfl) hcap
theorem un22 : Try.prog.underlying 22 = some (.slice 35) := by kernel_rfl
theorem ce3 : Try.prog.cellsOf 3 = 1 := by kernel_rfl
theorem un45 : Try.prog.underlying 35 = some (.struct (Try.prog.fieldsOf 35)) := by kernel_rfl
theorem ce45 : Try.prog.cellsOf 35 = (Try.prog.fieldsOf 35).size := by kernel_rfl
theorem sz45 : (Try.prog.fieldsOf 35).size = 4 := by kernel_rfl
theorem fi45 : fieldsIn (Try.prog.fieldsOf 35) 3 = true := by kernel_rfl
theorem openTilesC {H : Type} {enc : TypeId × Value → H} {W : World} {ρ : Map} {m : M} (hR : Rel ρ m W) (hro : ∀ row ∈ m, row.ro = true) {fuel : Nat} {v : Value} {x : DataW H × List MemPlace} (h : DataW.trod enc Try.prog W 0 (fun _ => true) true fuel 22 [v] = some x) :
    ∃ (ρ' : Map) (ext : M) (xv : Value) (l : List Wg), ρ.le ρ' ∧ Rel ρ' (m ++ ext) W ∧ (∀ row ∈ (m ++ ext : M), row.ro = true) ∧ VRel ρ' xv v ∧ Tiles (m ++ ext) xv l := by
  obtain ⟨ρ', ext, xv, l, h1, h2, h3, h4, h5⟩ := openFlat un22 (ce45.trans sz45) (by omega) tC (fun _ => rfl) (fun a v hv ρ => by
    simp only [List.mem_cons, List.not_mem_nil, or_false] at hv
    rcases hv with rfl | rfl | rfl | rfl <;> exact .int _ _) (fun n cs x hx => by
    obtain ⟨l, e1, _, e3, _⟩ := ints_of_trod un45 u3 ce3 ce45 (fieldsIn_of fi45) hx
    rw [sz45] at e3
    match l, e3 with
    | [a, b, c, d], _ => exact ⟨(a, b, c, d), e1⟩) hR hro h
  refine ⟨ρ', ext, xv, l, h1, h2, h3, h4, ?_⟩
  rcases h5 with h5 | ⟨p, row, e1, e2, e3, e4⟩
  · exact .inl h5
  · exact .inr ⟨p, 0, l.length, row, e1, Nat.le_refl _, e2, e3, by rw [e4, flat_len (z := 4) (fun _ => rfl)]; omega, fun j hj => by rw [e4, Nat.zero_add]; exact flat_cell (f := tC) (z := 4) (fun _ => rfl) l j hj⟩
section
variable {H : Type} {enc : TypeId × Value → H} {W : World} {b0 : Nat} {v : Value} {d : DataW H} {p : List MemPlace} {ρ : Map} {m : M} (hR : Rel ρ m W) (hro : ∀ row ∈ m, row.ro = true)
include hR hro
set_option maxRecDepth 100000
theorem openTiles (hval : Value.okWide Try.prog W .any b0 22 v) (hd : DataW.Trod enc Try.prog W 0 (fun _ => true) true 22 v d p) :
    ∃ (ρ' : Map) (ext : M) (xv : Value) (l : List Wg), ρ.le ρ' ∧ Rel ρ' (m ++ ext) W ∧ (∀ row ∈ (m ++ ext : M), row.ro = true) ∧ VRel ρ' xv v ∧ Tiles (m ++ ext) xv l := by
  obtain ⟨fuel, hf⟩ := hd
  obtain ⟨a, len, cap, rfl⟩ := okWide_slice un22 hval
  exact openTilesC hR hro hf
end
end Go.AM
namespace Go.AM
open Go Go.Proofs
theorem r19_L2_s (call : CallF) (fuel base : Nat) (kp : Value → M → Res2) (kx0 : Value → Value → M → Res2) (kx2 : Value → Value → Value → Value → M → Res2) (n : Nat) (x0 x4 x5 x6 x7 : Value) (m : M) : r19_L2 call fuel base kp kx0 kx2 (n + 1) x0 x4 x5 x6 x7 m =
    (k1n (mbin E .leq 3 x7 (.int .i64 4)) fun v14_2 => (kb v14_2 (k1n (mbin E .quo 3 x6 x7) fun v19_3 => (k1n (mbin E .mul 3 v19_3 x7) fun v22_4 => (k1n (mbin E .eql 3 v22_4 x6) fun v24_5 => (kb v24_5 (kc (call base 33 [v19_3] m) (fun v27_6 m => (kb v27_6 (kc (call base 22 [x0, x7] m) (fun v32_7 m => (kc (call base 25 [v32_7, v19_3] m) (fun v34_8 m => (k1n (mbin E .gtr 3 v34_8 (.int .i64 0)) fun v35_9 => (kb v35_9 (kx0 x7 v19_3 m) (k1n (mbin E .add 3 x7 (.int .i64 1)) fun v16_10 => (r19_L2 call fuel base kp kx0 kx2 n x0 x4 x5 x6 v16_10 m))))) (fun v m => kp v m))) (fun v m => kp v m)) (k1n (mbin E .add 3 x7 (.int .i64 1)) fun v16_11 => (r19_L2 call fuel base kp kx0 kx2 n x0 x4 x5 x6 v16_11 m)))) (fun v m => kp v m)) (k1n (mbin E .add 3 x7 (.int .i64 1)) fun v16_12 => (r19_L2 call fuel base kp kx0 kx2 n x0 x4 x5 x6 v16_12 m)))))) (kx2 x0 x4 x5 x6 m))) := by
  unfold r19_L2
  rw [k1_fun]
theorem r19_L0_s (call : CallF) (fuel base : Nat) (kp : Value → M → Res2) (kx0 : Value → Value → M → Res2) (n : Nat) (x0 x4 x5 x6 : Value) (m : M) : r19_L0 call fuel base kp kx0 (n + 1) x0 x4 x5 x6 m =
    (k1n (mbin E .leq 3 x6 (.int .i64 16)) fun v10_1 => (kb v10_1 (r19_L2 call fuel base (fun v m => kp v m) (fun y4_13 y5_14 m => (kx0 y4_13 y5_14 m)) (fun y0_15 y4_16 y5_17 y6_18 m => (k1n (mbin E .add 3 y6_18 (.int .i64 1)) fun v12_19 => (r19_L0 call fuel base kp kx0 n y0_15 y4_16 y5_17 v12_19 m))) fuel x0 x4 x5 x6 (.int .i64 1) m) (kx0 x4 x5 m))) := by
  unfold r19_L0
  rw [k1_fun]
theorem ex30 (a b c : Value) : mextract 0 (.tuple #[a, b, c]) = some a := by kernel_rfl
theorem ex31 (a b c : Value) : mextract 1 (.tuple #[a, b, c]) = some b := by kernel_rfl
theorem ex32 (a b c : Value) : mextract 2 (.tuple #[a, b, c]) = some c := by kernel_rfl
theorem neqI (a b : Int) : mbin E .neq 3 (vi a) (vi b) = some (.bool (!decide (a = b))) := by
  have e : mbin E .neq 3 (vi a) (vi b) = some (.bool (!(a == b))) := by kernel_rfl
  rw [e]; congr 2
theorem eqlE (a b : Int) : mbin E .eql 25 (vi a) (vi b) = some (.bool (decide (a = b))) := by
  have e : mbin E .eql 25 (vi a) (vi b) = some (.bool (a == b)) := by kernel_rfl
  rw [e]; congr 2
theorem quoC (c w : Nat) (hw : 0 < w) (hc : c ≤ 1000) : mbin E .quo 3 (vi c) (vi w) = some (vi ((c / w : Nat) : Int)) := by
  have h1 : c / w ≤ c := Nat.div_le_self c w
  have e : (c : Int).tdiv w = ((c / w : Nat) : Int) := rfl
  rw [quo3 _ _ (by omega), e]
  generalize c / w = q at h1
  rw [wr_id (by omega) (by omega)]
theorem mulC (a b : Nat) (h : a * b ≤ 1000) : mbin E .mul 3 (vi a) (vi b) = some (vi ((a * b : Nat) : Int)) := by
  have e : (a : Int) * b = ((a * b : Nat) : Int) := by simp
  rw [mul3, e]
  generalize a * b = q at h
  rw [wr_id (by omega) (by omega)]
/-- Whether there is a closed board of w by c / w cells. -/
def goodB (l : List Wg) (c w : Nat) : Bool := decide (c % w = 0) && (decide (c / w ≤ 4) && decide (0 < closF w (bandL l w) (c / w)))
/-- The first width, from w on, of a closed board of c cells. -/
def srW (l : List Wg) (c : Nat) : Nat → Nat → Option Nat
  | 0, _ => none
  | k + 1, w => if goodB l c w then some w else srW l c k (w + 1)
/-- The first measures, from c cells on. -/
def srO (l : List Wg) : Nat → Nat → Option (Nat × Nat)
  | 0, _ => none
  | k + 1, c => match srW l c 4 1 with
    | some u => some (u, c / u)
    | none => srO l k (c + 1)
def sel (o : Option Nat) (f : Nat → Res2) (g : Res2) : Res2 := match o with
  | some u => f u
  | none => g
def prO : Option (Nat × Nat) → Nat × Nat
  | some p => p
  | none => (0, 0)
theorem tk_of {l : List Wg} (hS : isS l = true) {w h : Nat} (h1 : 1 ≤ w) (h2 : w ≤ 4) (h3 : 1 ≤ h) (h4 : h ≤ 4) : isTk l w h = true := by
  unfold isTk sizeOk
  rw [hS]
  simp only [Bool.true_and, Bool.and_eq_true, decide_eq_true_eq]
  omega
theorem div_facts {c w : Nat} (h1 : 1 ≤ c) (hw : 1 ≤ w) (hm : c % w = 0) : 1 ≤ c / w ∧ c / w * w = c := by
  have := Nat.div_add_mod c w
  rw [hm, Nat.add_zero] at this
  have h2 : c / w * w = c := by rw [Nat.mul_comm]; exact this
  refine ⟨?_, h2⟩
  rcases Nat.eq_zero_or_pos (c / w) with h | h
  · rw [h, Nat.zero_mul] at h2; omega
  · exact h
theorem loop19w (n0 base : Nat) (hn0 : 70000 ≤ n0) {m0 : M} (hbb : base ≤ m0.length) {v0 : Value} {l : List Wg} (hT : Tiles m0 v0 l) (hS : isS l = true) (kp : Value → M → Res2) (kx0 : Value → Value → M → Res2) (kx2 : Value → Value → Value → Value → M → Res2) (fuel : Nat) (x4 x5 : Value) {c : Nat} (hc1 : 1 ≤ c) (hc : c ≤ 16) :
    ∀ (n w : Nat) (m : M), Keeps m0.length m0 m → 1 ≤ w → w ≤ 5 → 5 < n + w → ∃ m', Keeps m0.length m0 m' ∧
      r19_L2 (rt (n0 + 5)) fuel base kp kx0 kx2 n v0 x4 x5 (vi c) (vi w) m = sel (srW l c (5 - w) w) (fun u => kx0 (vi u) (vi ((c / u : Nat) : Int)) m') (kx2 v0 x4 x5 (vi c) m')
  | 0, w, m, _, _, h5, hn => by omega
  | n + 1, w, m, hk, hw1, hw5, hn => by
    obtain ⟨_, hl16, hcol⟩ := isS_facts hS
    rw [r19_L2_s, show (.int .i64 4 : Value) = vi (4 : Nat) from rfl, leq3, k1s]
    by_cases hw : w ≤ 4
    · have hstep : 5 - w = (4 - w) + 1 := by omega
      have hbig : c / w * w ≤ c := Nat.div_mul_le_self c w
      rw [decide_eq_true (by omega), kbt, quoC c w (by omega) (by omega), k1s, mulC _ _ (by omega), k1s, eql3, k1s, hstep]
      have nxt : ∀ m1, Keeps m0.length m0 m1 → ∃ m', Keeps m0.length m0 m' ∧ (k1n (mbin E .add 3 (vi w) (.int .i64 1)) fun v16 => r19_L2 (rt (n0 + 5)) fuel base kp kx0 kx2 n v0 x4 x5 (vi c) v16 m1) = sel (srW l c (4 - w) (w + 1)) (fun u => kx0 (vi u) (vi ((c / u : Nat) : Int)) m') (kx2 v0 x4 x5 (vi c) m') := fun m1 hk1 => by
        rw [add1 w (by omega), k1s]
        have := loop19w n0 base hn0 hbb hT hS kp kx0 kx2 fuel x4 x5 hc1 hc n (w + 1) m1 hk1 (by omega) (by omega) (by omega)
        rwa [show 5 - (w + 1) = 4 - w by omega] at this
      by_cases hm : c % w = 0
      · obtain ⟨hd1, hd2⟩ := div_facts hc1 hw1 hm
        rw [decide_eq_true (show ((c / w * w : Nat) : Int) = (c : Int) by rw [hd2]), kbt, t80 (n0 + 4), kcs]
        by_cases h4 : c / w ≤ 4
        · have htk := tk_of hS hw1 hw hd1 h4
          have hk1 := hk
          obtain ⟨rv, m1, e1, k1, hR, hrl⟩ := t61 (n0 + 2) base w (Nat.le_trans hbb hk.1) (hT.keeps hk) hl16 (by omega) hw
          have h16 : 16 ^ w ≤ 65536 := Nat.le_trans (Nat.pow_le_pow_right (by omega) hw) (by decide)
          rw [show sizeOk ((c / w : Nat) : Int) = true by unfold sizeOk; rw [decide_eq_true (by omega), decide_eq_true (by omega)]; rfl, kbt, e1, kcs, t73 n0 base w hw hn0 hR (by omega) (band_good hcol hw) (c / w) (by omega) (clos_small htk).1, kcs, show (.int .i64 0 : Value) = vi 0 from rfl, gtr3, k1s]
          have hk1 : Keeps m0.length m0 m1 := hk.trans (k1.mono hk.1)
          by_cases hp : 0 < closF w (bandL l w) (c / w)
          · have hg : goodB l c w = true := by unfold goodB; rw [decide_eq_true hm, decide_eq_true h4, decide_eq_true hp]; rfl
            rw [decide_eq_true (by omega), kbt]
            refine ⟨m1, hk1, ?_⟩
            unfold srW
            rw [if_pos hg]
            rfl
          · have hg : goodB l c w = false := by unfold goodB; rw [decide_eq_false hp, Bool.and_false, Bool.and_false]
            rw [decide_eq_false (by omega), kbf]
            unfold srW
            rw [if_neg (by rw [hg]; simp)]
            exact nxt m1 hk1
        · have hg : goodB l c w = false := by unfold goodB; rw [decide_eq_false h4, Bool.false_and, Bool.and_false]
          rw [show sizeOk ((c / w : Nat) : Int) = false by unfold sizeOk; rw [decide_eq_false (show ¬ ((c / w : Nat) : Int) ≤ 4 by omega), Bool.and_false], kbf]
          unfold srW
          rw [if_neg (by rw [hg]; simp)]
          exact nxt m hk
      · have hg : goodB l c w = false := by unfold goodB; rw [decide_eq_false hm, Bool.false_and]
        have hne : ¬ ((c / w * w : Nat) : Int) = (c : Int) := fun e => hm (by
          have e' : c / w * w = c := by exact_mod_cast e
          rw [← e']; exact Nat.mul_mod_left _ _)
        rw [decide_eq_false hne, kbf]
        unfold srW
        rw [if_neg (by rw [hg]; simp)]
        exact nxt m hk
    · rw [decide_eq_false (by omega), kbf, show 5 - w = 0 by omega]
      exact ⟨m, hk, rfl⟩
end Go.AM
namespace Go.AM
open Go Go.Proofs
theorem loop19c (n0 base : Nat) (hn0 : 70000 ≤ n0) {m0 : M} (hbb : base ≤ m0.length) {v0 : Value} {l : List Wg} (hT : Tiles m0 v0 l) (hS : isS l = true) (kp : Value → M → Res2) (kx0 : Value → Value → M → Res2) (fuel : Nat) (hf : 10 ≤ fuel) :
    ∀ (n c : Nat) (m : M), Keeps m0.length m0 m → 1 ≤ c → c ≤ 17 → 17 < n + c → ∃ m', Keeps m0.length m0 m' ∧
      r19_L0 (rt (n0 + 5)) fuel base kp kx0 n v0 (vi 0) (vi 0) (vi c) m = kx0 (vi (prO (srO l (17 - c) c)).1) (vi (prO (srO l (17 - c) c)).2) m'
  | 0, c, m, _, _, h5, hn => by omega
  | n + 1, c, m, hk, hc1, hc, hn => by
    rw [r19_L0_s, show (.int .i64 16 : Value) = vi (16 : Nat) from rfl, leq3, k1s]
    by_cases hw : c ≤ 16
    · have hstep : 17 - c = (16 - c) + 1 := by omega
      obtain ⟨m1, k1, e1⟩ := loop19w n0 base hn0 hbb hT hS (fun v m => kp v m) (fun y4_13 y5_14 m => (kx0 y4_13 y5_14 m)) (fun y0_15 y4_16 y5_17 y6_18 m => (k1n (mbin E .add 3 y6_18 (.int .i64 1)) fun v12_19 => (r19_L0 (rt (n0 + 5)) fuel base kp kx0 n y0_15 y4_16 y5_17 v12_19 m))) fuel (vi 0) (vi 0) hc1 hw fuel 1 m hk (by omega) (by omega) (by omega)
      rw [decide_eq_true (by omega), kbt, show (.int .i64 1 : Value) = vi (1 : Nat) from rfl]
      rw [show (.int .i64 1 : Value) = vi (1 : Nat) from rfl] at e1
      rw [e1, hstep]
      show ∃ m', _ ∧ sel (srW l c 4 1) _ _ = _
      unfold srO
      cases hs : srW l c 4 1 with
      | some u => exact ⟨m1, k1, rfl⟩
      | none =>
        show ∃ m', _ ∧ (k1n (mbin E .add 3 (vi c) (.int .i64 1)) fun v => r19_L0 (rt (n0 + 5)) fuel base kp kx0 n v0 (vi 0) (vi 0) v m1) = _
        rw [add1 c (by omega), k1s]
        have := loop19c n0 base hn0 hbb hT hS kp kx0 fuel hf n (c + 1) m1 k1 (by omega) (by omega) (by omega)
        rwa [show 17 - (c + 1) = 16 - c by omega] at this
    · rw [decide_eq_false (by omega), kbf, show 17 - c = 0 by omega]
      exact ⟨m, hk, rfl⟩
theorem t19 (n0 base : Nat) (hn0 : 70000 ≤ n0) {m : M} {v0 : Value} {l : List Wg} (hT : Tiles m v0 l) (hS : isS l = true) : rt (n0 + 6) base 19 [v0] m = some (.ret (.tuple #[vi (prO (srO l 16 1)).1, vi (prO (srO l 16 1)).2]), m) := by
  obtain ⟨m1, k1, e1⟩ := loop19c n0 m.length hn0 (Nat.le_refl _) hT hS (fun v m => some (.pan v, m)) (fun y4_20 y5_21 m => (some (.ret (.tuple #[y4_20, y5_21]), m))) (n0 + 5) (by omega) (n0 + 5) 1 m (Keeps.refl _ _) (by omega) (by omega) (by omega)
  refine rt_pure (f := 19) (rf := rf19) (by kernel_rfl) (by kernel_rfl) (by kernel_rfl) (n0 + 5) base _ m m1 _ ?_ rfl
  show r19 (rt (n0 + 5)) (n0 + 5) m.length v0 m = _
  unfold r19
  exact e1
/-- What Least and Smallest answer. -/
def leastR (l : List Wg) : Value := if isS l = true then (match srO l 16 1 with
  | none => .tuple #[vi 0, vi 0, vi 10]
  | some p => .tuple #[vi (p.1 : Nat), vi (p.2 : Nat), vi 0]) else .tuple #[vi 0, vi 0, vi 2]
theorem srW_pos {l : List Wg} {c : Nat} : ∀ {k w u : Nat}, srW l c k w = some u → w ≤ u ∧ u < w + k ∧ goodB l c u = true
  | 0, w, u, h => by simp [srW] at h
  | k + 1, w, u, h => by
    unfold srW at h
    split at h
    · rename_i hg
      simp only [Option.some.injEq] at h
      subst h
      exact ⟨Nat.le_refl _, by omega, hg⟩
    · obtain ⟨h1, h2, h3⟩ := srW_pos h
      exact ⟨by omega, by omega, h3⟩
theorem srO_pos {l : List Wg} : ∀ {k c : Nat} {p : Nat × Nat}, srO l k c = some p → 1 ≤ p.1 ∧ p.1 ≤ 4
  | 0, c, p, h => by simp [srO] at h
  | k + 1, c, p, h => by
    unfold srO at h
    split at h
    · rename_i u hu
      simp only [Option.some.injEq] at h
      subst h
      have := srW_pos hu
      exact ⟨by show 1 ≤ u; omega, by show u ≤ 4; omega⟩
    · exact srO_pos h
theorem leastR_three (l : List Wg) : ∃ a b c : Int, leastR l = .tuple #[vi a, vi b, vi c] := by
  unfold leastR
  split
  · split
    · exact ⟨_, _, _, rfl⟩
    · exact ⟨_, _, _, rfl⟩
  · exact ⟨_, _, _, rfl⟩
theorem t8 (n0 base : Nat) (hn0 : 70000 ≤ n0) {m : M} {v0 : Value} {l : List Wg} (hT : Tiles m v0 l) : rt (n0 + 7) base 8 [v0] m = some (.ret (leastR l), m) := by
  obtain ⟨a, b, c, e⟩ := leastR_three l
  refine rt_pure (f := 8) (rf := rf8) (by kernel_rfl) (by kernel_rfl) (by kernel_rfl) (n0 + 6) base _ m m _ ?_ (by rw [e]; rfl)
  show r8 (rt (n0 + 6)) (n0 + 6) m.length v0 m = _
  unfold r8 leastR
  rw [k1_fun, t48 (n0 + 5) _ (by omega) hT, kcs, not4, k1s]
  cases hS : isS l with
  | false => rfl
  | true =>
    rw [Bool.not_true, kbf, t19 n0 _ hn0 hT hS, kcs, ex20, k1s, ex21, k1s, show (.int .i64 0 : Value) = vi 0 from rfl, eql3, k1s, if_pos rfl]
    cases hs : srO l 16 1 with
    | none => rfl
    | some p =>
      have := srO_pos hs
      rw [show decide (((prO (some p)).1 : Int) = 0) = false from decide_eq_false (by show ¬ ((p.1 : Nat) : Int) = 0; omega), kbf]
      rfl
end Go.AM
namespace Go.AM
open Go Go.Proofs
def twoB (l : List Wg) : Bool := decide ((linesL l).length ≤ 2) && decide ((linesL (l.map trn)).length ≤ 2)
theorem tilesG {b : Nat} {m : M} {v : Value} {l : List Wg} (h : GT b m v l) : Tiles m v l := by
  rcases h with ⟨h1, h2, _⟩ | ⟨r, h1, h2, h3, h4, h5⟩
  · exact .inl ⟨List.eq_nil_of_length_eq_zero h1, .inl h2⟩
  · exact .inr ⟨r, 0, l.length, _, h3, Nat.le_refl _, h4, rfl, by rw [Nat.zero_add]; show _ ≤ (l.flatMap tC).length; rw [flat_len (z := 4) (fun _ => rfl)]; exact Nat.le_refl _, fun j hj => by rw [Nat.zero_add]; exact flat_cell (f := tC) (z := 4) (fun _ => rfl) l j hj⟩
theorem t6 (n base : Nat) (hn : 1020 ≤ n) {m : M} {v : Value} {l : List Wg} (hT : Tiles m v l) (hl : l.length ≤ 900) : rt (n + 1) base 6 [v] m = some (.ret (.bool (twoB l)), m) := by
  have key : ∃ m1, r6 (rt n) n m.length v m = some (.ret (.bool (twoB l)), m1) := by
    obtain ⟨q, rfl⟩ : ∃ q, n = q + 1 := ⟨n - 1, by omega⟩
    unfold r6 twoB
    obtain ⟨v1, m1, e1, g1, k1⟩ := t67 q m.length (Nat.le_refl _) hT (by omega) (by omega)
    obtain ⟨v2, m2, e2, g2, k2⟩ := t38 q m.length k1.1 (hT.keeps k1) hl (by omega)
    obtain ⟨v3, m3, e3, g3, k3⟩ := t67 q m.length (Nat.le_trans k1.1 k2.1) (tilesG g2) (by rw [List.length_map]; omega) (by omega)
    rw [k1_fun, fVal_fun, vcall_fun, e1, kcs, (Grow.ints g1).len, k2s, show (.int .i64 2 : Value) = vi (2 : Nat) from rfl, leq3, k1s]
    by_cases h : (linesL l).length ≤ 2
    · rw [decide_eq_true (show (((linesL l).length : Nat) : Int) ≤ (2 : Nat) by omega), kbt, e2, kcs, e3, kcs, (Grow.ints g3).len, k2s, leq3, k1s, decide_eq_true h, Bool.true_and]
      refine ⟨m3, ?_⟩
      have : decide (((linesL (l.map trn)).length : Int) ≤ ((2 : Nat) : Int)) = decide ((linesL (l.map trn)).length ≤ 2) := by
        by_cases h' : (linesL (l.map trn)).length ≤ 2
        · rw [decide_eq_true h', decide_eq_true (by omega)]
        · rw [decide_eq_false h', decide_eq_false (by omega)]
      rw [this]
    · rw [decide_eq_false (show ¬ (((linesL l).length : Nat) : Int) ≤ (2 : Nat) by omega), kbf, decide_eq_false h, Bool.false_and]
      exact ⟨m1, rfl⟩
  obtain ⟨m1, h'⟩ := key
  exact rt_pure (f := 6) (rf := rf6) (by kernel_rfl) (by kernel_rfl) (by kernel_rfl) n base _ m m1 _ h' rfl
end Go.AM
namespace Go.AM
open Go Go.Proofs
open Go.ChangeShapes Go.WideShapes
def Stays (W w' : World) : Prop := W.keptBut w' (fun _ => False) ∧ ∀ a, a.block < W.heap.size → w'.frozen? a = W.frozen? a
theorem glob0 (W : World) : Glob (fun _ => none) W := ⟨fun g l h => by simp [glook, gtabs] at h, fun g l h => by simp [glook, gtabs] at h⟩
theorem stays_same {ρ ρ' : Map} {n : Nat} {W w' : World} (hd : ∀ r l, ρ r = some l → r < n) (h : Ext n ρ ρ' W w') : Stays W w' ∧ ∀ b, b < W.heap.size → w'.heap[b]? = W.heap[b]? := by
  have hf : ∀ b, b < W.heap.size → w'.heap[b]? = W.heap[b]? := fun b hb => h.frame b hb fun r l hr hn => by
    have := hd r l hr
    omega
  refine ⟨⟨⟨h.os, h.output, fun i hi => ?_⟩, fun a ha => ?_⟩, hf⟩
  · rw [hf i hi]
    cases W.heap[i]? with
    | none => rfl
    | some o => cases o with
      | cells c t fr => exact ⟨rfl, rfl, rfl, fun _ _ => rfl⟩
      | map es clock => exact .inr ⟨rfl, rfl⟩
      | _ => rfl
  · unfold World.frozen?
    rw [hf a.block ha]
theorem un4 : Try.prog.underlying 4 = some .bool := by kernel_rfl
end Go.AM
namespace Go.AM
open Go Go.Proofs
abbrev at2 (b : List (List Nat)) (y x : Nat) : Nat := (b.getD y []).getD x 0
/-- A good board of h rows of w places in the set. -/
def goodI (l : List Wg) (w h : Nat) (b : List (List Nat)) : Prop := b.length = h ∧ (∀ y, y < h → (b.getD y []).length = w) ∧ (∀ y x, y < h → x < w → at2 b y x < l.length) ∧
  (∀ y x, y < h → x + 1 < w → (tl l (at2 b y x)).2.1 = (tl l (at2 b y (x + 1))).2.2.2) ∧ (∀ y x, y + 1 < h → x < w → (tl l (at2 b y x)).2.2.1 = (tl l (at2 b (y + 1) x)).1)
theorem vch_iff {l : List Wg} : ∀ {b : List (List Nat)} {c : Nat}, vch l c b ↔ (b = [] ∨ (rwOf l (b.getD 0 [])).n.toNat = c) ∧ ∀ y, y + 1 < b.length → (rwOf l (b.getD y [])).s.toNat = (rwOf l (b.getD (y + 1) [])).n.toNat
  | [], c => by simp [vch]
  | p :: b, c => by
    show ((rwOf l p).n.toNat = c ∧ vch l (rwOf l p).s.toNat b) ↔ _
    rw [vch_iff]
    constructor
    · rintro ⟨h1, h2, h3⟩
      refine ⟨.inr h1, fun y hy => ?_⟩
      cases y with
      | zero =>
        rcases h2 with h2 | h2
        · subst h2; simp at hy
        · exact h2.symm
      | succ y => exact h3 y (by simp at hy; omega)
    · rintro ⟨h1, h2⟩
      refine ⟨h1.resolve_left (by simp), ?_, fun y hy => h2 (y + 1) (by simp; omega)⟩
      by_cases e : b = []
      · exact .inl e
      · have : 0 < b.length := List.length_pos_iff.2 e
        exact .inr (h2 0 (by simp; omega)).symm
theorem code_eq {l : List Wg} (hcol : ∀ t ∈ l, colT t) {w : Nat} (hw : w ≤ 4) {p q : List Nat} (hp : p ∈ idxX l w) (hq : q ∈ idxX l w) :
    (rwOf l p).s.toNat = (rwOf l q).n.toNat ↔ ∀ x, x < w → (tl l (p.getD x 0)).2.2.1 = (tl l (q.getD x 0)).1 := by
  obtain ⟨a1, a2, _, _, a5, _⟩ := rwOf_ts hcol hw hp
  obtain ⟨b1, b2, _, b4, _, _⟩ := rwOf_ts hcol hw hq
  have pl := idxX_len hp
  have ql := idxX_len hq
  rw [a5, b4, Int.toNat_natCast, Int.toNat_natCast]
  have hi : ssO (tsI l p) = nsO (tsI l q) ↔ ∀ x, x < w → (tl l (p.getD x 0)).2.2.1 = (tl l (q.getD x 0)).1 := by
    constructor
    · intro h x hx
      have h1 := congrArg (fun z => z[x]?) h
      simp only [List.getElem?_map, List.getElem?_eq_getElem (show x < p.length by omega), List.getElem?_eq_getElem (show x < q.length by omega), Option.map_some, Option.some.injEq] at h1
      rw [getD_nat (by omega), getD_nat (by omega)]
      exact h1
    · intro h
      refine List.ext_getElem (by simp; omega) fun x h1 h2 => ?_
      simp at h1
      have := h x (by omega)
      rw [getD_nat (by omega), getD_nat (by omega)] at this
      simp only [List.getElem_map]
      exact this
  rw [← hi]
  constructor
  · intro h
    exact (codeN_inj _ _ (by simp [pl, ql]) (fun d hd => by
      obtain ⟨u, hu, rfl⟩ := List.mem_map.1 hd
      exact (hcol u (a2 u hu)).2.2.1) (fun d hd => by
      obtain ⟨u, hu, rfl⟩ := List.mem_map.1 hd
      exact (hcol u (b2 u hu)).1) 0 0 h).2
  · intro h
    rw [h]
theorem brdA_iff {l : List Wg} (hcol : ∀ t ∈ l, colT t) {w : Nat} (hw : w ≤ 4) {k : Nat} {b : List (List Nat)} : b ∈ brdA l w k ↔ goodI l w (k + 1) b := by
  rw [mem_brdA]
  have hne : ∀ {b : List (List Nat)}, b.length = k + 1 → b ≠ [] := fun h e => by subst e; simp at h
  have hmem : ∀ {b : List (List Nat)} {y : Nat}, y < b.length → b.getD y [] ∈ b := fun h => by
    rw [getD_nat h]; exact List.getElem_mem h
  constructor
  · rintro ⟨c, h⟩
    obtain ⟨h1, h2, h3⟩ := mem_brdC.1 h
    obtain ⟨_, h4⟩ := vch_iff.1 h3
    have hr : ∀ y, y < k + 1 → b.getD y [] ∈ idxX l w := fun y hy => h2 _ (hmem (by omega))
    refine ⟨h1, fun y hy => idxX_len (hr y hy), fun y x hy hx => ?_, fun y x hy hx => ?_, fun y x hy hx => ?_⟩
    · obtain ⟨g1, g2, _⟩ := (mem_idxX hcol hw).1 (hr y hy)
      show (b.getD y []).getD x 0 < l.length
      rw [getD_nat (by omega)]
      exact g2 _ (List.getElem_mem _)
    · obtain ⟨g1, _, g3⟩ := (mem_idxX hcol hw).1 (hr y hy)
      exact (Ch_iff.1 g3).2 x (by omega)
    · exact (code_eq hcol hw (hr y (by omega)) (hr (y + 1) (by omega))).1 (h4 y (by omega)) x hx
  · rintro ⟨h1, h2, h3, h4, h5⟩
    have hr : ∀ y, y < k + 1 → b.getD y [] ∈ idxX l w := fun y hy => by
      have hl := h2 y hy
      refine (mem_idxX hcol hw).2 ⟨hl, fun i hi => ?_, Ch_iff.2 ⟨.inr trivial, fun x hx => h4 y x hy (by omega)⟩⟩
      obtain ⟨x, hx, rfl⟩ := List.mem_iff_getElem.1 hi
      have := h3 y x hy (by omega)
      unfold at2 at this
      rwa [getD_nat hx] at this
    refine ⟨_, mem_brdC.2 ⟨h1, fun p hp => ?_, vch_iff.2 ⟨.inr rfl, fun y hy => ?_⟩⟩⟩
    · obtain ⟨y, hy, rfl⟩ := List.mem_iff_getElem.1 hp
      have := hr y (by omega)
      rwa [getD_nat hy] at this
    · exact (code_eq hcol hw (hr y (by omega)) (hr (y + 1) (by omega))).2 fun x hx => h5 y x (by omega) hx
def perB (W H : Nat) (g : Nat → Nat → Nat) : List (List Nat) := (List.range H).map fun y => (List.range W).map fun x => g y x
theorem perB_row {W H : Nat} {g : Nat → Nat → Nat} {y : Nat} (hy : y < H) : (perB W H g).getD y [] = (List.range W).map fun x => g y x := by
  unfold perB
  rw [getD_nat (by simpa using hy)]
  simp
theorem perB_at {W H : Nat} {g : Nat → Nat → Nat} {y x : Nat} (hy : y < H) (hx : x < W) : at2 (perB W H g) y x = g y x := by
  unfold at2
  rw [perB_row hy, getD_nat (by simpa using hx)]
  simp
end Go.AM
namespace Go.AM
open Go Go.Proofs
/-- Rows upon each other, from Norths i to Souths c. -/
def chI (l : List Wg) : Nat → Nat → List (List Nat) → Prop
  | i, c, [] => i = c
  | i, c, p :: b => (rwOf l p).n.toNat = i ∧ chI l (rwOf l p).s.toNat c b
theorem chI_app {l : List Wg} {d c : Nat} {b' : List (List Nat)} (h' : chI l c d b') : ∀ {b : List (List Nat)} {i : Nat}, chI l i c b → chI l i d (b ++ b')
  | [], i, h => by
    have e : i = c := h
    rw [e]
    exact h'
  | p :: b, i, h => ⟨h.1, chI_app h' h.2⟩
theorem chI_vch {l : List Wg} {c : Nat} : ∀ {b : List (List Nat)} {i : Nat}, chI l i c b → vch l i b
  | [], _, _ => trivial
  | p :: b, i, h => ⟨h.1, chI_vch h.2⟩
theorem sum_ne {α : Type} (f : α → Nat) : ∀ {xs : List α}, (xs.map f).sum ≠ 0 → ∃ x ∈ xs, f x ≠ 0
  | [], h => by simp at h
  | x :: xs, h => by
    rw [List.map_cons, List.sum_cons] at h
    by_cases e : f x = 0
    · obtain ⟨y, hy, h2⟩ := sum_ne f (xs := xs) (by omega)
      exact ⟨y, by simp [hy], h2⟩
    · exact ⟨x, by simp, e⟩
theorem sumN_ne {g : Nat → Nat} : ∀ {k j : Nat}, sumN g k j ≠ 0 → ∃ i, g i ≠ 0
  | 0, j, h => absurd rfl h
  | k + 1, j, h => by
    have h' : g j + sumN g k (j + 1) ≠ 0 := h
    by_cases e : g j = 0
    · exact sumN_ne (k := k) (j := j + 1) (by omega)
    · exact ⟨j, e⟩
theorem pB_chain (l : List Wg) (ps : List (List Nat)) : ∀ (k i c : Nat), pB (ps.map (rwOf l)) k i c ≠ 0 → ∃ b : List (List Nat), b.length = k ∧ (∀ p ∈ b, p ∈ ps) ∧ chI l i c b
  | 0, i, c, h => by
    have : i = c := by
      by_cases e : i = c
      · exact e
      · exact absurd (show (if i = c then 1 else 0) = 0 from if_neg e) h
    exact ⟨[], rfl, by simp, this⟩
  | k + 1, i, c, h => by
    rw [pB_succ] at h
    obtain ⟨r, hr, h2⟩ := sum_ne _ h
    obtain ⟨p, hp, rfl⟩ := List.mem_map.1 hr
    have e : (rwOf l p).n.toNat = i := by
      by_cases e : (rwOf l p).n.toNat = i
      · exact e
      · exact absurd (if_neg e) h2
    rw [if_pos e] at h2
    obtain ⟨b, h3, h4, h5⟩ := pB_chain l ps k _ c h2
    exact ⟨p :: b, by simp [h3], fun q hq => by
      rcases List.mem_cons.1 hq with rfl | hq
      · exact hp
      · exact h4 q hq, e, h5⟩
/-- The rows of closed boards. -/
def rps (l : List Wg) (w : Nat) : List (List Nat) := (idxX l w).filter fun p => isR (rwOf l p)
theorem ring_rps (l : List Wg) (w : Nat) : ringL (bandL l w) = (rps l w).map (rwOf l) := by
  rw [bandL_idx]
  unfold ringL rps
  rw [List.filter_map]
  rfl
theorem rps_round {l : List Wg} (hcol : ∀ t ∈ l, colT t) {w : Nat} (hw1 : 1 ≤ w) (hw : w ≤ 4) {p : List Nat} (hp : p ∈ rps l w) (x : Nat) :
    (tl l ((p.getD (x % w) 0 : Nat) : Int)).2.1 = (tl l ((p.getD ((x + 1) % w) 0 : Nat) : Int)).2.2.2 := by
  obtain ⟨hpi, hr⟩ := List.mem_filter.1 hp
  obtain ⟨g1, g2, g3⟩ := (mem_idxX hcol hw).1 hpi
  have hch := (Ch_iff.1 g3).2
  have hxw : x % w < w := Nat.mod_lt _ hw1
  by_cases e : x % w + 1 < w
  · have e2 : (x + 1) % w = x % w + 1 := by
      rw [Nat.add_mod, Nat.mod_eq_of_lt (show 1 < w by omega), Nat.mod_eq_of_lt e]
    rw [e2]
    exact hch (x % w) (by omega)
  · have e1 : x % w = w - 1 := by omega
    have e2 : (x + 1) % w = 0 := by
      have h3 := Nat.div_add_mod x w
      have h4 : x + 1 = w * (x / w + 1) := by rw [Nat.mul_add, Nat.mul_one]; omega
      rw [h4]
      exact Nat.mul_mod_right _ _
    rw [e1, e2]
    obtain ⟨a1, a2, a3, a4, a5, a6⟩ := rwOf_ts hcol hw hpi
    have hlen : (tsI l p).length = w := by simp [g1]
    have hg : (tsI l p).getLast? = some (tl l ((p.getD (w - 1) 0 : Nat) : Int)) := by
      rw [List.getLast?_eq_getElem?, hlen, List.getElem?_map, List.getElem?_eq_getElem (by omega), getD_nat (by omega)]
      rfl
    have h5 := a6 _ hg
    unfold isR at hr
    rw [decide_eq_true_eq, h5, rwOf_w l (by omega)] at hr
    exact hr
theorem rep_good {l : List Wg} (hcol : ∀ t ∈ l, colT t) {w : Nat} (hw1 : 1 ≤ w) (hw : w ≤ 4) {B : List (List Nat)} (hB : ∀ p ∈ B, p ∈ rps l w) {i : Nat} (hv : vch l i B) {a b : Nat} (hb : b ≤ B.length) :
    goodI l a b (perB a b fun y x => (B.getD y []).getD (x % w) 0) := by
  have hrow : ∀ y, y < b → B.getD y [] ∈ rps l w := fun y hy => by
    rw [getD_nat (by omega)]
    exact hB _ (List.getElem_mem _)
  have hfacts : ∀ y, y < b → B.getD y [] ∈ idxX l w ∧ (B.getD y []).length = w ∧ ∀ j ∈ B.getD y [], j < l.length := fun y hy => by
    obtain ⟨hpi, _⟩ := List.mem_filter.1 (hrow y hy)
    obtain ⟨g1, g2, _⟩ := (mem_idxX hcol hw).1 hpi
    exact ⟨hpi, g1, g2⟩
  have hvi := (vch_iff.1 hv).2
  refine ⟨by unfold perB; simp, fun y hy => by rw [perB_row hy]; simp, fun y x hy hx => ?_, fun y x hy hx => ?_, fun y x hy hx => ?_⟩
  · rw [perB_at hy hx]
    obtain ⟨_, h1, h2⟩ := hfacts y hy
    have hm := Nat.mod_lt x hw1
    rw [getD_nat (l := B.getD y []) (by omega)]
    exact h2 _ (List.getElem_mem _)
  · rw [perB_at hy (by omega), perB_at hy hx]
    exact rps_round hcol hw1 hw (hrow y hy) x
  · rw [perB_at (by omega) hx, perB_at hy hx]
    obtain ⟨h1, _, _⟩ := hfacts y (by omega)
    obtain ⟨h2, _, _⟩ := hfacts (y + 1) hy
    exact (code_eq hcol hw h1 h2).1 (hvi y (by omega)) (x % w) (Nat.mod_lt _ hw1)
/-- Where there is a closed board there are good boards of all sizes. -/
theorem repeats {l : List Wg} (hS : isS l = true) {w h a b : Nat} (hw1 : 1 ≤ w) (hw : w ≤ 4) (hh1 : 1 ≤ h) (hh : h ≤ 4) (hc : 0 < closF w (bandL l w) h) (ha : a ≤ 4) (hb1 : 1 ≤ b) (hb : b ≤ 4) : countF a (bandL l a) b ≠ 0 := by
  obtain ⟨hl0, hl16, hcol⟩ := isS_facts hS
  have hM : MX = 1099511627777 := rfl
  obtain ⟨q, rfl⟩ : ∃ q, b = q + 1 := ⟨b - 1, by omega⟩
  have h1 := (clos_small (tk_of hS hw1 hw hh1 hh)).2
  rw [h1] at hc
  have h2 : closN (8 ^ w) (ringL (bandL l w)) h ≠ 0 := by omega
  unfold closN at h2
  obtain ⟨c, h3⟩ := sumN_ne h2
  rw [ring_rps] at h3
  obtain ⟨B, e1, e2, e3⟩ := pB_chain l (rps l w) h c c h3
  have hB4 : chI l c c (B ++ (B ++ (B ++ B))) := chI_app (chI_app (chI_app e3 e3) e3) e3
  have hmem : ∀ p ∈ B ++ (B ++ (B ++ B)), p ∈ rps l w := fun p hp => by
    simp only [List.mem_append, or_self] at hp
    exact e2 p hp
  have hg := rep_good hcol hw1 hw hmem (chI_vch hB4) (a := a) (b := q + 1) (by simp only [List.length_append]; omega)
  have hm := (brdA_iff hcol ha).2 hg
  have hpos : 0 < (brdA l a q).length := List.length_pos_of_mem hm
  rw [countF_brd hcol ha]
  omega
end Go.AM
namespace Go.AM
open Go Go.Proofs
theorem remU (n : Int) : mbin E .rem 5 (.int .u8 n) (.int .u8 4) = some (.int .u8 (n.tmod 4)) := by kernel_rfl
theorem cvU (n : Int) : mconvert E.P 5 3 (.int .u8 n) = some (vi (wr n)) := by kernel_rfl
theorem u8m (x : Int) (h0 : 0 ≤ x) : ∃ k : Nat, 1 ≤ k ∧ k ≤ 4 ∧ mbin E .rem 5 (.int .u8 x) (.int .u8 4) = some (.int .u8 ((k : Int) - 1)) ∧ mconvert E.P 5 3 (.int .u8 ((k : Int) - 1)) = some (vi ((k : Int) - 1)) ∧ mbin E .add 3 (.int .i64 1) (vi ((k : Int) - 1)) = some (vi k) := by
  have hx : x.tmod 4 = x % 4 := Int.tmod_eq_emod_of_nonneg h0
  have h1 := Int.emod_nonneg x (b := 4) (by omega)
  have h2 := Int.emod_lt_of_pos x (b := 4) (by omega)
  generalize x % 4 = r at hx h1 h2
  refine ⟨(r + 1).toNat, by omega, by omega, ?_, ?_, ?_⟩
  · rw [remU, hx, show (((r + 1).toNat : Nat) : Int) - 1 = r by omega]
  · rw [cvU, wr_id (by omega) (by omega)]
  · rw [show (.int .i64 1 : Value) = vi 1 from rfl, add3, wr_id (by omega) (by omega), show (1 : Int) + ((((r + 1).toNat : Nat) : Int) - 1) = (((r + 1).toNat : Nat) : Int) by omega]
theorem clsR_tk {l : List Wg} {w h : Nat} (ht : isTk l w h = true) : clsR l w h = limR (closF w (bandL l w) h) := by
  unfold clsR
  rw [ht, if_pos rfl, Int.toNat_natCast, Int.toNat_natCast]
theorem t11c (n0 base : Nat) (hn0 : 70000 ≤ n0) {m : M} {v0 : Value} {l : List Wg} (hT : Tiles m v0 l) (w h : Int) : rt (n0 + 6) base 11 [v0, vi w, vi h] m = some (.ret (clsR l w h), m) :=
  t40 n0 base hn0 hT w h fun a c ha hc ht => by
    subst ha; subst hc
    exact (clos_small ht).1
theorem srW_none {l : List Wg} {c : Nat} : ∀ {k w : Nat}, srW l c k w = none → ∀ u, w ≤ u → u < w + k → goodB l c u = false
  | 0, w, _, u, h1, h2 => by omega
  | k + 1, w, h, u, h1, h2 => by
    unfold srW at h
    split at h
    · simp at h
    · rename_i hg
      by_cases e : u = w
      · subst e
        simpa using hg
      · exact srW_none h u (by omega) (by omega)
/-- What the search finds: a closed board, and no closed board has fewer cells. -/
theorem srO_least {l : List Wg} : ∀ {k c : Nat} {p : Nat × Nat}, 1 ≤ c → srO l k c = some p → (1 ≤ p.1 ∧ p.1 ≤ 4 ∧ 1 ≤ p.2 ∧ p.2 ≤ 4 ∧ 0 < closF p.1 (bandL l p.1) p.2) ∧ ∀ c', c ≤ c' → c' < p.1 * p.2 → ∀ u, 1 ≤ u → u ≤ 4 → goodB l c' u = false
  | 0, c, p, _, h => by simp [srO] at h
  | k + 1, c, p, hc1, h => by
    unfold srO at h
    split at h
    · rename_i u hu
      simp only [Option.some.injEq] at h
      subst h
      obtain ⟨h1, h2, h3⟩ := srW_pos hu
      unfold goodB at h3
      simp only [Bool.and_eq_true, decide_eq_true_eq] at h3
      obtain ⟨h4, h5, h6⟩ := h3
      obtain ⟨h7, h8⟩ := div_facts hc1 h1 h4
      refine ⟨⟨h1, by show u ≤ 4; omega, h7, h5, h6⟩, fun c' a b => ?_⟩
      have b' : c' < u * (c / u) := b
      rw [Nat.mul_comm, h8] at b'
      omega
    · rename_i hn
      obtain ⟨h1, h2⟩ := srO_least (by omega) h
      refine ⟨h1, fun c' a b u g1 g2 => ?_⟩
      by_cases e : c' = c
      · subst e
        exact srW_none hn u g1 (by omega)
      · exact h2 c' (by omega) b u g1 g2
theorem small_none {l : List Wg} {p : Nat × Nat} (h : srO l 16 1 = some p) {a b : Nat} (ha1 : 1 ≤ a) (ha : a ≤ 4) (hb1 : 1 ≤ b) (hb : b ≤ 4) (hlt : a * b < p.1 * p.2) : closF a (bandL l a) b = 0 := by
  have hab : 1 ≤ a * b := Nat.mul_pos ha1 hb1
  have := (srO_least (Nat.le_refl 1) h).2 (a * b) hab hlt a ha1 ha
  unfold goodB at this
  rw [Nat.mul_mod_right, Nat.mul_div_cancel_left _ (by omega), decide_eq_true rfl, decide_eq_true hb, Bool.true_and, Bool.true_and, decide_eq_false_iff_not] at this
  omega
theorem lssI (a b : Int) : mbin E .lss 3 (vi a) (vi b) = some (.bool (decide (a < b))) := by kernel_rfl
theorem two_inj {a b c d : Int} (h : (.tuple #[vi a, vi b] : Value) = .tuple #[vi c, vi d]) : a = c ∧ b = d := by
  unfold vi at h
  simp only [Value.tuple.injEq, Array.mk.injEq, List.cons.injEq, and_true, Value.int.injEq, true_and] at h
  exact h
theorem tail5 (n base : Nat) (hn : 100 ≤ n) (m : M) {a b w h : Nat} (ha : a ≤ 4) (hb : b ≤ 4) (hw : w ≤ 4) (hh : h ≤ 4) {u z : Int} (hz : a * b < w * h → u = 0 ∧ z = 0) :
    (k1n (mbin E .mul 3 (vi a) (vi b)) fun v98_39 => (k1n (mbin E .mul 3 (vi w) (vi h)) fun v101_40 => (k1n (mbin E .lss 3 v98_39 v101_40) fun v102_41 => (kbu v102_41 (k1n (mbin E .neq 3 (vi u) (.int .i64 0)) fun v105_42 => (kbu v105_42 (some (.ret (.bool false), m)) (k1n (mbin E .neq 25 (vi z) (.int .i64 0)) fun v108_43 => (kb v108_43 (some (.ret (.bool false), m)) (kc (rt n base 7 [] m) (fun v112_44 m => (some (.ret v112_44, m))) (fun v m => some (.pan v, m))))) (k0 (mpick undef (.bool true) undef) fun v109_45 => (kb v109_45 (some (.ret (.bool false), m)) (kc (rt n base 7 [] m) (fun v112_46 m => (some (.ret v112_46, m))) (fun v m => some (.pan v, m))))))) (kc (rt n base 7 [] m) (fun v112_47 m => (some (.ret v112_47, m))) (fun v m => some (.pan v, m))) (k0 (mpick undef undef (.bool false)) fun v110_48 => (kb v110_48 (some (.ret (.bool false), m)) (kc (rt n base 7 [] m) (fun v112_49 m => (some (.ret v112_49, m))) (fun v m => some (.pan v, m))))))))) = some (.ret (.bool true), m) := by
  have h1 : a * b ≤ 4 * 4 := Nat.mul_le_mul ha hb
  have h2 : w * h ≤ 4 * 4 := Nat.mul_le_mul hw hh
  obtain ⟨q, rfl⟩ : ∃ q, n = q + 1 := ⟨n - 1, by omega⟩
  rw [mulC a b (by omega), k1s, mulC w h (by omega), k1s, lssI, k1s]
  by_cases hlt : a * b < w * h
  · obtain ⟨rfl, rfl⟩ := hz hlt
    rw [decide_eq_true (by omega), kbut, show (.int .i64 0 : Value) = vi 0 from rfl, neqI, k1s, show (!decide ((0 : Int) = 0)) = false from rfl, kbuf, neq26, k1s, show (!decide ((0 : Int) = 0)) = false from rfl, kbf, rt16, kcs]
  · rw [decide_eq_false (by omega), kbuf, rt16, kcs]
set_option maxHeartbeats 1000000 in
theorem main4 (n0 base : Nat) (hn0 : 70000 ≤ n0) {m : M} (hbb : base ≤ m.length) {v0 : Value} {l : List Wg} (hT : Tiles m v0 l) (x y : Int) (hx : 0 ≤ x) (hy : 0 ≤ y) :
    ∃ m', (kc (rt (n0 + 7) base 8 [v0] m) (fun v33_8 m => (k1n (mextract 0 v33_8) fun v34_9 => (k1n (mextract 1 v33_8) fun v35_10 => (k1n (mextract 2 v33_8) fun v36_11 => (k1n (mbin E .neq 25 v36_11 (.int .i64 0)) fun v38_12 => (kb v38_12 (k1n (mbin E .eql 25 v36_11 (.int .i64 2)) fun v40_13 => (kb v40_13 (k1n (mbin E .eql 3 v34_9 (.int .i64 0)) fun v47_14 => (kb v47_14 (k1n (mbin E .eql 3 v35_10 (.int .i64 0)) fun v51_15 => (kb v51_15 (kc (rt (n0 + 7) base 7 [] m) (fun v54_16 m => (some (.ret v54_16, m))) (fun v m => some (.pan v, m))) (some (.ret (.bool false), m)))) (some (.ret (.bool false), m)))) (k1n (mbin E .eql 25 v36_11 (.int .i64 10)) fun v43_17 => (kb v43_17 (k1n (mbin E .eql 3 v34_9 (.int .i64 0)) fun v47_18 => (kb v47_18 (k1n (mbin E .eql 3 v35_10 (.int .i64 0)) fun v51_19 => (kb v51_19 (kc (rt (n0 + 7) base 7 [] m) (fun v54_20 m => (some (.ret v54_20, m))) (fun v m => some (.pan v, m))) (some (.ret (.bool false), m)))) (some (.ret (.bool false), m)))) (some (.ret (.bool false), m)))))) (k1n (mbin E .rem 5 (.int .u8 x) (.int .u8 4)) fun v57_21 => (k1n (mconvert E.P 5 3 v57_21) fun v58_22 => (k1n (mbin E .add 3 (.int .i64 1) v58_22) fun v59_23 => (k1n (mbin E .rem 5 (.int .u8 y) (.int .u8 4)) fun v61_24 => (k1n (mconvert E.P 5 3 v61_24) fun v62_25 => (k1n (mbin E .add 3 (.int .i64 1) v62_25) fun v63_26 => (kc (rt (n0 + 7) base 10 [v0, v59_23, v63_26] m) (fun v68_27 m => (k1n (mextract 0 v68_27) fun v69_28 => (k1n (mextract 1 v68_27) fun v70_29 => (kc (rt (n0 + 7) base 11 [v0, v34_9, v35_10] m) (fun v75_30 m => (k1n (mextract 0 v75_30) fun v76_31 => (k1n (mextract 1 v75_30) fun v77_32 => (kc (rt (n0 + 7) base 11 [v0, v59_23, v63_26] m) (fun v82_33 m => (k1n (mextract 0 v82_33) fun v83_34 => (k1n (mextract 1 v82_33) fun v84_35 => (k1n (mbin E .neq 25 v70_29 (.int .i64 0)) fun v86_36 => (kb v86_36 (some (.ret (.bool false), m)) (k1n (mbin E .lss 3 v76_31 (.int .i64 1)) fun v89_37 => (kbu v89_37 (k1n (mbin E .neq 25 v77_32 (.int .i64 8)) fun v92_38 => (kb v92_38 (some (.ret (.bool false), m)) (k1n (mbin E .mul 3 v59_23 v63_26) fun v98_39 => (k1n (mbin E .mul 3 v34_9 v35_10) fun v101_40 => (k1n (mbin E .lss 3 v98_39 v101_40) fun v102_41 => (kbu v102_41 (k1n (mbin E .neq 3 v83_34 (.int .i64 0)) fun v105_42 => (kbu v105_42 (some (.ret (.bool false), m)) (k1n (mbin E .neq 25 v84_35 (.int .i64 0)) fun v108_43 => (kb v108_43 (some (.ret (.bool false), m)) (kc (rt (n0 + 7) base 7 [] m) (fun v112_44 m => (some (.ret v112_44, m))) (fun v m => some (.pan v, m))))) (k0 (mpick undef (.bool true) undef) fun v109_45 => (kb v109_45 (some (.ret (.bool false), m)) (kc (rt (n0 + 7) base 7 [] m) (fun v112_46 m => (some (.ret v112_46, m))) (fun v m => some (.pan v, m))))))) (kc (rt (n0 + 7) base 7 [] m) (fun v112_47 m => (some (.ret v112_47, m))) (fun v m => some (.pan v, m))) (k0 (mpick undef undef (.bool false)) fun v110_48 => (kb v110_48 (some (.ret (.bool false), m)) (kc (rt (n0 + 7) base 7 [] m) (fun v112_49 m => (some (.ret v112_49, m))) (fun v m => some (.pan v, m))))))))))) (k1n (mbin E .mul 3 v59_23 v63_26) fun v98_50 => (k1n (mbin E .mul 3 v34_9 v35_10) fun v101_51 => (k1n (mbin E .lss 3 v98_50 v101_51) fun v102_52 => (kbu v102_52 (k1n (mbin E .neq 3 v83_34 (.int .i64 0)) fun v105_53 => (kbu v105_53 (some (.ret (.bool false), m)) (k1n (mbin E .neq 25 v84_35 (.int .i64 0)) fun v108_54 => (kb v108_54 (some (.ret (.bool false), m)) (kc (rt (n0 + 7) base 7 [] m) (fun v112_55 m => (some (.ret v112_55, m))) (fun v m => some (.pan v, m))))) (k0 (mpick undef (.bool true) undef) fun v109_56 => (kb v109_56 (some (.ret (.bool false), m)) (kc (rt (n0 + 7) base 7 [] m) (fun v112_57 m => (some (.ret v112_57, m))) (fun v m => some (.pan v, m))))))) (kc (rt (n0 + 7) base 7 [] m) (fun v112_58 m => (some (.ret v112_58, m))) (fun v m => some (.pan v, m))) (k0 (mpick undef undef (.bool false)) fun v110_59 => (kb v110_59 (some (.ret (.bool false), m)) (kc (rt (n0 + 7) base 7 [] m) (fun v112_60 m => (some (.ret v112_60, m))) (fun v m => some (.pan v, m))))))))) (k0 (mpick undef undef (.bool false)) fun v93_61 => (kb v93_61 (some (.ret (.bool false), m)) (k1n (mbin E .mul 3 v59_23 v63_26) fun v98_62 => (k1n (mbin E .mul 3 v34_9 v35_10) fun v101_63 => (k1n (mbin E .lss 3 v98_62 v101_63) fun v102_64 => (kbu v102_64 (k1n (mbin E .neq 3 v83_34 (.int .i64 0)) fun v105_65 => (kbu v105_65 (some (.ret (.bool false), m)) (k1n (mbin E .neq 25 v84_35 (.int .i64 0)) fun v108_66 => (kb v108_66 (some (.ret (.bool false), m)) (kc (rt (n0 + 7) base 7 [] m) (fun v112_67 m => (some (.ret v112_67, m))) (fun v m => some (.pan v, m))))) (k0 (mpick undef (.bool true) undef) fun v109_68 => (kb v109_68 (some (.ret (.bool false), m)) (kc (rt (n0 + 7) base 7 [] m) (fun v112_69 m => (some (.ret v112_69, m))) (fun v m => some (.pan v, m))))))) (kc (rt (n0 + 7) base 7 [] m) (fun v112_70 m => (some (.ret v112_70, m))) (fun v m => some (.pan v, m))) (k0 (mpick undef undef (.bool false)) fun v110_71 => (kb v110_71 (some (.ret (.bool false), m)) (kc (rt (n0 + 7) base 7 [] m) (fun v112_72 m => (some (.ret v112_72, m))) (fun v m => some (.pan v, m)))))))))))))))))) (fun v m => some (.pan v, m)))))) (fun v m => some (.pan v, m)))))) (fun v m => some (.pan v, m))))))))))))))) (fun v m => some (.pan v, m))) = some (.ret (.bool true), m') := by
  rw [t8 n0 base hn0 hT, kcs]
  unfold leastR
  cases hS : isS l with
  | false =>
    refine ⟨m, ?_⟩
    rw [if_neg (by simp), ex30, k1s, ex31, k1s, ex32, k1s, show (.int .i64 0 : Value) = vi 0 from rfl, show (.int .i64 2 : Value) = vi 2 from rfl, neq26, k1s, show (!decide ((2 : Int) = 0)) = true from rfl, kbt, eqlE, k1s, decide_eq_true rfl, kbt, eql3, k1s, decide_eq_true rfl, kbt, k1s, kbt, rt16, kcs]
  | true =>
    rw [if_pos rfl]
    cases hs : srO l 16 1 with
    | none =>
      refine ⟨m, ?_⟩
      show (k1n (mextract 0 (.tuple #[vi 0, vi 0, vi 10])) _) = _
      rw [ex30, k1s, ex31, k1s, ex32, k1s, show (.int .i64 0 : Value) = vi 0 from rfl, show (.int .i64 2 : Value) = vi 2 from rfl, show (.int .i64 10 : Value) = vi 10 from rfl, neq26, k1s, show (!decide ((10 : Int) = 0)) = true from rfl, kbt, eqlE, k1s, show decide ((10 : Int) = 2) = false from rfl, kbf, eqlE, k1s, decide_eq_true rfl, kbt, eql3, k1s, decide_eq_true rfl, kbt, k1s, kbt, rt16, kcs]
    | some p =>
      obtain ⟨w, h⟩ := p
      obtain ⟨⟨hw1, hw, hh1, hh, hc⟩, _⟩ := srO_least (Nat.le_refl 1) hs
      have hc' : 0 < closF w (bandL l w) h := hc
      have hw' : w ≤ 4 := hw
      have hh' : h ≤ 4 := hh
      obtain ⟨a, ha1, ha, ea1, ea2, ea3⟩ := u8m x hx
      obtain ⟨b, hb1, hb, eb1, eb2, eb3⟩ := u8m y hy
      have tk1 := tk_of hS hw1 hw hh1 hh
      have tk2 := tk_of hS ha1 ha hb1 hb
      have hF : fillE l a b = 0 := by
        unfold fillE
        rw [tk2, if_pos rfl, Int.toNat_natCast, Int.toNat_natCast, if_neg (repeats hS hw1 hw hh1 hh hc ha hb1 hb)]
      obtain ⟨v, m1, e1, k1, _⟩ := t34M (n0 + 1) base (by omega) hbb hT (a : Int) (b : Int)
      have hT1 := hT.keeps k1
      show ∃ m', (k1n (mextract 0 (.tuple #[vi (w : Nat), vi (h : Nat), vi 0])) _) = _
      rw [ex30, k1s, ex31, k1s, ex32, k1s, show (.int .i64 0 : Value) = vi 0 from rfl, neq26, k1s, show (!decide ((0 : Int) = 0)) = false from rfl, kbf, ea1, k1s, ea2, k1s, ea3, k1s, eb1, k1s, eb2, k1s, eb3, k1s, e1, kcs, hF, ex20, k1s, ex21, k1s, t11c (n0 + 1) base (by omega) hT1 (w : Int) (h : Int), kcs, clsR_tk tk1]
      obtain ⟨u, z, huz⟩ := limR_two (closF a (bandL l a) b)
      have hz : a * b < w * h → u = 0 ∧ z = 0 := fun hlt => by
        rw [small_none hs ha1 ha hb1 hb hlt] at huz
        exact two_inj (huz.symm.trans rfl)
      have ht5 := tail5 (n0 + 7) base (by omega) m1 ha hb hw hh hz
      by_cases hbig : closF w (bandL l w) h > 1099511627776
      · rw [show limR (closF w (bandL l w) h) = .tuple #[vi 0, vi 8] by unfold limR; rw [if_pos hbig], ex20, k1s, ex21, k1s, t11c (n0 + 1) base (by omega) hT1, kcs, clsR_tk tk2, huz, ex20, k1s, ex21, k1s, show (.int .i64 8 : Value) = vi 8 from rfl, show (.int .i64 1 : Value) = vi 1 from rfl, show ((0 : Nat) : Int) = 0 from rfl, neq26, k1s, show (!decide ((0 : Int) = 0)) = false from rfl, kbf, lssI, k1s, show decide ((0 : Int) < 1) = true from rfl, kbut, neq26, k1s, show (!decide ((8 : Int) = 8)) = false from rfl, kbf]
        exact ⟨m1, ht5⟩
      · rw [show limR (closF w (bandL l w) h) = .tuple #[vi (closF w (bandL l w) h), vi 0] by unfold limR; rw [if_neg hbig], ex20, k1s, ex21, k1s, t11c (n0 + 1) base (by omega) hT1, kcs, clsR_tk tk2, huz, ex20, k1s, ex21, k1s, show (.int .i64 8 : Value) = vi 8 from rfl, show (.int .i64 1 : Value) = vi 1 from rfl, show ((0 : Nat) : Int) = 0 from rfl, neq26, k1s, show (!decide ((0 : Int) = 0)) = false from rfl, kbf, lssI, k1s, decide_eq_false (by omega), kbuf]
        exact ⟨m1, ht5⟩
end Go.AM
namespace Go.AM
open Go Go.Proofs
theorem t4 (n0 base : Nat) (hn0 : 70000 ≤ n0) {m : M} (hbb : base ≤ m.length) {v0 : Value} {l : List Wg} (hT : Tiles m v0 l) (x y : Int) (hx : 0 ≤ x) (hy : 0 ≤ y) : ∃ m', rt (n0 + 8) base 4 [v0, .int .u8 x, .int .u8 y] m = some (.ret (.bool true), m') := by
  rw [rt_imp (f := 4) (rf := rf4) (by kernel_rfl) (by kernel_rfl) (by kernel_rfl) (n0 + 7) base]
  show ∃ m', r4 (rt (n0 + 7)) (n0 + 7) base v0 (.int .u8 x) (.int .u8 y) m = _
  unfold r4
  rw [k1_fun, fVal_fun, vcall_fun, hT.len, k2s, show (.int .i64 40 : Value) = vi (40 : Nat) from rfl, gtr3, k1s]
  by_cases hl : l.length ≤ 40
  · rw [decide_eq_false (show ¬ ((l.length : Nat) : Int) > (40 : Nat) by omega), kbf, t25 (n0 + 6) _ (by omega) hT, kcs]
    cases hS : isS l with
    | true =>
      rw [kbut, t6 (n0 + 6) _ (by omega) hT (by omega), kcs, not4, k1s]
      cases h2 : twoB l with
      | false => rw [Bool.not_false, kbt, rt16, kcs]; exact ⟨m, rfl⟩
      | true =>
        rw [Bool.not_true, kbf]
        exact main4 n0 base hn0 hbb hT x y hx hy
    | false =>
      rw [kbuf]
      exact main4 n0 base hn0 hbb hT x y hx hy
  · rw [decide_eq_true (show ((l.length : Nat) : Int) > (40 : Nat) by omega), kbt, rt16, kcs]
    exact ⟨m, rfl⟩
theorem law4 {m : M} {v0 : Value} {l : List Wg} (hT : Tiles m v0 l) {x y : Int} (hx : 0 ≤ x) (hy : 0 ≤ y) : ∃ m', rt 80000 m.length 4 [v0, .int .u8 x, .int .u8 y] m = some (.ret (.bool true), m') :=
  t4 79992 m.length (by omega) (Nat.le_refl _) hT x y hx hy
end Go.AM
namespace Go.AM
open Go Go.Proofs
open Go.ChangeShapes Go.WideShapes
theorem un5 : Try.prog.underlying 5 = some (.int .u8) := by kernel_rfl
theorem openU8 {H : Type} {enc : TypeId × Value → H} {W : World} {b0 : Nat} {v : Value} {d : DataW H} {p : List MemPlace} {ρ : Map} {m : M} (hR : Rel ρ m W) (hro : ∀ row ∈ m, row.ro = true) (hval : Value.okWide Try.prog W .any b0 5 v) (hd : DataW.Trod enc Try.prog W 0 (fun _ => true) true 5 v d p) :
    ∃ (ρ' : Map) (ext : M) (xv : Value) (n : Int), ρ.le ρ' ∧ Rel ρ' (m ++ ext) W ∧ (∀ row ∈ (m ++ ext : M), row.ro = true) ∧ VRel ρ' xv v ∧ xv = .int .u8 n ∧ 0 ≤ n := by
  obtain ⟨a0, rfl, _, _, hw⟩ := open_int un5 hval hd
  have h0 : 0 ≤ a0 := by
    simp [Lit.wf] at hw
    have e : IntKind.u8.min = 0 := by decide
    omega
  exact ⟨ρ, [], .int .u8 a0, a0, Map.le_refl _, by simpa using hR, by simpa using hro, .int _ _, rfl, h0⟩
end Go.AM
