import Derived.ChangeStays
import Derived.Deep.DeepHandedRow
import Derived.Deep.Slices
import Derived.Deep.Strs
import Derived.JoinedCond
import Derived.KernelRfl
import Derived.LaidLaws
import Derived.Laws.BytesArg
import Derived.Laws.StructEq
import Derived.OpenShut
import Derived.ProofKit
import Derived.RangeFuncLeaves
import Derived.RangeFuncRecord
import Derived.RowKit
import Derived.Test.YtnefldkiipdckaaProg
import Derived.Test.YtnefldkiipdckaaRows
import Derived.WalkKit
import Derived.Test.YtnefldkiipdckaaAmB
import Derived.Test.YtnefldkiipdckaaAmG
import Derived.Test.YtnefldkiipdckaaAmModel
import Derived.Test.YtnefldkiipdckaaAmRel
import Derived.Test.YtnefldkiipdckaaAmOps6
import Derived.Test.YtnefldkiipdckaaAmCode
import Derived.Test.YtnefldkiipdckaaAmDraw5
import Derived.Test.YtnefldkiipdckaaAmEq
import Derived.Test.YtnefldkiipdckaaRBase
import Derived.Test.YtnefldkiipdckaaR83
import Derived.Test.YtnefldkiipdckaaAmS
import Derived.Test.YtnefldkiipdckaaS16
import Derived.Test.YtnefldkiipdckaaS17
import Derived.Test.YtnefldkiipdckaaCA
import Derived.Test.YtnefldkiipdckaaNW
import Derived.Test.YtnefldkiipdckaaNM1
import Derived.Test.YtnefldkiipdckaaNA
set_option linter.unusedVariables false
set_option linter.unusedSimpArgs false
set_option linter.unusedSectionVars false
namespace Go.AM
open Go Go.Proofs
open Go.ChangeShapes Go.WideShapes
theorem rel_addro {ρ : Map} {m : M} {W : World} (hR : Rel ρ m W) (hro : ∀ row ∈ m, row.ro = true) {bk off esz : Nat} {C : Array Value} {T : TypeId} {fz : _} (hheap : W.heap[bk]? = some (.cells C T fz)) (cells : List Value) (hsz : off + cells.length ≤ C.size)
    (hc : ∀ j v, cells[j]? = some v → ∃ v', C[off + j]? = some v' ∧ VRel ρ v v') :
    ∃ ρ' : Map, ρ.le ρ' ∧ ρ' m.length = some ⟨bk, off, C.size, esz, false, false⟩ ∧ Rel ρ' (m ++ [{ esz := esz, ex := false, ro := true, cells := cells }]) W ∧ ∀ row ∈ (m ++ [{ esz := esz, ex := false, ro := true, cells := cells }] : M), row.ro = true := by
  have hnone : ρ m.length = none := by
    cases e : ρ m.length with
    | none => rfl
    | some l => have := hR.dom _ _ e; omega
  let ρ' : Map := fun r => if r = m.length then some ⟨bk, off, C.size, esz, false, false⟩ else ρ r
  have hle : ρ.le ρ' := by
    intro r l hr
    have : r ≠ m.length := by intro e; subst e; rw [hnone] at hr; simp at hr
    simp [ρ', this, hr]
  have hro' : ∀ row ∈ (m ++ [{ esz := esz, ex := false, ro := true, cells := cells }] : M), row.ro = true := by
    intro row h
    rcases List.mem_append.1 h with h | h
    · exact hro row h
    · simp only [List.mem_singleton] at h
      subst h; rfl
  have cs : ∀ r l, ρ' r = some l → (r = m.length ∧ l = ⟨bk, off, C.size, esz, false, false⟩) ∨ (r ≠ m.length ∧ ρ r = some l) := by
    intro r l h
    by_cases e : r = m.length
    · simp only [ρ', if_pos e, Option.some.injEq] at h
      exact .inl ⟨e, h.symm⟩
    · simp only [ρ', if_neg e] at h
      exact .inr ⟨e, h⟩
  refine ⟨ρ', hle, by simp [ρ'], ⟨fun r l h => ?_, fun r l row h hr => ?_, fun r r' l l' row row' h h' hne hr hr' hf => ?_, fun r r' l l' h h' hne hk hk' => ?_, ?_⟩, hro'⟩
  · rcases cs r l h with ⟨rfl, _⟩ | ⟨_, h⟩
    · simp
    · have := hR.dom r l h
      simp; omega
  · rcases cs r l h with ⟨rfl, rfl⟩ | ⟨hne, h⟩
    · simp only [List.getElem?_concat_length, Option.some.injEq] at hr
      subst hr
      refine ⟨fun _ => ⟨rfl, rfl, C, T, fz, hheap, rfl, hsz, fun h => by simp at h, fun j v hj => ?_⟩, fun h => by simp at h⟩
      obtain ⟨v', h1, h2⟩ := hc j v hj
      exact ⟨v', h1, h2.mono hle⟩
    · have hlt := hR.dom r l h
      rw [List.getElem?_append_left hlt] at hr
      exact (hR.row' r l row h hr).mono hle rfl
  · have := hro' row (List.mem_of_getElem? hr)
    rw [this] at hf
    simp at hf
  · rcases cs r l h with ⟨_, rfl⟩ | ⟨_, h⟩
    · simp at hk
    · rcases cs r' l' h' with ⟨_, rfl⟩ | ⟨_, h'⟩
      · simp at hk'
      · exact hR.lsep r r' l l' h h' hne hk hk'
  · exact ⟨fun g k hg => by simp [glook, gtabs] at hg, fun g k hg => by simp [glook, gtabs] at hg⟩
theorem flat_cell {α : Type} {f : α → List Value} {z : Nat} (hl : ∀ a, (f a).length = z) : ∀ (l : List α) (j : Nat) (h : j < l.length), ((l.flatMap f).drop (j * z)).take z = f l[j]
  | a :: l, 0, _ => by
    rw [Nat.zero_mul, List.drop_zero, List.flatMap_cons, List.take_append_of_le_length (by rw [hl]; exact Nat.le_refl _)]
    exact List.take_of_length_le (by rw [hl]; exact Nat.le_refl _)
  | a :: l, j + 1, h => by
    have e : (j + 1) * z = (f a).length + j * z := by rw [hl, Nat.add_mul]; omega
    rw [List.flatMap_cons, e, List.drop_append]
    rw [List.drop_eq_nil_of_le (by omega), List.nil_append, Nat.add_sub_cancel_left]
    simpa using flat_cell hl l j (by simpa using h)
theorem flat_len {α : Type} {f : α → List Value} {z : Nat} (hl : ∀ a, (f a).length = z) (l : List α) : (l.flatMap f).length = l.length * z := by
  induction l with
  | nil => simp
  | cons a l ih => rw [List.flatMap_cons, List.length_append, hl, ih, List.length_cons, Nat.add_mul]; omega
theorem flat_get {α : Type} {f : α → List Value} {z : Nat} (hl : ∀ a, (f a).length = z) (l : List α) (q : Nat) (v : Value) (hv : (l.flatMap f)[q]? = some v) : ∃ j k, ∃ h : j < l.length, k < z ∧ q = j * z + k ∧ (f l[j])[k]? = some v := by
  have hq : q < l.length * z := by
    rw [← flat_len hl]
    exact (List.getElem?_eq_some_iff.1 hv).1
  have hz : 0 < z := by
    rcases Nat.eq_zero_or_pos z with h | h
    · subst h; simp at hq
    · exact h
  have hj : q / z < l.length := (Nat.div_lt_iff_lt_mul hz).2 hq
  have hk : q % z < z := Nat.mod_lt _ hz
  have e : q / z * z + q % z = q := by rw [Nat.mul_comm]; exact Nat.div_add_mod q z
  refine ⟨q / z, q % z, hj, hk, e.symm, ?_⟩
  rw [← flat_cell hl l _ hj, List.getElem?_take, if_pos hk, List.getElem?_drop, e, hv]
/-- An argument that is a slice of things without addresses. -/
theorem openFlat {H : Type} {enc : TypeId × Value → H} {W : World} {t e : TypeId} {z : Nat} (ht : Try.prog.underlying t = some (.slice e)) (ce : Try.prog.cellsOf e = z) (hz : 0 < z) {α : Type} [Inhabited α] (f : α → List Value) (hl : ∀ a, (f a).length = z) (hs : ∀ a v, v ∈ f a → ∀ ρ : Map, VRel ρ v v)
    (hQ : ∀ n cs x, DataW.trod enc Try.prog W 0 (fun _ => true) true n e cs = some x → ∃ a, cs = f a) {ρ : Map} {m : M} (hR : Rel ρ m W) (hro : ∀ row ∈ m, row.ro = true) {fuel : Nat} {v : Value} {x : DataW H × List MemPlace} (h : DataW.trod enc Try.prog W 0 (fun _ => true) true fuel t [v] = some x) :
    ∃ (ρ' : Map) (ext : M) (xv : Value) (l : List α), ρ.le ρ' ∧ Rel ρ' (m ++ ext) W ∧ (∀ row ∈ (m ++ ext : M), row.ro = true) ∧ VRel ρ' xv v ∧ ((l = [] ∧ (xv = nilS ∨ xv = emS)) ∨ ∃ p row, xv = slo p 0 l.length l.length ∧ (m ++ ext)[p]? = some row ∧ row.esz = z ∧ row.cells = l.flatMap f) := by
  rcases Go.Deep.open_slice ht h with ⟨hc, hx⟩ | ⟨a, len, cap, k, n, D, Pl, hc, _, hlen, _, hmm, hx, hall⟩
  · simp only [List.cons.injEq, and_true] at hc
    subst hc
    exact ⟨ρ, [], nilS, [], Map.le_refl _, by simpa using hR, by simpa using hro, .sliceNil, .inl ⟨rfl, .inl rfl⟩⟩
  · simp only [List.cons.injEq, and_true] at hc
    subst hc
    simp only [if_true] at hmm
    subst hmm
    by_cases hk0 : k = 0
    · subst hk0
      obtain rfl : len = 0 := by omega
      exact ⟨ρ, [], emS, [], Map.le_refl _, by simpa using hR, by simpa using hro, .sliceE, .inl ⟨rfl, .inr rfl⟩⟩
    · have h0 := hall 0 (by omega)
      obtain ⟨cs0, c0, _⟩ := h0
      rw [ce] at c0
      obtain ⟨_, hl0, hcell0⟩ := World.cells?_some c0
      have hc00 := hcell0 0 (by omega)
      rw [Nat.zero_mul] at hc00
      have hspot : a.spot = none ∧ ∃ C T fz, W.heap[a.block]? = some (.cells C T fz) := by
        have e1 : (a.add 0).add 0 = a := by simp [Addr.add]
        rw [e1] at hc00
        unfold World.cell? at hc00
        have hpos : 0 < cs0.length := by omega
        cases hh : W.heap[a.block]? with
        | none => rw [hh] at hc00; simp [hpos] at hc00
        | some o =>
          rw [hh] at hc00
          cases o with
          | cells C T fz =>
            simp only at hc00
            split at hc00
            · simp [hpos] at hc00
            · rename_i hs
              exact ⟨by simpa using hs, C, T, fz, rfl⟩
          | _ => simp [hpos] at hc00
      obtain ⟨bk, off, spot⟩ := a
      obtain ⟨hsp, C, T, fz, hheap⟩ := hspot
      simp only at hsp hheap
      subst hsp
      have each : ∀ i, i < k → ∃ b : α, ∀ q, q < z → C[off + i * z + q]? = (f b)[q]? := fun i hi => by
        obtain ⟨cs', c1, c2⟩ := hall i hi
        obtain ⟨b, rfl⟩ := hQ _ _ _ c2
        rw [ce] at c1
        obtain ⟨_, _, hcell⟩ := World.cells?_some c1
        refine ⟨b, fun q hq => ?_⟩
        have := hcell q hq
        rw [addr_add, addr_add] at this
        unfold World.cell? at this
        simp only [hheap] at this
        simpa using this
      obtain ⟨g, hg⟩ := Go.Deep.choose_lt each
      have hcap : off + k * z ≤ C.size := by
        have h1 := hg (k - 1) (by omega) (z - 1) (by omega)
        have h2 : (f (g (k - 1)))[z - 1]? = some ((f (g (k - 1)))[z - 1]'(by rw [hl]; omega)) := List.getElem?_eq_getElem _
        rw [h2] at h1
        have h3 := (Array.getElem?_eq_some_iff.1 h1).1
        have h4 : (k - 1 + 1) * z = (k - 1) * z + z := Nat.add_one_mul _ _
        rw [show k - 1 + 1 = k by omega] at h4
        omega
      let l : List α := (List.range len).map g
      have hll : l.length = len := by simp [l]
      have hlz : len * z ≤ k * z := Nat.mul_le_mul_right _ hlen
      obtain ⟨ρ', hle, hρ, hR', hro'⟩ := rel_addro (esz := z) (off := off) hR hro hheap (l.flatMap f) (by rw [flat_len hl, hll]; omega) (fun j v hj => by
        obtain ⟨i, q, hi, hq, rfl, hv⟩ := flat_get hl l j v hj
        have e : l[i] = g i := by simp [l]
        rw [e] at hv
        refine ⟨v, ?_, hs _ v (List.mem_of_getElem? hv) ρ⟩
        rw [← Nat.add_assoc, hg i (by omega) q hq, hv])
      refine ⟨ρ', _, slo m.length 0 l.length l.length, l, hle, hR', hro', ?_, .inr ⟨m.length, _, rfl, List.getElem?_concat_length, rfl, rfl⟩⟩
      rw [hll]
      exact .slice hρ (Nat.le_refl _) hlen (fun h => by simp at h) (.inr rfl) hcap rfl
theorem openFlat_lst {z : Nat} {α : Type} [Inhabited α] {f : α → List Value} (hl : ∀ a, (f a).length = z) {m : M} {xv : Value} {l : List α} (h : (l = [] ∧ (xv = nilS ∨ xv = emS)) ∨ ∃ p row, xv = slo p 0 l.length l.length ∧ m[p]? = some row ∧ row.esz = z ∧ row.cells = l.flatMap f) : Lst (fun _ => 0) 0 z m xv l.length (fun i => f ((l[i]?).getD default)) := by
  rcases h with ⟨rfl, rfl | rfl⟩ | ⟨p, row, rfl, h1, h2, h3⟩
  · exact ⟨none, 0, rfl, fun h => absurd h (Nat.lt_irrefl 0)⟩
  · exact ⟨_, 0, rfl, fun h => absurd h (Nat.lt_irrefl 0)⟩
  · refine ⟨_, _, rfl, fun _ => ⟨p, 0, rfl, (List.getElem?_eq_some_iff.1 h1).1, rfl, fun i hi j v hj => ?_⟩⟩
    have e := flat_cell hl l i hi
    have hd : (l[i]?).getD default = l[i] := by simp [hi]
    simp only [hd] at hj
    unfold mcell
    rw [h1]
    simp only
    rw [h3]
    have : (((l.flatMap f).drop (i * z)).take z)[j]? = some v := by rw [e]; exact hj
    rw [List.getElem?_take] at this
    split at this
    · rw [List.getElem?_drop] at this
      rw [Nat.zero_add]; exact this
    · simp at this
theorem Lst.app {own : Nat → Nat} {t z n : Nat} {m : M} {v : Value} {C : Nat → List Value} (h : Lst own t z m v n C) (x : List Row) : Lst own t z (m ++ x) v n C := h.push x
theorem Evs.app {own : Nat → Nat} {t : Nat} {m : M} {v : Value} {l : List Evt} (h : Evs own t m v l) (x : List Row) : Evs own t (m ++ x) v l := h.push x
theorem un22 : Try.prog.underlying 22 = some (.slice 3) := by kernel_rfl
theorem un45 : Try.prog.underlying 45 = some (.slice 72) := by kernel_rfl
theorem un72 : Try.prog.underlying 72 = some (.struct (Try.prog.fieldsOf 72)) := by kernel_rfl
theorem ce22 : Try.prog.cellsOf 22 = 1 := by kernel_rfl
theorem ce72 : Try.prog.cellsOf 72 = 5 := by kernel_rfl
theorem openIntsC {H : Type} {enc : TypeId × Value → H} {W : World} {ρ : Map} {m : M} (hR : Rel ρ m W) (hro : ∀ row ∈ m, row.ro = true) {fuel : Nat} {v : Value} {x : DataW H × List MemPlace} (h : DataW.trod enc Try.prog W 0 (fun _ => true) true fuel 22 [v] = some x) :
    ∃ (ρ' : Map) (ext : M) (xv : Value) (l : List Int), ρ.le ρ' ∧ Rel ρ' (m ++ ext) W ∧ (∀ row ∈ (m ++ ext : M), row.ro = true) ∧ VRel ρ' xv v ∧ Nums (fun _ => 0) 0 (m ++ ext) xv l := by
  obtain ⟨ρ', ext, xv, l, h1, h2, h3, h4, h5⟩ := openFlat un22 ce3 (by omega) (fun z : Int => [vi z]) (fun _ => rfl) (fun a v hv ρ => by simp only [List.mem_singleton] at hv; subst hv; exact .int _ _) (fun n cs x hx => by
    obtain ⟨z, hz, _⟩ := DataW.trod_int u3 hx
    exact ⟨z, hz⟩) hR hro h
  exact ⟨ρ', ext, xv, l, h1, h2, h3, h4, openFlat_lst (f := fun z : Int => [vi z]) (z := 1) (fun _ => rfl) h5⟩
theorem fs72 : (Try.prog.fieldsOf 72).map (fun f => (f.type, f.offset)) = #[(3, 0), (3, 1), (3, 2), (3, 3), (22, 4)] := by kernel_rfl
theorem fa72 {j t o : Nat} (h : (#[(3, 0), (3, 1), (3, 2), (3, 3), (22, 4)] : Array (Nat × Nat))[j]? = some (t, o)) : ∃ f, (Try.prog.fieldsOf 72)[j]? = some f ∧ f.type = t ∧ f.offset = o := by
  have e := congrArg (·[j]?) fs72
  simp only [Array.getElem?_map] at e
  rw [h] at e
  cases hf : (Try.prog.fieldsOf 72)[j]? with
  | none => simp [hf] at e
  | some f =>
    simp only [hf, Option.map_some, Option.some.injEq, Prod.mk.injEq] at e
    exact ⟨f, rfl, e.1, e.2⟩
set_option maxRecDepth 100000 in
theorem evt_of_trod {H : Type} {enc : TypeId × Value → H} {W : World} {n : Nat} {cs : List Value} {x : DataW H × List MemPlace} (h : DataW.trod enc Try.prog W 0 (fun _ => true) true n 72 cs = some x) : ∃ a b c d u, cs = [vi a, vi b, vi c, vi d, u] ∧ ∃ n' x', DataW.trod enc Try.prog W 0 (fun _ => true) true n' 22 [u] = some x' := by
  obtain ⟨xs, m, _, hx, hl, hlen, hg⟩ := DataW.trod_struct un72 h
  have hc : cs.length = 5 := by rw [ce72] at hl; exact hl
  have hs : (Try.prog.fieldsOf 72).size = 5 := by kernel_rfl
  have hxl : xs.length = 5 := by omega
  have key : ∀ j, j < 5 → (#[(3, 0), (3, 1), (3, 2), (3, 3), (22, 4)] : Array (Nat × Nat))[j]? = some (3, j) → ∃ z, cs[j]? = some (vi z) := by
    intro j hj h1
    obtain ⟨f, e1, e2, e3⟩ := fa72 h1
    have h4 := hg j _ e1
    rw [e2, e3, ce3] at h4
    have e2 : xs[j]? = some xs[j] := by simp
    rw [e2] at h4
    exact trod_cell u3 h4
  obtain ⟨a, h0⟩ := key 0 (by omega) rfl
  obtain ⟨b, h1⟩ := key 1 (by omega) rfl
  obtain ⟨c, h2⟩ := key 2 (by omega) rfl
  obtain ⟨d, h3⟩ := key 3 (by omega) rfl
  obtain ⟨f, e1, e2, e3⟩ := fa72 (j := 4) (t := 22) (o := 4) rfl
  have h4 := hg 4 _ e1
  rw [e2, e3, ce22] at h4
  match cs, hc with
  | [c0, c1, c2, c3, u], _ =>
    simp at h0 h1 h2 h3
    subst h0 h1 h2 h3
    refine ⟨a, b, c, d, u, rfl, m, xs[4]'(by omega), ?_⟩
    have e2 : xs[4]? = some (xs[4]'(by omega)) := List.getElem?_eq_getElem _
    rw [e2] at h4
    exact h4
theorem openEvsC {H : Type} {enc : TypeId × Value → H} {W : World} {ρ : Map} {m : M} (hR : Rel ρ m W) (hro : ∀ row ∈ m, row.ro = true) {fuel : Nat} {v : Value} {x : DataW H × List MemPlace} (h : DataW.trod enc Try.prog W 0 (fun _ => true) true fuel 45 [v] = some x) :
    ∃ (ρ' : Map) (ext : M) (xv : Value) (l : List Evt), ρ.le ρ' ∧ Rel ρ' (m ++ ext) W ∧ (∀ row ∈ (m ++ ext : M), row.ro = true) ∧ VRel ρ' xv v ∧ Evs (fun _ => 0) 0 (m ++ ext) xv l := by
  have nilE : ∀ (xv : Value) (m : M), (∃ a c, xv = .slice a 0 c) → Evs (fun _ => 0) 0 m xv [] := fun xv m ⟨a, c, e⟩ => ⟨fun _ => nilS, ⟨a, c, e, fun h => absurd h (Nat.lt_irrefl 0)⟩, fun i h => by simp at h⟩
  rcases Go.Deep.open_slice un45 h with ⟨hc, hx⟩ | ⟨a, len, cap, k, n, D, Pl, hc, _, hlen, _, hmm, hx, hall⟩
  · simp only [List.cons.injEq, and_true] at hc
    subst hc
    exact ⟨ρ, [], nilS, [], Map.le_refl _, by simpa using hR, by simpa using hro, .sliceNil, nilE _ _ ⟨_, _, rfl⟩⟩
  · simp only [List.cons.injEq, and_true] at hc
    subst hc
    simp only [if_true] at hmm
    subst hmm
    by_cases hk0 : k = 0
    · subst hk0
      obtain rfl : len = 0 := by omega
      exact ⟨ρ, [], emS, [], Map.le_refl _, by simpa using hR, by simpa using hro, .sliceE, nilE _ _ ⟨_, _, rfl⟩⟩
    · have h0 := hall 0 (by omega)
      obtain ⟨cs0, c0, _⟩ := h0
      rw [ce72] at c0
      obtain ⟨_, hl0, hcell0⟩ := World.cells?_some c0
      have hc00 := hcell0 0 (by omega)
      rw [Nat.zero_mul] at hc00
      have hspot : a.spot = none ∧ ∃ C T fz, W.heap[a.block]? = some (.cells C T fz) := by
        have e1 : (a.add 0).add 0 = a := by simp [Addr.add]
        rw [e1] at hc00
        unfold World.cell? at hc00
        have hpos : 0 < cs0.length := by omega
        cases hh : W.heap[a.block]? with
        | none => rw [hh] at hc00; simp [hpos] at hc00
        | some o =>
          rw [hh] at hc00
          cases o with
          | cells C T fz =>
            simp only at hc00
            split at hc00
            · simp [hpos] at hc00
            · rename_i hs
              exact ⟨by simpa using hs, C, T, fz, rfl⟩
          | _ => simp [hpos] at hc00
      obtain ⟨bk, off, spot⟩ := a
      obtain ⟨hsp, C, T, fz, hheap⟩ := hspot
      simp only at hsp hheap
      subst hsp
      have each : ∀ i, i < k → ∃ b : List Value × Evt × Value, (∃ n' x', DataW.trod enc Try.prog W 0 (fun _ => true) true n' 22 [b.2.2] = some x') ∧ b.1 = evC b.2.1 b.2.2 ∧ ∀ q, q < 5 → C[off + i * 5 + q]? = b.1[q]? := fun i hi => by
        obtain ⟨cs', c1, c2⟩ := hall i hi
        obtain ⟨a1, a2, a3, a4, u, rfl, hu⟩ := evt_of_trod c2
        rw [ce72] at c1
        obtain ⟨_, _, hcell⟩ := World.cells?_some c1
        refine ⟨([vi a1, vi a2, vi a3, vi a4, u], ⟨a1, a2, a3, a4, []⟩, u), hu, rfl, fun q hq => ?_⟩
        have := hcell q hq
        rw [addr_add, addr_add] at this
        unfold World.cell? at this
        simp only [hheap] at this
        simpa using this
      obtain ⟨g, hg⟩ := Go.Deep.choose_lt each
      have hcap : off + k * 5 ≤ C.size := by
        have h1 := (hg (k - 1) (by omega)).2.2 4 (by omega)
        rw [(hg (k - 1) (by omega)).2.1] at h1
        have h3 := (Array.getElem?_eq_some_iff.1 h1).1
        omega
      have many : ∀ q, q ≤ len → ∃ (ρ' : Map) (ext : M) (us : List Value) (l : List Evt), ρ.le ρ' ∧ Rel ρ' (m ++ ext) W ∧ (∀ row ∈ (m ++ ext : M), row.ro = true) ∧ us.length = q ∧ l.length = q ∧ ∀ i, i < q → ∀ h1 : i < us.length, ∀ h2 : i < l.length, VRel ρ' us[i] (g i).2.2 ∧ Nums (fun _ => 0) 0 (m ++ ext) us[i] l[i].clk ∧ l[i].st = (g i).2.1.st ∧ l[i].what = (g i).2.1.what ∧ l[i].other = (g i).2.1.other ∧ l[i].pcs = (g i).2.1.pcs := by
        intro q
        induction q with
        | zero => exact fun _ => ⟨ρ, [], [], [], Map.le_refl _, by simpa using hR, by simpa using hro, rfl, rfl, fun i h => by omega⟩
        | succ q ih =>
          intro hq
          obtain ⟨ρ1, ext1, us, l, a1, a2, a3, a4, a5, a6⟩ := ih (by omega)
          obtain ⟨⟨n', x', hu⟩, _⟩ := hg q (by omega)
          obtain ⟨ρ2, ext2, u, r, b1, b2, b3, b4, b5⟩ := openIntsC a2 a3 hu
          rw [List.append_assoc] at b2 b3 b5
          refine ⟨ρ2, ext1 ++ ext2, us ++ [u], l ++ [⟨(g q).2.1.st, (g q).2.1.what, (g q).2.1.other, (g q).2.1.pcs, r⟩], Map.le_trans a1 b1, b2, b3, by simp [a4], by simp [a5], fun i hiq h1 h2 => ?_⟩
          by_cases hi : i < q
          · rw [List.getElem_append_left (by omega), List.getElem_append_left (by omega)]
            obtain ⟨c1, c2, c3⟩ := a6 i hi (by omega) (by omega)
            refine ⟨c1.mono b1, ?_, c3⟩
            rw [← List.append_assoc]
            exact c2.push ext2
          · have hi : i = q := by omega
            subst hi
            have e1 : (us ++ [u])[i] = u := by rw [List.getElem_append_right (by omega)]; simp [a4]
            have e2 : (l ++ [(⟨(g i).2.1.st, (g i).2.1.what, (g i).2.1.other, (g i).2.1.pcs, r⟩ : Evt)])[i] = ⟨(g i).2.1.st, (g i).2.1.what, (g i).2.1.other, (g i).2.1.pcs, r⟩ := by rw [List.getElem_append_right (by omega)]; simp [a5]
            rw [e1, e2]
            exact ⟨b4, b5, rfl, rfl, rfl, rfl⟩
      obtain ⟨ρ1, ext1, us, l, a1, a2, a3, a4, a5, a6⟩ := many len (Nat.le_refl _)
      let F : Nat × Value → List Value := fun p => evC (evt l p.1) p.2
      let L : List (Nat × Value) := (List.range len).map fun i => (i, us.getD i nilS)
      have hLl : L.length = len := by simp [L]
      have hLi : ∀ i (h : i < L.length), L[i] = (i, us.getD i nilS) := fun i h => by simp [L]
      have hlz : len * 5 ≤ k * 5 := Nat.mul_le_mul_right _ hlen
      obtain ⟨ρ', hle, hρ, hR', hro'⟩ := rel_addro (esz := 5) (off := off) a2 a3 hheap (L.flatMap F) (by rw [flat_len (f := F) (z := 5) (fun _ => rfl), hLl]; omega) (fun j v hj => by
        obtain ⟨i, q, hi, hq, rfl, hv⟩ := flat_get (f := F) (z := 5) (fun _ => rfl) L j v hj
        rw [hLi i hi] at hv
        rw [hLl] at hi
        have hul : i < us.length := by omega
        have hll : i < l.length := by omega
        have hud : us.getD i nilS = us[i] := by simp [List.getD, hul]
        obtain ⟨c1, _, c3, c4, c5, c6⟩ := a6 i hi hul hll
        obtain ⟨_, g2, g3⟩ := hg i (by omega)
        have hev : evt l i = l[i] := evt_get hll
        have hCq := g3 q hq
        rw [g2] at hCq
        rw [← Nat.add_assoc, hCq]
        simp only [F, hud, hev, evC, c3, c4, c5, c6] at hv
        unfold evC
        match q, hq with
        | 0, _ | 1, _ | 2, _ | 3, _ =>
          simp at hv
          subst hv
          exact ⟨_, rfl, .int _ _⟩
        | 4, _ =>
          simp at hv
          subst hv
          exact ⟨_, rfl, c1⟩)
      rw [List.append_assoc] at hR' hro'
      refine ⟨ρ', _, slo (m ++ ext1).length 0 len len, l, Map.le_trans a1 hle, hR', hro', .slice hρ (Nat.le_refl _) hlen (fun h => by simp at h) (.inr rfl) hcap rfl, fun i => us.getD i nilS, ⟨_, _, by rw [a5], fun h => ⟨(m ++ ext1).length, 0, rfl, by rw [← List.append_assoc]; simp, rfl, fun i hi j v hj => ?_⟩⟩, fun i hi => ?_⟩
      · have hrow : (m ++ (ext1 ++ [({ esz := 5, ex := false, ro := true, cells := L.flatMap F } : Row)]))[(m ++ ext1).length]? = some { esz := 5, ex := false, ro := true, cells := L.flatMap F } := by
          rw [← List.append_assoc]
          exact List.getElem?_concat_length
        unfold mcell
        rw [hrow]
        simp only
        have hiL : i < L.length := by omega
        have e := flat_cell (f := F) (z := 5) (fun _ => rfl) L i hiL
        rw [hLi i hiL] at e
        have hj5 : j < 5 := (List.getElem?_eq_some_iff.1 hj).1
        have : (((L.flatMap F).drop (i * 5)).take 5)[j]? = some v := by rw [e]; exact hj
        rw [List.getElem?_take, if_pos hj5, List.getElem?_drop] at this
        rw [Nat.zero_add]
        exact this
      · have hul : i < us.length := by omega
        have hud : us.getD i nilS = us[i] := by simp [List.getD, hul]
        show Nums (fun _ => 0) 0 _ (us.getD i nilS) (evt l i).clk
        rw [hud, evt_get hi, ← List.append_assoc]
        exact (a6 i (by omega) hul hi).2.1.push _
section
variable {H : Type} {enc : TypeId × Value → H} {W : World} {b0 : Nat} {v : Value} {d : DataW H} {p : List MemPlace} {ρ : Map} {m : M} (hR : Rel ρ m W) (hro : ∀ row ∈ m, row.ro = true)
include hR hro
set_option maxRecDepth 100000
theorem openInt (hval : Value.okWide Try.prog W .any b0 3 v) (hd : DataW.Trod enc Try.prog W 0 (fun _ => true) true 3 v d p) :
    ∃ (ρ' : Map) (ext : M) (xv : Value) (n : Int), ρ.le ρ' ∧ Rel ρ' (m ++ ext) W ∧ (∀ row ∈ (m ++ ext : M), row.ro = true) ∧ VRel ρ' xv v ∧ xv = vi n := by
  obtain ⟨a0, rfl, _⟩ := open_int u3 hval hd
  exact ⟨ρ, [], vi a0, a0, Map.le_refl _, by simpa using hR, by simpa using hro, .int _ _, rfl⟩
theorem openInts (hval : Value.okWide Try.prog W .any b0 22 v) (hd : DataW.Trod enc Try.prog W 0 (fun _ => true) true 22 v d p) :
    ∃ (ρ' : Map) (ext : M) (xv : Value) (l : List Int), ρ.le ρ' ∧ Rel ρ' (m ++ ext) W ∧ (∀ row ∈ (m ++ ext : M), row.ro = true) ∧ VRel ρ' xv v ∧ Nums (fun _ => 0) 0 (m ++ ext) xv l := by
  obtain ⟨fuel, hf⟩ := hd
  obtain ⟨a, len, cap, rfl⟩ := okWide_slice un22 hval
  exact openIntsC hR hro hf
theorem openEvs (hval : Value.okWide Try.prog W .any b0 45 v) (hd : DataW.Trod enc Try.prog W 0 (fun _ => true) true 45 v d p) :
    ∃ (ρ' : Map) (ext : M) (xv : Value) (l : List Evt), ρ.le ρ' ∧ Rel ρ' (m ++ ext) W ∧ (∀ row ∈ (m ++ ext : M), row.ro = true) ∧ VRel ρ' xv v ∧ Evs (fun _ => 0) 0 (m ++ ext) xv l := by
  obtain ⟨fuel, hf⟩ := hd
  obtain ⟨a, len, cap, rfl⟩ := okWide_slice un45 hval
  exact openEvsC hR hro hf
end
end Go.AM
