import Derived.Carry
import Derived.Deep.DeepHandedRow
import Derived.Deep.SlicePairs
import Derived.Deep.Strs
import Derived.Handy
import Derived.JoinedCond
import Derived.KernelRfl
import Derived.Laws.BytesArg
import Derived.Laws.StructEq
import Derived.Lib.LaidTab
import Derived.Maps.AppendAt
import Derived.Maps.OwnOps
import Derived.Maps.RangeRun
import Derived.Maps.RangeWalk
import Derived.OpenShut
import Derived.ProofKit
import Derived.Test.YtcgohiiihhplgaaDoorCards
import Derived.Test.YtcgohiiihhplgaaDoorRows
import Derived.Test.YtcgohiiihhplgaaDoorTie
import Derived.WalkKit
import Derived.Test.YtcgohiiihhplgaaDoorAmB
import Derived.Test.YtcgohiiihhplgaaDoorAmModel
import Derived.Test.YtcgohiiihhplgaaDoorAmOps6
import Derived.Test.YtcgohiiihhplgaaDoorAmCode
import Derived.Test.YtcgohiiihhplgaaDoorAmK2
import Derived.Test.YtcgohiiihhplgaaDoorAmEq
import Derived.Test.YtcgohiiihhplgaaDoorRBase
import Derived.Test.YtcgohiiihhplgaaDoorB1
import Derived.Test.YtcgohiiihhplgaaDoorK1
import Derived.Test.YtcgohiiihhplgaaDoorR6
import Derived.Test.YtcgohiiihhplgaaDoorR41
import Derived.Test.YtcgohiiihhplgaaDoorR42
import Derived.Test.YtcgohiiihhplgaaDoorD3
import Derived.Test.YtcgohiiihhplgaaDoorK3
import Derived.Test.YtcgohiiihhplgaaDoorAmS
import Derived.Test.YtcgohiiihhplgaaDoorK4
import Derived.Test.YtcgohiiihhplgaaDoorK5
import Derived.Test.YtcgohiiihhplgaaDoorK6
import Derived.Test.YtcgohiiihhplgaaDoorS13
import Derived.Test.YtcgohiiihhplgaaDoorS14
import Derived.Test.YtcgohiiihhplgaaDoorCB
import Derived.Test.YtcgohiiihhplgaaDoorD0
import Derived.Test.YtcgohiiihhplgaaDoorDet1
import Derived.Test.YtcgohiiihhplgaaDoorDH1
import Derived.Test.YtcgohiiihhplgaaDoorD4
import Derived.Test.YtcgohiiihhplgaaDoorM1
import Derived.Test.YtcgohiiihhplgaaDoorM2
set_option linter.unusedVariables false
set_option linter.unusedSimpArgs false
set_option linter.unusedSectionVars false
namespace Go.AM
open Go Go.Proofs
open Go.ChangeShapes Go.WideShapes
theorem rel_addro {ρ : Map} {m : M} {W : World} (hR : Rel ρ m W) (hro : ∀ row ∈ m, row.ro = true) {bk off esz : Nat} {C : Array Value} {T : TypeId} {fz : _} (hheap : W.heap[bk]? = some (.cells C T fz)) (cells : List Value) (hbk : bk ≠ 0) (hsz : off + cells.length ≤ C.size)
    (hc : ∀ j v, cells[j]? = some v → C[off + j]? = some v ∧ ∀ ρ : Map, VRel ρ v v) :
    ∃ ρ' : Map, ρ.le ρ' ∧ ρ' m.length = some ⟨bk, off, C.size, esz, false⟩ ∧ Rel ρ' (m ++ [{ esz := esz, ex := false, ro := true, cells := cells }]) W ∧ ∀ row ∈ (m ++ [{ esz := esz, ex := false, ro := true, cells := cells }] : M), row.ro = true := by
  have hnone : ρ m.length = none := by
    cases e : ρ m.length with
    | none => rfl
    | some l => have := hR.dom _ _ e; omega
  let ρ' : Map := fun r => if r = m.length then some ⟨bk, off, C.size, esz, false⟩ else ρ r
  have hle : ρ.le ρ' := by
    intro r l hr
    have : r ≠ m.length := by intro e; subst e; rw [hnone] at hr; simp at hr
    simp [ρ', this, hr]
  have hro' : ∀ row ∈ (m ++ [{ esz := esz, ex := false, ro := true, cells := cells }] : M), row.ro = true := by
    intro row h
    rcases List.mem_append.1 h with h | h
    · exact hro row h
    · simp only [List.mem_singleton] at h
      subst h; rfl
  have cs : ∀ r l, ρ' r = some l → (r = m.length ∧ l = ⟨bk, off, C.size, esz, false⟩) ∨ (r ≠ m.length ∧ ρ r = some l) := by
    intro r l h
    by_cases e : r = m.length
    · simp only [ρ', if_pos e, Option.some.injEq] at h
      exact .inl ⟨e, h.symm⟩
    · simp only [ρ', if_neg e] at h
      exact .inr ⟨e, h⟩
  refine ⟨ρ', hle, by simp [ρ'], ⟨fun r l h => ?_, fun r l row h hr => ?_, fun r r' l l' row row' h h' hne hr hr' hf => ?_, ?_⟩, hro'⟩
  · rcases cs r l h with ⟨rfl, _⟩ | ⟨_, h⟩
    · simp
    · have := hR.dom r l h
      simp; omega
  · rcases cs r l h with ⟨rfl, rfl⟩ | ⟨hne, h⟩
    · simp only [List.getElem?_concat_length, Option.some.injEq] at hr
      subst hr
      refine ⟨rfl, rfl, C, T, fz, hheap, rfl, hsz, fun h => by simp at h, fun j v hj => ?_⟩
      obtain ⟨h1, h2⟩ := hc j v hj
      exact ⟨v, h1, h2 ρ'⟩
    · have hlt := hR.dom r l h
      rw [List.getElem?_append_left hlt] at hr
      obtain ⟨h1, h2, C', T', fz', h3, h4, h5, h6, h7⟩ := hR.row r l row h hr
      refine ⟨h1, h2, C', T', fz', h3, h4, h5, h6, fun j v hj => ?_⟩
      obtain ⟨v', h8, h9⟩ := h7 j v hj
      exact ⟨v', h8, h9.mono hle⟩
  · have := hro' row (List.mem_of_getElem? hr)
    rw [this] at hf
    simp at hf
  · refine hR.gl.of (fun _ _ => rfl) (fun hf _ r l h => ?_)
    rcases cs r l h with ⟨_, rfl⟩ | ⟨_, h⟩
    · exact hbk
    · exact hf r l h
theorem lies_le_str {p : Program} {d : Nat} {e u : TypeId} {count off n : Nat} (hu : p.underlying u = some .string) (h : liesAt p d e count off u n = true) : off ≤ count * p.cellsOf e := by
  cases d with
  | zero => simp [liesAt] at h
  | succ d =>
    unfold liesAt at h
    rw [hu] at h
    simp only [Bool.or_false] at h
    generalize p.depth = dd at h
    generalize (fun x => sameLayout p dd x u) = fit at h
    cases dd with
    | zero => simp [rowAt] at h
    | succ dd =>
      unfold rowAt at h
      simp only at h
      by_cases hs : p.cellsOf e = 0
      · rw [if_pos hs] at h
        simp at h
      · rw [if_neg hs] at h
        have hm := Nat.div_add_mod off (p.cellsOf e)
        have hmod := Nat.mod_lt off (Nat.pos_of_ne_zero hs)
        rw [Bool.or_eq_true] at h
        rcases h with h | h
        · simp only [Bool.and_eq_true, beq_iff_eq, decide_eq_true_eq] at h
          have h1 : off / p.cellsOf e ≤ count := by omega
          have h2 : p.cellsOf e * (off / p.cellsOf e) ≤ p.cellsOf e * count := Nat.mul_le_mul_left _ h1
          rw [Nat.mul_comm count]
          omega
        · rw [Bool.and_eq_true] at h
          have h1 : off / p.cellsOf e < count := by simpa using h.1
          have h2 : p.cellsOf e * (off / p.cellsOf e + 1) ≤ p.cellsOf e * count := Nat.mul_le_mul_left _ h1
          rw [Nat.mul_add] at h2
          rw [Nat.mul_comm count]
          omega
theorem addr_add (bk off n : Nat) : (⟨bk, off, none⟩ : Addr).add n = ⟨bk, off + n, none⟩ := by
  unfold Addr.add
  split
  · rename_i h
    simp_all
  · rfl
def Same (W W' : World) : Prop := ∀ b, b < W.heap.size → W'.heap[b]? = W.heap[b]?
theorem Same.cell {W W' : World} (h : Same W W') {a : Addr} {v : Value} (hc : W.cell? a = some v) : W'.cell? a = some v := by
  have hb : a.block < W.heap.size := by
    unfold World.cell? at hc
    cases e : W.heap[a.block]? with
    | none => rw [e] at hc; simp at hc
    | some o => exact (Array.getElem?_eq_some_iff.1 e).1
  unfold World.cell? at hc ⊢
  rw [h _ hb]
  exact hc
theorem un22 : Tryd.prog.underlying 22 = some (.slice 9) := by kernel_rfl
theorem un9 : Tryd.prog.underlying 9 = some .string := by kernel_rfl
theorem ce9 : Tryd.prog.cellsOf 9 = 1 := by kernel_rfl
theorem un126' : Tryd.prog.underlying 126 = some (.array 64 5) := by kernel_rfl
theorem un5' : Tryd.prog.underlying 5 = some (.int .u8) := by kernel_rfl
theorem ce126 : Tryd.prog.cellsOf 126 = 64 := by kernel_rfl
theorem ce5 : Tryd.prog.cellsOf 5 = 1 := by kernel_rfl
/-- Nothing but bytes lies in the laid table. -/
theorem lies0 {u : TypeId} (h126 : sameLayout Tryd.prog Tryd.prog.depth 126 u = false) (h5 : sameLayout Tryd.prog Tryd.prog.depth 5 u = false) (hun : ∀ m e, Tryd.prog.underlying u ≠ some (.array m e)) (count off n : Nat) : liesAt Tryd.prog Tryd.prog.depth 126 count off u n = false := by
  have hrow5 : ∀ d c o k, rowAt Tryd.prog (sameLayout Tryd.prog Tryd.prog.depth · u) d 5 c o k = false := by
    intro d c o k
    cases d with
    | zero => rfl
    | succ d =>
      unfold rowAt
      simp only [ce5, h5, un5', Bool.and_false, Bool.or_self, Nat.one_ne_zero, if_false]
  have hrow : ∀ d c o k, rowAt Tryd.prog (sameLayout Tryd.prog Tryd.prog.depth · u) d 126 c o k = false := by
    intro d c o k
    cases d with
    | zero => rfl
    | succ d =>
      unfold rowAt
      simp only [ce126, h126, un126', hrow5, Bool.and_false, Bool.or_self]
      simp
  generalize hd : Tryd.prog.depth = D at hrow ⊢
  cases D with
  | zero => rfl
  | succ D =>
    unfold liesAt
    have : sameLayout Tryd.prog (D + 1) = sameLayout Tryd.prog Tryd.prog.depth := by rw [hd]
    rw [hd]
    rw [hrow, Bool.false_or]
    split
    · rename_i m u' e
      exact absurd e (hun m u')
    · rfl
theorem lies9 (count off n : Nat) : liesAt Tryd.prog Tryd.prog.depth 126 count off 9 n = false :=
  lies0 (by kernel_rfl) (by kernel_rfl) (fun m e h => by rw [un9] at h; simp at h) count off n
set_option maxRecDepth 100000 in
theorem openStrs {H : Type} {enc : TypeId × Value → H} {W : World} {b0 : Nat} {v : Value} {d : DataW H} {p : List MemPlace} {ρ : Map} {m : M} (hR : Rel ρ m W) (hro : ∀ row ∈ m, row.ro = true) (h0 : ∀ C T fz, W.heap[0]? = some (.cells C T fz) → T = 126)
    (hval : Value.okWide Tryd.prog W .any b0 22 v) (hd : DataW.Trod enc Tryd.prog W 0 (fun _ => true) true 22 v d p) :
    ∃ (ρ' : Map) (ext : M) (xv : Value) (l : List ByteArray), ρ.le ρ' ∧ Rel ρ' (m ++ ext) W ∧ (∀ row ∈ (m ++ ext : M), row.ro = true) ∧ Strs (m ++ ext) xv l ∧ l.length ≤ 9223372036854775807 ∧ (∀ b ∈ l, b.size ≤ 9223372036854775807) ∧ VRel ρ' xv v ∧
      ∀ (W' : World) (sp : Nat → Bool), Same W W' → (∀ q ∈ p, sp q.block = true) → DataW.Trod enc Tryd.prog W' 0 sp true 22 v d p := by
  obtain ⟨fuel, hf⟩ := hd
  obtain ⟨a, len, cap, rfl⟩ := okWide_slice un22 hval
  have hf' : DataW.trod enc Tryd.prog W 0 (fun _ => true) true fuel 22 [.slice a len cap] = some (d, p) := hf
  rcases Go.Deep.open_strs un22 un9 ce9 hf' with ⟨hc, hx⟩ | ⟨a', len', cap', k, Sx, hc, _, hl, hm, hmm, hx, hall⟩
  · simp only [List.cons.injEq, and_true, Value.slice.injEq] at hc
    obtain ⟨rfl, rfl, rfl⟩ := hc
    simp only [Prod.mk.injEq] at hx
    obtain ⟨rfl, rfl⟩ := hx
    refine ⟨ρ, [], nilS, [], Map.le_refl _, by simpa using hR, by simpa using hro, .inl ⟨rfl, rfl⟩, by simp, by simp, .sliceNil, fun W' sp _ _ => ⟨1, ?_⟩⟩
    show DataW.trod enc Tryd.prog W' 0 sp true 1 22 [.slice none 0 0] = _
    unfold DataW.trod
    rw [un22]
    rfl
  · simp only [List.cons.injEq, and_true, Value.slice.injEq] at hc
    obtain ⟨rfl, rfl, rfl⟩ := hc
    simp only [if_true] at hmm
    subst hmm
    simp only [Prod.mk.injEq] at hx
    obtain ⟨rfl, rfl⟩ := hx
    simp only [Value.okWide, un22, Cell.okWide, Cell.ok] at hval
    obtain ⟨_, _, _, hspot, row, cells, hshape, hlies⟩ := hval
    obtain ⟨bk, off, spot⟩ := a'
    simp only at hspot hlies hshape
    subst hspot
    unfold World.shape? at hshape
    cases hheap : W.heap[bk]? with
    | none => rw [hheap] at hshape; simp at hshape
    | some o =>
      rw [hheap] at hshape
      cases o with
      | cells C T fz =>
        simp only [Option.some.injEq, Prod.mk.injEq] at hshape
        obtain ⟨rfl, rfl⟩ := hshape
        have hbk : bk ≠ 0 := fun e => by
          subst e
          have := h0 C T fz hheap
          subst this
          rw [lies9] at hlies
          simp at hlies
        have hcell : ∀ i, i < k → C[off + i]? = some (.string (Sx i)) := fun i hi => by
          have h := (hall i hi).1
          rw [addr_add] at h
          unfold World.cell? at h
          simp only [hheap] at h
          simpa using h
        have hoff : off ≤ C.size := by
          exact Nat.le_trans (lies_le_str un9 hlies) (Nat.div_mul_le_self _ _)
        have hcap : off + k ≤ C.size := by
          by_cases hk0 : k = 0
          · omega
          · have := (Array.getElem?_eq_some_iff.1 (hcell (k - 1) (by omega))).1
            omega
        let l : List ByteArray := (List.range len).map Sx
        have hll : l.length = len := by simp [l]
        obtain ⟨ρ', hle, hρ, hR', hro'⟩ := rel_addro (esz := 1) (off := off) hR hro hheap (l.map Value.string) hbk (by rw [List.length_map, hll]; omega) (fun j v hj => by
          rw [List.getElem?_map] at hj
          cases e : l[j]? with
          | none => rw [e] at hj; simp at hj
          | some s =>
            rw [e] at hj
            simp only [Option.map_some, Option.some.injEq] at hj
            subst hj
            have hjl : j < len := by have := (List.getElem?_eq_some_iff.1 e).1; omega
            have hs : s = Sx j := by
              simp only [l, List.getElem?_map, List.getElem?_range hjl, Option.map_some, Option.some.injEq] at e
              exact e.symm
            subst hs
            exact ⟨hcell j (by omega), fun _ => .string _⟩)
        refine ⟨ρ', _, sl m.length len, l, hle, hR', hro', .inr ⟨m.length, _, by rw [hll], List.getElem?_concat_length, rfl⟩, by rw [hll]; have : maxLen = 9223372036854775807 := rfl; omega, fun b hb => ?_, ?_, fun W' sp hS hsp => ?_⟩
        · obtain ⟨i, hi, rfl⟩ := List.mem_map.1 hb
          have := (hall i (by have := List.mem_range.1 hi; omega)).2
          have h2 : maxLen = 9223372036854775807 := rfl
          omega
        · exact .slice hρ (Nat.le_refl _) hl (fun h => by simp at h) (.inr rfl) (by show off + k * 1 ≤ C.size; omega)
        · show ∃ n, DataW.trod enc Tryd.prog W' 0 sp true n 22 [.slice (some ⟨bk, off, none⟩) len k] = _
          have q0 : ∀ i, i < k → W'.cell? ⟨bk, off + i, none⟩ = some (.string (Sx i)) := fun i hi => hS.cell (by have e := (hall i hi).1; rw [addr_add] at e; exact e)
          cases hb : sp bk with
          | true => exact Go.Deep.shut_strs_whole un22 un9 ce9 (Nat.zero_le _) hl hm hb Sx q0 (fun i hi => (hall i hi).2)
          | false =>
            have hm0 : k = 0 := by
              apply Classical.byContradiction
              intro hne
              have := hsp (.cell bk (off + 0)) (by
                simp only [MemPlace.row, List.mem_map, List.mem_range]
                exact ⟨0, by omega, rfl⟩)
              simp only [MemPlace.block] at this
              rw [hb] at this
              simp at this
            subst hm0
            have hl0 : len = 0 := by omega
            subst hl0
            exact Go.Deep.shut_strs un22 un9 ce9 (Nat.zero_le _) (Nat.le_refl _) hm hb Sx q0 (fun i hi => (hall i hi).2)
      | _ => simp at hshape
end Go.AM
