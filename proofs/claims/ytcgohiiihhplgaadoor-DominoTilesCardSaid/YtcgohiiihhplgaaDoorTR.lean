import Derived.Carry
import Derived.ChangeSame
import Derived.Deep.DeepHandedRow
import Derived.Deep.SlicePairs
import Derived.Deep.Slices
import Derived.Deep.Strs
import Derived.Handy
import Derived.JoinedCond
import Derived.KernelRfl
import Derived.Laws.BytesArg
import Derived.Laws.StructEq
import Derived.Lib.LaidTab
import Derived.Maps.AppendAt
import Derived.Maps.OwnOps
import Derived.Maps.RangeRun
import Derived.Maps.RangeWalk
import Derived.OpenShut
import Derived.ProofKit
import Derived.Test.YtcgohiiihhplgaaDoorCards
import Derived.Test.YtcgohiiihhplgaaDoorRows
import Derived.Test.YtcgohiiihhplgaaDoorTie
import Derived.WalkKit
import Derived.Test.YtcgohiiihhplgaaDoorAmB
import Derived.Test.YtcgohiiihhplgaaDoorAmModel
import Derived.Test.YtcgohiiihhplgaaDoorAmOps6
import Derived.Test.YtcgohiiihhplgaaDoorAmCode
import Derived.Test.YtcgohiiihhplgaaDoorAmK2
import Derived.Test.YtcgohiiihhplgaaDoorAmEq
import Derived.Test.YtcgohiiihhplgaaDoorRBase
import Derived.Test.YtcgohiiihhplgaaDoorB1
import Derived.Test.YtcgohiiihhplgaaDoorK1
import Derived.Test.YtcgohiiihhplgaaDoorR3
import Derived.Test.YtcgohiiihhplgaaDoorR41
import Derived.Test.YtcgohiiihhplgaaDoorR42
import Derived.Test.YtcgohiiihhplgaaDoorD3
import Derived.Test.YtcgohiiihhplgaaDoorK3
import Derived.Test.YtcgohiiihhplgaaDoorAmS
import Derived.Test.YtcgohiiihhplgaaDoorK4
import Derived.Test.YtcgohiiihhplgaaDoorK5
import Derived.Test.YtcgohiiihhplgaaDoorK6
import Derived.Test.YtcgohiiihhplgaaDoorS13
import Derived.Test.YtcgohiiihhplgaaDoorS14
import Derived.Test.YtcgohiiihhplgaaDoorCB
import Derived.Test.YtcgohiiihhplgaaDoorD0
import Derived.Test.YtcgohiiihhplgaaDoorDet1
import Derived.Test.YtcgohiiihhplgaaDoorDH1
import Derived.Test.YtcgohiiihhplgaaDoorD4
import Derived.Test.YtcgohiiihhplgaaDoorM1
import Derived.Test.YtcgohiiihhplgaaDoorM2
import Derived.Test.YtcgohiiihhplgaaDoorQ11
import Derived.Test.YtcgohiiihhplgaaDoorQO
import Derived.Test.YtcgohiiihhplgaaDoorW1
import Derived.Test.YtcgohiiihhplgaaDoorT5
import Derived.Test.YtcgohiiihhplgaaDoorT10
set_option linter.unusedVariables false
set_option linter.unusedSimpArgs false
set_option linter.unusedSectionVars false
namespace Go.AM
open Go Go.Proofs
open Go.ChangeShapes Go.WideShapes
section
variable {H : Type} {enc : TypeId × Value → H} {P : Program} {w : World} {base : Nat} {spare : Nat → Bool} {held : Bool}
/-- The elements of a slice of structs of three cells. -/
theorem open3 {t e : TypeId} {f0 f1 f2 : Field} {fuel : Nat} {cs : List Value} {x : DataW H × List MemPlace} (ht : P.underlying t = some (.slice e)) (he : P.underlying e = some (.struct #[f0, f1, f2]))
    (ce : P.cellsOf e = 3) (ho : f0.offset = 0 ∧ f1.offset = 1 ∧ f2.offset = 2) (hc : P.cellsOf f0.type = 1 ∧ P.cellsOf f1.type = 1 ∧ P.cellsOf f2.type = 1)
    (h : DataW.trod enc P w base spare held fuel t cs = some x) :
    (cs = [.slice none 0 0] ∧ x = (.nil, [])) ∨
    ∃ (a : Addr) (len cap m : Nat) (V : Nat → Value × Value × Value) (Y : Nat → (DataW H × List MemPlace) × (DataW H × List MemPlace) × (DataW H × List MemPlace)), cs = [.slice (some a) len cap] ∧ base ≤ a.block ∧ len ≤ cap ∧ cap ≤ maxLen ∧ m = (if spare a.block then cap else len) ∧
      x = (.slice ((List.range len).map fun i => .agg [(Y i).1.1, (Y i).2.1.1, (Y i).2.2.1]) ((List.range (m - len)).map fun j => .agg [(Y (len + j)).1.1, (Y (len + j)).2.1.1, (Y (len + j)).2.2.1]), MemPlace.row a (m * 3) ++ (List.range m).flatMap fun i => (Y i).1.2 ++ ((Y i).2.1.2 ++ (Y i).2.2.2)) ∧
      ∀ i, i < m → w.cell? (a.add (i * 3)) = some (V i).1 ∧ w.cell? (a.add (i * 3 + 1)) = some (V i).2.1 ∧ w.cell? (a.add (i * 3 + 2)) = some (V i).2.2 ∧
        (∃ n, DataW.trod enc P w base spare held n f0.type [(V i).1] = some (Y i).1) ∧ (∃ n, DataW.trod enc P w base spare held n f1.type [(V i).2.1] = some (Y i).2.1) ∧ (∃ n, DataW.trod enc P w base spare held n f2.type [(V i).2.2] = some (Y i).2.2) := by
  obtain ⟨o0, o1, o2⟩ := ho
  obtain ⟨c0, c1, c2⟩ := hc
  rcases Go.Deep.open_slice ht h with h0 | ⟨a, len, cap, m, n, D, Pl, rfl, hb, hl, hm, hmm, rfl, hx⟩
  · exact .inl h0
  right
  have hlm : len ≤ m := by rw [hmm]; split <;> omega
  have each : ∀ i, i < m → ∃ q : (Value × Value × Value) × ((DataW H × List MemPlace) × (DataW H × List MemPlace) × (DataW H × List MemPlace)), (w.cell? (a.add (i * 3)) = some q.1.1 ∧ w.cell? (a.add (i * 3 + 1)) = some q.1.2.1 ∧ w.cell? (a.add (i * 3 + 2)) = some q.1.2.2 ∧
        (∃ n, DataW.trod enc P w base spare held n f0.type [q.1.1] = some q.2.1) ∧ (∃ n, DataW.trod enc P w base spare held n f1.type [q.1.2.1] = some q.2.2.1) ∧ (∃ n, DataW.trod enc P w base spare held n f2.type [q.1.2.2] = some q.2.2.2)) ∧
        D i = .agg [q.2.1.1, q.2.2.1.1, q.2.2.2.1] ∧ Pl i = q.2.1.2 ++ (q.2.2.1.2 ++ q.2.2.2.2) := by
    intro i hi
    obtain ⟨cs', h1, h2⟩ := hx i hi
    rw [ce] at h1
    obtain ⟨_, hlen, hcell⟩ := World.cells?_some h1
    obtain ⟨y0, y1, y2, k, hxy, _, g0, g1, g2⟩ := Go.Deep.trod_struct3 he h2
    match cs', hlen with
    | [v0, v1, v2], _ =>
      simp [o0, o1, o2, c0, c1, c2] at g0 g1 g2
      have e0 := hcell 0 (by omega)
      have e1 := hcell 1 (by omega)
      have e2 := hcell 2 (by omega)
      rw [Go.Deep.add_add] at e0 e1 e2
      simp only [Prod.mk.injEq] at hxy
      exact ⟨((v0, v1, v2), (y0, y1, y2)), ⟨by simpa using e0, by simpa using e1, by simpa using e2, ⟨k, g0⟩, ⟨k, g1⟩, ⟨k, g2⟩⟩, hxy.1, hxy.2⟩
  obtain ⟨q, hq⟩ := Go.Deep.choose_lt each
  refine ⟨a, len, cap, m, fun i => (q i).1, fun i => (q i).2, rfl, hb, hl, hm, hmm, ?_, fun i hi => (hq i hi).1⟩
  rw [ce, List.map_congr_left (fun i hi => (hq i (by have := List.mem_range.1 hi; omega)).2.1), List.map_congr_left (fun j hj => (hq (len + j) (by have := List.mem_range.1 hj; omega)).2.1),
    Go.Deep.flatMap_congr_range (fun i hi => (hq i hi).2.2)]
theorem cells3 {e : TypeId} {f0 f1 f2 : Field} (he : P.underlying e = some (.struct #[f0, f1, f2])) (ce : P.cellsOf e = 3) (ho : f0.offset = 0 ∧ f1.offset = 1 ∧ f2.offset = 2) (hc : P.cellsOf f0.type = 1 ∧ P.cellsOf f1.type = 1 ∧ P.cellsOf f2.type = 1)
    {b off : Nat} (hb : base ≤ b) {i : Nat} {V : Value × Value × Value} {Y : (DataW H × List MemPlace) × (DataW H × List MemPlace) × (DataW H × List MemPlace)} (q0 : w.cell? ⟨b, off + i * 3, none⟩ = some V.1) (q1 : w.cell? ⟨b, off + i * 3 + 1, none⟩ = some V.2.1) (q2 : w.cell? ⟨b, off + i * 3 + 2, none⟩ = some V.2.2)
    (h0 : ∃ n, DataW.trod enc P w base spare held n f0.type [V.1] = some Y.1) (h1 : ∃ n, DataW.trod enc P w base spare held n f1.type [V.2.1] = some Y.2.1) (h2 : ∃ n, DataW.trod enc P w base spare held n f2.type [V.2.2] = some Y.2.2) :
    ∃ cs n, w.cells? base ((⟨b, off, none⟩ : Addr).add (i * P.cellsOf e)) (P.cellsOf e) = some cs ∧ DataW.trod enc P w base spare held n e cs = some (.agg [Y.1.1, Y.2.1.1, Y.2.2.1], Y.1.2 ++ (Y.2.1.2 ++ Y.2.2.2)) := by
  obtain ⟨o0, o1, o2⟩ := ho
  obtain ⟨c0, c1, c2⟩ := hc
  obtain ⟨n0, g0⟩ := h0
  obtain ⟨n1, g1⟩ := h1
  obtain ⟨n2, g2⟩ := h2
  refine ⟨[V.1, V.2.1, V.2.2], max n0 (max n1 n2) + 1, ?_, ?_⟩
  · rw [ce, add_plain]
    refine cells?_of hb rfl fun j hj => ?_
    match j, hj with
    | 0, _ => simpa using q0
    | 1, _ => simpa [Nat.add_assoc] using q1
    | 2, _ => simpa [Nat.add_assoc] using q2
  · exact Go.Deep.trod_struct3_mk he (by simp [ce]) (by simpa [o0, c0] using DataW.trod_le (Nat.le_max_left n0 _) g0) (by simpa [o1, c1] using DataW.trod_le (Nat.le_trans (Nat.le_max_left n1 n2) (Nat.le_max_right n0 _)) g1) (by simpa [o2, c2] using DataW.trod_le (Nat.le_trans (Nat.le_max_right n1 n2) (Nat.le_max_right n0 _)) g2)
end
noncomputable def fldd (i : Nat) : Field := match (Tryd.prog.fieldsOf 31)[i]? with
  | some f => f
  | none => { name := "", type := 0, embedded := false, tag := "", pkgPath := "", offset := 0, byteOffset := 0 }
theorem un23 : Tryd.prog.underlying 23 = some (.slice 31) := by kernel_rfl
theorem un31 : Tryd.prog.underlying 31 = some (.struct #[fldd 0, fldd 1, fldd 2]) := by kernel_rfl
theorem ce31 : Tryd.prog.cellsOf 31 = 3 := by kernel_rfl
theorem ofd : (fldd 0).offset = 0 ∧ (fldd 1).offset = 1 ∧ (fldd 2).offset = 2 := ⟨by kernel_rfl, by kernel_rfl, by kernel_rfl⟩
theorem tyd0 : (fldd 0).type = 3 := by kernel_rfl
theorem tyd1 : (fldd 1).type = 3 := by kernel_rfl
theorem tyd2 : (fldd 2).type = 4 := by kernel_rfl
theorem ce4' : Tryd.prog.cellsOf 4 = 1 := by kernel_rfl
theorem un4' : Tryd.prog.underlying 4 = some .bool := by kernel_rfl
theorem ced : Tryd.prog.cellsOf (fldd 0).type = 1 ∧ Tryd.prog.cellsOf (fldd 1).type = 1 ∧ Tryd.prog.cellsOf (fldd 2).type = 1 := ⟨by rw [tyd0]; exact ce3, by rw [tyd1]; exact ce3, by rw [tyd2]; exact ce4'⟩
theorem lies31 (count off n : Nat) : liesAt Tryd.prog Tryd.prog.depth 126 count off 31 n = false :=
  lies0 (by kernel_rfl) (by kernel_rfl) (fun m e h => by rw [un31] at h; simp at h) count off n
def boolOf : Value → Bool
  | .bool b => b
  | _ => false
theorem dget : ∀ (l : List Dom) (j : Nat) (v : Value), (dsV l)[j]? = some v → ∃ i, ∃ h : i < l.length, (j = i * 3 ∧ v = vi l[i].1) ∨ (j = i * 3 + 1 ∧ v = vi l[i].2.1) ∨ (j = i * 3 + 2 ∧ v = .bool l[i].2.2)
  | [], j, v, h => by simp [dsV] at h
  | (a, b, c) :: l, 0, v, h => ⟨0, by simp, .inl ⟨rfl, by simpa [dsV, dV] using h.symm⟩⟩
  | (a, b, c) :: l, 1, v, h => ⟨0, by simp, .inr (.inl ⟨rfl, by simpa [dsV, dV] using h.symm⟩)⟩
  | (a, b, c) :: l, 2, v, h => ⟨0, by simp, .inr (.inr ⟨rfl, by simpa [dsV, dV] using h.symm⟩)⟩
  | (a, b, c) :: l, j + 3, v, h => by
    obtain ⟨i, hi, hc⟩ := dget l j v (by simpa [dsV, dV] using h)
    refine ⟨i + 1, by simpa using hi, ?_⟩
    rcases hc with ⟨h1, h2⟩ | ⟨h1, h2⟩ | ⟨h1, h2⟩
    · exact .inl ⟨by omega, by simpa using h2⟩
    · exact .inr (.inl ⟨by omega, by simpa using h2⟩)
    · exact .inr (.inr ⟨by omega, by simpa using h2⟩)
theorem dsV_len (l : List Dom) : (dsV l).length = l.length * 3 := by
  induction l with
  | nil => rfl
  | cons c l ih =>
    show (dV c ++ dsV l).length = _
    rw [List.length_append, ih, List.length_cons]
    show 3 + _ = _
    omega
set_option maxRecDepth 100000 in
theorem openDoms {H : Type} {enc : TypeId × Value → H} {W : World} {b0 : Nat} {v : Value} {d : DataW H} {p : List MemPlace} {ρ : Map} {m : M} (hR : Rel ρ m W) (hro : ∀ row ∈ m, row.ro = true) (h0 : ∀ C T fz, W.heap[0]? = some (.cells C T fz) → T = 126)
    (hval : Value.okWide Tryd.prog W .any b0 23 v) (hd : DataW.Trod enc Tryd.prog W 0 (fun _ => true) true 23 v d p) :
    ∃ (ρ' : Map) (ext : M) (xv : Value) (l : List Dom), ρ.le ρ' ∧ Rel ρ' (m ++ ext) W ∧ Doms (m ++ ext) xv l ∧ VRel ρ' xv v ∧
      ∀ (W' : World) (sp : Nat → Bool), Same W W' → (∀ q ∈ p, sp q.block = true) → DataW.Trod enc Tryd.prog W' 0 sp true 23 v d p := by
  obtain ⟨fuel, hf⟩ := hd
  obtain ⟨a, len, cap, rfl⟩ := okWide_slice un23 hval
  have hf' : DataW.trod enc Tryd.prog W 0 (fun _ => true) true fuel 23 [.slice a len cap] = some (d, p) := hf
  rcases open3 un23 un31 ce31 ofd ced hf' with ⟨hc, hx⟩ | ⟨a', len', cap', k, V, Y, hc, _, hl, hm, hmm, hx, hall⟩
  · simp only [List.cons.injEq, and_true, Value.slice.injEq] at hc
    obtain ⟨rfl, rfl, rfl⟩ := hc
    simp only [Prod.mk.injEq] at hx
    obtain ⟨rfl, rfl⟩ := hx
    refine ⟨ρ, [], nilS, [], Map.le_refl _, by simpa using hR, .inl ⟨rfl, rfl⟩, .sliceNil, fun W' sp _ _ => ⟨1, ?_⟩⟩
    show DataW.trod enc Tryd.prog W' 0 sp true 1 23 [.slice none 0 0] = _
    unfold DataW.trod
    rw [un23]
    rfl
  · simp only [List.cons.injEq, and_true, Value.slice.injEq] at hc
    obtain ⟨rfl, rfl, rfl⟩ := hc
    simp only [if_true] at hmm
    subst hmm
    simp only [Prod.mk.injEq] at hx
    obtain ⟨rfl, rfl⟩ := hx
    simp only [Value.okWide, un23, Cell.okWide, Cell.ok] at hval
    obtain ⟨_, _, _, hspot, row, cells, hshape, hlies⟩ := hval
    obtain ⟨bk, off, spot⟩ := a'
    simp only at hspot hlies hshape
    subst hspot
    unfold World.shape? at hshape
    cases hheap : W.heap[bk]? with
    | none => rw [hheap] at hshape; simp at hshape
    | some o =>
      rw [hheap] at hshape
      cases o with
      | cells C T fz =>
        simp only [Option.some.injEq, Prod.mk.injEq] at hshape
        obtain ⟨rfl, rfl⟩ := hshape
        have hbk : bk ≠ 0 := fun e => by
          subst e
          have := h0 C T fz hheap
          subst this
          rw [lies31] at hlies
          simp at hlies
        have hcell : ∀ o v, W.cell? ⟨bk, o, none⟩ = some v → C[o]? = some v := fun o v h => by
          unfold World.cell? at h
          simp only [hheap] at h
          simpa using h
        have hint : ∀ i, i < k → (V i).1 = vi (intOf (V i).1) ∧ (V i).2.1 = vi (intOf (V i).2.1) ∧ (V i).2.2 = .bool (boolOf (V i).2.2) ∧ C[off + i * 3]? = some (V i).1 ∧ C[off + i * 3 + 1]? = some (V i).2.1 ∧ C[off + i * 3 + 2]? = some (V i).2.2 ∧
            (∃ n, ∀ W' sp, DataW.trod enc Tryd.prog W' 0 sp true n (fldd 0).type [(V i).1] = some (Y i).1) ∧ (∃ n, ∀ W' sp, DataW.trod enc Tryd.prog W' 0 sp true n (fldd 1).type [(V i).2.1] = some (Y i).2.1) ∧ (∃ n, ∀ W' sp, DataW.trod enc Tryd.prog W' 0 sp true n (fldd 2).type [(V i).2.2] = some (Y i).2.2) := fun i hi => by
          obtain ⟨e0, e1, e2, ⟨n0, t0⟩, ⟨n1, t1⟩, ⟨n2, t2⟩⟩ := hall i hi
          rw [tyd0] at t0
          rw [tyd1] at t1
          rw [tyd2] at t2
          obtain ⟨z0, y0, x0, w0⟩ := DataW.trod_int un3' t0
          obtain ⟨z1, y1, x1, w1⟩ := DataW.trod_int un3' t1
          obtain ⟨z2, y2, x2⟩ := DataW.trod_bool un4' t2
          simp only [List.cons.injEq, and_true] at y0 y1 y2
          refine ⟨by rw [y0]; rfl, by rw [y1]; rfl, by rw [y2]; rfl, hcell _ _ (by rw [addr_add] at e0; exact e0), hcell _ _ (by rw [addr_add] at e1; exact e1), hcell _ _ (by rw [addr_add] at e2; exact e2), ⟨1, fun W' sp => ?_⟩, ⟨1, fun W' sp => ?_⟩, ⟨1, fun W' sp => ?_⟩⟩
          · rw [tyd0, y0, x0]
            simp [DataW.trod, un3', w0]
          · rw [tyd1, y1, x1]
            simp [DataW.trod, un3', w1]
          · rw [tyd2, y2, x2]
            simp [DataW.trod, un4']
        have hoff : off ≤ C.size := Nat.le_trans (lies_le un31 hlies) (Nat.div_mul_le_self _ _)
        have hcap : off + k * 3 ≤ C.size := by
          by_cases h0 : k = 0
          · omega
          · have := (hint (k - 1) (by omega)).2.2.2.2.2.1
            have := (Array.getElem?_eq_some_iff.1 this).1
            omega
        let l : List Dom := (List.range len).map fun i => (intOf (V i).1, intOf (V i).2.1, boolOf (V i).2.2)
        have hll : l.length = len := by simp [l]
        obtain ⟨ρ', hle, hρ, hR', hro'⟩ := rel_addro (esz := 3) (off := off) hR hro hheap (dsV l) hbk (by rw [dsV_len, hll]; omega) (fun j v hj => by
          obtain ⟨i, hi, hc⟩ := dget l j v hj
          have hi' : i < k := by omega
          obtain ⟨a1, a2, a3, a4, a5, a6, _⟩ := hint i hi'
          have e : l[i] = (intOf (V i).1, intOf (V i).2.1, boolOf (V i).2.2) := by simp [l]
          rcases hc with ⟨rfl, rfl⟩ | ⟨rfl, rfl⟩ | ⟨rfl, rfl⟩
          · rw [e]
            exact ⟨by rw [← a1]; exact a4, fun _ => .int _ _⟩
          · rw [e]
            exact ⟨by rw [← a2, ← Nat.add_assoc]; exact a5, fun _ => .int _ _⟩
          · rw [e]
            exact ⟨by rw [← a3, ← Nat.add_assoc]; exact a6, fun _ => .bool _⟩)
        refine ⟨ρ', _, sl m.length len, l, hle, hR', .inr ⟨m.length, _, by rw [hll], List.getElem?_concat_length, rfl⟩, ?_, fun W' sp hS hsp => ?_⟩
        · exact .slice hρ (Nat.le_refl _) hl (fun h => by simp at h) (.inr rfl) hcap
        · show ∃ n, DataW.trod enc Tryd.prog W' 0 sp true n 23 [.slice (some ⟨bk, off, none⟩) len k] = _
          have el : ∀ i, i < k → ∃ cs n, W'.cells? 0 ((⟨bk, off, none⟩ : Addr).add (i * Tryd.prog.cellsOf 31)) (Tryd.prog.cellsOf 31) = some cs ∧ DataW.trod enc Tryd.prog W' 0 sp true n 31 cs = some (.agg [(Y i).1.1, (Y i).2.1.1, (Y i).2.2.1], (Y i).1.2 ++ ((Y i).2.1.2 ++ (Y i).2.2.2)) := fun i hi => by
            obtain ⟨e0, e1, e2, _⟩ := hall i hi
            rw [addr_add] at e0 e1 e2
            obtain ⟨_, _, _, _, _, _, ⟨n0, g0⟩, ⟨n1, g1⟩, ⟨n2, g2⟩⟩ := hint i hi
            exact cells3 un31 ce31 ofd ced (Nat.zero_le _) (hS.cell e0) (hS.cell e1) (hS.cell e2) ⟨n0, g0 W' sp⟩ ⟨n1, g1 W' sp⟩ ⟨n2, g2 W' sp⟩
          cases hb : sp bk with
          | true =>
            have := Go.Deep.shut_slice_whole_cells (enc := enc) (w := W') (held := true) (a := ⟨bk, off, none⟩) un23 (Nat.zero_le _) hl hm hb (fun i => .agg [(Y i).1.1, (Y i).2.1.1, (Y i).2.2.1]) (fun i => (Y i).1.2 ++ ((Y i).2.1.2 ++ (Y i).2.2.2)) el
            rwa [ce31] at this
          | false =>
            have hm0 : k = 0 := by
              apply Classical.byContradiction
              intro hne
              have := hsp (.cell bk (off + 0)) (List.mem_append_left _ (by
                simp only [MemPlace.row, List.mem_map, List.mem_range]
                exact ⟨0, by omega, rfl⟩))
              simp only [MemPlace.block] at this
              rw [hb] at this
              simp at this
            subst hm0
            have hl0 : len = 0 := by omega
            subst hl0
            have := Go.Deep.shut_slice_cells (enc := enc) (w := W') (held := true) (a := ⟨bk, off, none⟩) un23 (Nat.zero_le _) (Nat.le_refl 0) hm hb (fun i => .agg [(Y i).1.1, (Y i).2.1.1, (Y i).2.2.1]) (fun i => (Y i).1.2 ++ ((Y i).2.1.2 ++ (Y i).2.2.2)) el
            rwa [ce31] at this
      | _ => simp at hshape
end Go.AM
