import Derived.Deep.SlicePairs
import Derived.JoinedCond
import Derived.KernelRfl
import Derived.Laws.Runes
import Derived.Laws.StructEq
import Derived.OpenShut
import Derived.ProofKit
import Derived.Test.YtdneekidlmgpfaaRows
import Derived.WalkKit
import Derived.Test.YtdneekidlmgpfaaAmModel
import Derived.Test.YtdneekidlmgpfaaAmOps5
import Derived.Test.YtdneekidlmgpfaaAmOps6
import Derived.Test.YtdneekidlmgpfaaAmCode
import Derived.Test.YtdneekidlmgpfaaAmDraw5
import Derived.Test.YtdneekidlmgpfaaAmEq
import Derived.Test.YtdneekidlmgpfaaRBase
import Derived.Test.YtdneekidlmgpfaaR33
import Derived.Test.YtdneekidlmgpfaaR50
import Derived.Test.YtdneekidlmgpfaaR83
import Derived.Test.YtdneekidlmgpfaaR90
import Derived.Test.YtdneekidlmgpfaaR107
import Derived.Test.YtdneekidlmgpfaaS32
import Derived.Test.YtdneekidlmgpfaaDet1
import Derived.Test.YtdneekidlmgpfaaH1
import Derived.Test.YtdneekidlmgpfaaS15
import Derived.Test.YtdneekidlmgpfaaS6
import Derived.Test.YtdneekidlmgpfaaC6
set_option linter.unusedVariables false
set_option linter.unusedSimpArgs false
set_option linter.unusedSectionVars false
namespace Go.AM
open Go Go.Proofs
open Go.ChangeShapes Go.WideShapes
theorem lies_le {p : Program} {d : Nat} {e u : TypeId} {count off n : Nat} {fs : Array Field} (hu : p.underlying u = some (.struct fs)) (h : liesAt p d e count off u n = true) : off ≤ count * p.cellsOf e := by
  cases d with
  | zero => simp [liesAt] at h
  | succ d =>
    unfold liesAt at h
    rw [hu] at h
    simp only [Bool.or_false] at h
    generalize p.depth = dd at h
    generalize (fun x => sameLayout p dd x u) = fit at h
    cases dd with
    | zero => simp [rowAt] at h
    | succ dd =>
      unfold rowAt at h
      simp only at h
      by_cases hs : p.cellsOf e = 0
      · rw [if_pos hs] at h
        simp at h
      · rw [if_neg hs] at h
        have hm := Nat.div_add_mod off (p.cellsOf e)
        have hmod := Nat.mod_lt off (Nat.pos_of_ne_zero hs)
        rw [Bool.or_eq_true] at h
        rcases h with h | h
        · simp only [Bool.and_eq_true, beq_iff_eq, decide_eq_true_eq] at h
          have h1 : off / p.cellsOf e ≤ count := by omega
          have h2 : p.cellsOf e * (off / p.cellsOf e) ≤ p.cellsOf e * count := Nat.mul_le_mul_left _ h1
          rw [Nat.mul_comm count]
          omega
        · rw [Bool.and_eq_true] at h
          have h1 : off / p.cellsOf e < count := by simpa using h.1
          have h2 : p.cellsOf e * (off / p.cellsOf e + 1) ≤ p.cellsOf e * count := Nat.mul_le_mul_left _ h1
          rw [Nat.mul_add] at h2
          rw [Nat.mul_comm count]
          omega
theorem wget : ∀ (l : List Wi) (j : Nat) (v : Value), (wcells l)[j]? = some v → ∃ i, ∃ h : i < l.length, (j = i * 2 ∧ v = vi l[i].1) ∨ (j = i * 2 + 1 ∧ v = vi l[i].2)
  | [], j, v, h => by simp [wcells] at h
  | (a, b) :: l, 0, v, h => ⟨0, by simp, .inl ⟨rfl, by simpa [wcells] using h.symm⟩⟩
  | (a, b) :: l, 1, v, h => ⟨0, by simp, .inr ⟨rfl, by simpa [wcells] using h.symm⟩⟩
  | (a, b) :: l, j + 2, v, h => by
    obtain ⟨i, hi, hc⟩ := wget l j v (by simpa [wcells] using h)
    refine ⟨i + 1, by simpa using hi, ?_⟩
    rcases hc with ⟨h1, h2⟩ | ⟨h1, h2⟩
    · exact .inl ⟨by omega, by simpa using h2⟩
    · exact .inr ⟨by omega, by simpa using h2⟩
theorem addr_add (bk off n : Nat) : (⟨bk, off, none⟩ : Addr).add n = ⟨bk, off + n, none⟩ := by
  unfold Addr.add
  split
  · rename_i h
    simp_all
  · rfl
def Same (W W' : World) : Prop := ∀ b, b < W.heap.size → W'.heap[b]? = W.heap[b]?
theorem Same.cell {W W' : World} (h : Same W W') {a : Addr} {v : Value} (hc : W.cell? a = some v) : W'.cell? a = some v := by
  have hb : a.block < W.heap.size := by
    unfold World.cell? at hc
    cases e : W.heap[a.block]? with
    | none => rw [e] at hc; simp at hc
    | some o => exact (Array.getElem?_eq_some_iff.1 e).1
  unfold World.cell? at hc ⊢
  rw [h _ hb]
  exact hc
noncomputable def fld (i : Nat) : Field := match (Try.prog.fieldsOf 59)[i]? with
  | some f => f
  | none => { name := "", type := 0, embedded := false, tag := "", pkgPath := "", offset := 0, byteOffset := 0 }
theorem un22 : Try.prog.underlying 22 = some (.slice 59) := by kernel_rfl
theorem un59 : Try.prog.underlying 59 = some (.struct #[fld 0, fld 1]) := by kernel_rfl
theorem ce59 : Try.prog.cellsOf 59 = 2 := by kernel_rfl
theorem of0 : (fld 0).offset = 0 := by kernel_rfl
theorem of1 : (fld 1).offset = 1 := by kernel_rfl
theorem ty0 : (fld 0).type = 3 := by kernel_rfl
theorem ty1 : (fld 1).type = 3 := by kernel_rfl
theorem ce3 : Try.prog.cellsOf 3 = 1 := by kernel_rfl
theorem un3' : Try.prog.underlying 3 = some (.int .i64) := by kernel_rfl
def intOf : Value → Int
  | .int _ n => n
  | _ => 0
set_option maxRecDepth 100000 in
theorem openWires {H : Type} {enc : TypeId × Value → H} {W : World} {b0 : Nat} {v : Value} {d : DataW H} {p : List MemPlace} (hval : Value.okWide Try.prog W .any b0 22 v) (hd : DataW.Trod enc Try.prog W 0 (fun _ => true) true 22 v d p) :
    ∃ (ρ : Map) (m : M) (xw : Value) (ws : List Wi), Rel ρ m W ∧ WS m.length m xw ws ∧ VRel ρ xw v ∧
      ∀ (W' : World) (sp : Nat → Bool), Same W W' → (∀ q ∈ p, sp q.block = true) → DataW.Trod enc Try.prog W' 0 sp true 22 v d p := by
  obtain ⟨fuel, hf⟩ := hd
  obtain ⟨a, len, cap, rfl⟩ := okWide_slice un22 hval
  have hf' : DataW.trod enc Try.prog W 0 (fun _ => true) true fuel 22 [.slice a len cap] = some (d, p) := hf
  rcases Go.Deep.open_slice_pairs un22 un59 ce59 of0 of1 (by rw [ty0]; exact ce3) (by rw [ty1]; exact ce3) hf' with ⟨hc, hx⟩ | ⟨a', len', cap', m, n, V0, V1, D0, D1, P0, P1, hc, _, hl, hm, hmm, hx, hall⟩
  · simp only [List.cons.injEq, and_true, Value.slice.injEq] at hc
    obtain ⟨rfl, rfl, rfl⟩ := hc
    simp only [Prod.mk.injEq] at hx
    obtain ⟨rfl, rfl⟩ := hx
    refine ⟨fun _ => none, [], nilS, [], rel_nil W, .inl ⟨rfl, rfl⟩, .sliceNil, fun W' sp _ _ => ⟨1, ?_⟩⟩
    show DataW.trod enc Try.prog W' 0 sp true 1 22 [.slice none 0 0] = _
    unfold DataW.trod
    rw [un22]
    rfl
  · simp only [List.cons.injEq, and_true, Value.slice.injEq] at hc
    obtain ⟨rfl, rfl, rfl⟩ := hc
    simp only [if_true] at hmm
    subst hmm
    simp only [Prod.mk.injEq] at hx
    obtain ⟨rfl, rfl⟩ := hx
    simp only [Value.okWide, un22, Cell.okWide, Cell.ok] at hval
    obtain ⟨_, _, _, hspot, row, cells, hshape, hlies⟩ := hval
    obtain ⟨bk, off, spot⟩ := a'
    simp only at hspot hlies hshape
    subst hspot
    unfold World.shape? at hshape
    cases hheap : W.heap[bk]? with
    | none => rw [hheap] at hshape; simp at hshape
    | some o =>
      rw [hheap] at hshape
      cases o with
      | cells C T fz =>
        simp only [Option.some.injEq, Prod.mk.injEq] at hshape
        obtain ⟨rfl, rfl⟩ := hshape
        have hcell : ∀ o v, W.cell? ⟨bk, o, none⟩ = some v → C[o]? = some v := fun o v h => by
          unfold World.cell? at h
          simp only [hheap] at h
          simpa using h
        have hint : ∀ i, i < m → V0 i = vi (intOf (V0 i)) ∧ V1 i = vi (intOf (V1 i)) ∧ C[off + i * 2]? = some (V0 i) ∧ C[off + i * 2 + 1]? = some (V1 i) ∧
            (∃ n, ∀ W' sp, DataW.trod enc Try.prog W' 0 sp true n (fld 0).type [V0 i] = some (D0 i, P0 i)) ∧ (∃ n, ∀ W' sp, DataW.trod enc Try.prog W' 0 sp true n (fld 1).type [V1 i] = some (D1 i, P1 i)) := fun i hi => by
          obtain ⟨e0, e1, t0, t1⟩ := hall i hi
          rw [ty0] at t0
          rw [ty1] at t1
          obtain ⟨z0, y0, x0, w0⟩ := DataW.trod_int un3' t0
          obtain ⟨z1, y1, x1, w1⟩ := DataW.trod_int un3' t1
          simp only [List.cons.injEq, and_true] at y0 y1
          simp only [Prod.mk.injEq] at x0 x1
          refine ⟨by rw [y0]; rfl, by rw [y1]; rfl, hcell _ _ (by rw [addr_add] at e0; exact e0), hcell _ _ (by rw [addr_add] at e1; exact e1), ⟨1, fun W' sp => ?_⟩, ⟨1, fun W' sp => ?_⟩⟩
          · rw [ty0, y0, x0.1, x0.2]
            simp [DataW.trod, un3', w0]
          · rw [ty1, y1, x1.1, x1.2]
            simp [DataW.trod, un3', w1]
        have hoff : off ≤ C.size := Nat.le_trans (lies_le un59 hlies) (Nat.div_mul_le_self _ _)
        have hcap : off + m * 2 ≤ C.size := by
          by_cases h0 : m = 0
          · omega
          · have := (hint (m - 1) (by omega)).2.2.2.1
            have := (Array.getElem?_eq_some_iff.1 this).1
            omega
        let ws : List Wi := (List.range len).map fun i => (intOf (V0 i), intOf (V1 i))
        have hwl : ws.length = len := by simp [ws]
        let ρ : Map := fun r => if r = 0 then some ⟨bk, off, C.size, 2, false⟩ else none
        have hρ0 : ρ 0 = some ⟨bk, off, C.size, 2, false⟩ := rfl
        have hρ : ∀ r l, ρ r = some l → r = 0 ∧ l = ⟨bk, off, C.size, 2, false⟩ := fun r l h => by
          simp only [ρ] at h
          by_cases hr : r = 0
          · rw [if_pos hr] at h
            exact ⟨hr, (Option.some.inj h).symm⟩
          · rw [if_neg hr] at h
            simp at h
        refine ⟨ρ, [wrow false true ws], sl 0 len, ws, ⟨fun r l h => by simp [(hρ r l h).1], fun r l rw' h hr => ?_, fun r r' l l' row row' h h' hne => absurd ((hρ r l h).1.trans (hρ r' l' h').1.symm) hne⟩, .inr ⟨0, false, true, by simp, by rw [hwl], rfl⟩, ?_, fun W' sp hS hsp => ?_⟩
        · obtain ⟨rfl, rfl⟩ := hρ r l h
          simp only [List.getElem?_cons_zero, Option.some.injEq] at hr
          subst hr
          refine ⟨rfl, rfl, C, T, fz, hheap, rfl, ?_, fun hro => by simp [wrow] at hro, fun j v hj => ?_⟩
          · show off + (wcells ws).length ≤ C.size
            rw [wcells_length, hwl]
            omega
          · obtain ⟨i, hi, hc⟩ := wget ws j v hj
            have hi' : i < m := by omega
            obtain ⟨a1, a2, a3, a4, _⟩ := hint i hi'
            have e : ws[i] = (intOf (V0 i), intOf (V1 i)) := by simp [ws]
            rcases hc with ⟨rfl, rfl⟩ | ⟨rfl, rfl⟩
            · refine ⟨V0 i, a3, ?_⟩
              rw [e, a1]
              exact .int _ _
            · refine ⟨V1 i, by rw [← Nat.add_assoc]; exact a4, ?_⟩
              rw [e, a2]
              exact .int _ _
        · exact .slice hρ0 (Nat.le_refl _) hl (fun h => by simp at h) (.inr rfl) hcap
        · show ∃ n, DataW.trod enc Try.prog W' 0 sp true n 22 [.slice (some ⟨bk, off, none⟩) len m] = _
          have q0 : ∀ i, i < m → W'.cell? ⟨bk, off + i * 2, none⟩ = some (V0 i) := fun i hi => hS.cell (by have e := (hall i hi).1; rw [addr_add] at e; exact e)
          have q1 : ∀ i, i < m → W'.cell? ⟨bk, off + i * 2 + 1, none⟩ = some (V1 i) := fun i hi => hS.cell (by have e := (hall i hi).2.1; rw [addr_add] at e; exact e)
          have r0 : ∀ i, i < m → ∃ n, DataW.trod enc Try.prog W' 0 sp true n (fld 0).type [V0 i] = some (D0 i, P0 i) := fun i hi => by
            obtain ⟨n, h⟩ := (hint i hi).2.2.2.2.1
            exact ⟨n, h W' sp⟩
          have r1 : ∀ i, i < m → ∃ n, DataW.trod enc Try.prog W' 0 sp true n (fld 1).type [V1 i] = some (D1 i, P1 i) := fun i hi => by
            obtain ⟨n, h⟩ := (hint i hi).2.2.2.2.2
            exact ⟨n, h W' sp⟩
          cases hb : sp bk with
          | true => exact Go.Deep.shut_slice_pairs_whole un22 un59 ce59 of0 of1 (by rw [ty0]; exact ce3) (by rw [ty1]; exact ce3) (Nat.zero_le _) hl hm hb V0 V1 D0 D1 P0 P1 q0 q1 r0 r1
          | false =>
            have hm0 : m = 0 := by
              apply Classical.byContradiction
              intro hne
              have := hsp (.cell bk (off + 0)) (List.mem_append_left _ (by
                simp only [MemPlace.row, List.mem_map, List.mem_range]
                exact ⟨0, by omega, rfl⟩))
              simp only [MemPlace.block] at this
              rw [hb] at this
              simp at this
            subst hm0
            have hl0 : len = 0 := by omega
            subst hl0
            exact Go.Deep.shut_slice_pairs un22 un59 ce59 of0 of1 (by rw [ty0]; exact ce3) (by rw [ty1]; exact ce3) (Nat.zero_le _) (Nat.le_refl _) hm hb V0 V1 D0 D1 P0 P1 q0 q1 r0 r1
      | _ => simp at hshape
end Go.AM
