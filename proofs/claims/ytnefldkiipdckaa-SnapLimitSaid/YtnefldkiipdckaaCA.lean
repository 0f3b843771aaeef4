import Derived.ChangeStays
import Derived.Deep.DeepHandedRow
import Derived.Deep.Slices
import Derived.Deep.Strs
import Derived.JoinedCond
import Derived.KernelRfl
import Derived.LaidLaws
import Derived.Laws.BytesArg
import Derived.Laws.StructEq
import Derived.OpenShut
import Derived.ProofKit
import Derived.RangeFuncLeaves
import Derived.RangeFuncRecord
import Derived.RowKit
import Derived.Test.YtnefldkiipdckaaProg
import Derived.Test.YtnefldkiipdckaaRows
import Derived.WalkKit
import Derived.Test.YtnefldkiipdckaaAmB
import Derived.Test.YtnefldkiipdckaaAmG
import Derived.Test.YtnefldkiipdckaaAmModel
import Derived.Test.YtnefldkiipdckaaAmRel
import Derived.Test.YtnefldkiipdckaaAmOps6
import Derived.Test.YtnefldkiipdckaaAmCode
import Derived.Test.YtnefldkiipdckaaAmDraw5
import Derived.Test.YtnefldkiipdckaaAmEq
import Derived.Test.YtnefldkiipdckaaRBase
import Derived.Test.YtnefldkiipdckaaR108
import Derived.Test.YtnefldkiipdckaaAmS
import Derived.Test.YtnefldkiipdckaaS16
import Derived.Test.YtnefldkiipdckaaS17
import Derived.Test.YtnefldkiipdckaaNM1
import Derived.Test.YtnefldkiipdckaaNA
import Derived.Test.YtnefldkiipdckaaTH
set_option linter.unusedVariables false
set_option linter.unusedSimpArgs false
set_option linter.unusedSectionVars false
namespace Go.AM
open Go Go.Proofs
open Go.ChangeShapes Go.WideShapes
section
variable {H : Type} {enc : TypeId × Value → H} {P : Program} {w : World} {base : Nat} {sp : Nat → Bool} {held : Bool}
end
def Same (W W' : World) : Prop := ∀ b, b < W.heap.size → W'.heap[b]? = W.heap[b]?
/-- What is there stays as it is. -/
def Stays (W w' : World) : Prop := W.keptBut w' (fun _ => False) ∧ ∀ a, a.block < W.heap.size → w'.frozen? a = W.frozen? a
theorem glob0 (W : World) : Glob (fun _ => none) W := ⟨fun g l h => by simp [glook, gtabs] at h, fun g l h => by simp [glook, gtabs] at h⟩
theorem post_of_stays {H : Type} {enc : TypeId × Value → H} {P : Program} {f : Func} {s : ChangeSpec} {apart fresh handsOn again : Bool} {W W' : World} {args : Array Value} {v : Value} {ds gs : List (DataW H)} {before pa pv : List MemPlace}
    (hW : DataW.Whole enc P f.params.toList s.vars apart W args.toList ds gs before)
    (hres : ∀ (b : Nat) (sp : Nat → Bool) (hd : Bool), DataW.TrodAll enc P W' b sp hd f.resultTypes.toList (v.resultList f.resultTypes.size) (s.fn H (ds ++ gs)).results [])
    (hargs : ∀ sp : Nat → Bool, (∀ p ∈ before, sp p.block = true) → DataW.TrodAll enc P W' 0 sp true f.params.toList args.toList (s.fn H (ds ++ gs)).args pa)
    (hvars : ∀ sp : Nat → Bool, (∀ p ∈ before, sp p.block = true) → DataW.TrodVars enc P W' sp s.vars (s.fn H (ds ++ gs)).vars pv)
    (hps : before = pa ++ pv) (hk : W.keptBut W' (· ∈ before)) (hfz : ∀ a, a.block < W.heap.size → W'.frozen? a = W.frozen? a)
    (hok : ∀ (j : Nat) (t : TypeId) (r : Value), f.resultTypes[j]? = some t → (v.resultList f.resultTypes.size)[j]? = some r → Value.okWide P W' .any 0 t r) :
    s.post enc P f apart fresh handsOn again W args v W' := by
  have hlt : ∀ p ∈ before, p.block < W.heap.size := fun p hp => hW.lt p hp
  have hold : ∀ p ∈ before, (fun b => decide (b < W.heap.size)) p.block = true := fun p hp => by simpa using hlt p hp
  refine ⟨ds, gs, before, [], pa, pv, hW, hres _ _ _, hargs _ hold, hvars _ hold, World.keptBut_mono (fun p hp => ⟨hp, ?_⟩) hk, fun _ => ?_⟩
  · rw [hps, List.mem_append] at hp
    exact Or.inr hp
  · obtain ⟨_, _, _, _, _, hz, hn⟩ := hW
    refine ⟨hok, _, _, ([] ++ pa) ++ pv, ⟨[] ++ pa, pv, trodAll_append (hargs _ (fun _ _ => rfl)) (hres _ _ _), hvars _ (fun _ _ => rfl), rfl, ?_, ?_⟩, ?_⟩
    · intro b off hp
      have hp' : MemPlace.cell b off ∈ before := by rw [hps]; simpa using hp
      rw [hfz _ (hlt _ hp')]
      exact hz b off hp'
    · intro ha
      have := hn ha
      rw [hps] at this
      simpa using this
    · intro p hp _
      rw [hps]
      simpa using hp
theorem stays_same {ρ ρ' : Map} {n : Nat} {W w' : World} (hd : ∀ r l, ρ r = some l → r < n) (h : Ext n ρ ρ' W w') : Stays W w' ∧ ∀ b, b < W.heap.size → w'.heap[b]? = W.heap[b]? := by
  have hf : ∀ b, b < W.heap.size → w'.heap[b]? = W.heap[b]? := fun b hb => h.frame b hb fun r l hr hn => by
    have := hd r l hr
    omega
  refine ⟨⟨⟨h.os, h.output, fun i hi => ?_⟩, fun a ha => ?_⟩, hf⟩
  · rw [hf i hi]
    cases W.heap[i]? with
    | none => rfl
    | some o => cases o with
      | cells c t fr => exact ⟨rfl, rfl, rfl, fun _ _ => rfl⟩
      | map es clock => exact .inr ⟨rfl, rfl⟩
      | _ => rfl
  · unfold World.frozen?
    rw [hf a.block ha]
theorem kids : Kids Try.prog (· < Try.prog.types.size) := kids_rows (by kernel_rfl) (by kernel_rfl)
theorem rowsPos : ((List.range Try.prog.types.size).all fun t => match Try.prog.underlying t with
  | some (.slice e) => decide (0 < Try.prog.cellsOf e)
  | _ => true) = true := by kernel_rfl
theorem slicePos {t e : TypeId} (h : t < Try.prog.types.size) (hu : Try.prog.underlying t = some (.slice e)) : 0 < Try.prog.cellsOf e := by
  have := List.all_eq_true.1 rowsPos t (List.mem_range.2 h)
  rw [hu] at this
  simpa using this
/-- What was read reads the same afterwards. -/
theorem trod_back {H : Type} {enc : TypeId × Value → H} {W W' : World} {t : TypeId} {v : Value} {d : DataW H} {p : List MemPlace} (ht : t < Try.prog.types.size) (h : DataW.Trod enc Try.prog W 0 (fun _ => true) true t v d p) (hS : Same W W') (hlt : ∀ q ∈ p, q.block < W.heap.size) {sp : Nat → Bool} (hsp : ∀ q ∈ p, sp q.block = true) :
    DataW.Trod enc Try.prog W' 0 sp true t v d p := by
  obtain ⟨fuel, hf⟩ := h
  refine ⟨fuel, DataW.trod_stays kids slicePos (fun h => by simp at h) ht hf (fun q hq => ?_) hsp⟩
  have hb := hS q.block (hlt q hq)
  cases q with
  | cell b off =>
    simp only [MemPlace.block] at hb
    show W'.cell? ⟨b, off, none⟩ = W.cell? ⟨b, off, none⟩
    unfold World.cell?
    rw [hb]
  | map b => exact hb
theorem trodAll_back {H : Type} {enc : TypeId × Value → H} {W W' : World} (hS : Same W W') {sp : Nat → Bool} : ∀ {ts : List TypeId} {vs : List Value} {ds : List (DataW H)} {p : List MemPlace}, (∀ t ∈ ts, t < Try.prog.types.size) → DataW.TrodAll enc Try.prog W 0 (fun _ => true) true ts vs ds p → (∀ q ∈ p, q.block < W.heap.size) → (∀ q ∈ p, sp q.block = true) →
    DataW.TrodAll enc Try.prog W' 0 sp true ts vs ds p
  | [], _, _, _, _, h, _, _ => by
    obtain ⟨rfl, rfl, rfl⟩ := trodAll_nil h
    exact trodAll_mk0
  | t :: ts, _, _, _, ht, h, hlt, hsp => by
    obtain ⟨v, vs1, d, ds1, a, b, rfl, rfl, rfl, h1, h2⟩ := trodAll_cons h
    exact trodAll_cons_mk (trod_back (ht t (by simp)) h1 hS (fun q hq => hlt q (by simp [hq])) (fun q hq => hsp q (by simp [hq]))) (trodAll_back hS (fun t' h' => ht t' (by simp [h'])) h2 (fun q hq => hlt q (by simp [hq])) (fun q hq => hsp q (by simp [hq])))
theorem un4 : Try.prog.underlying 4 = some .bool := by kernel_rfl
theorem un5 : Try.prog.underlying 5 = some (.int .u8) := by kernel_rfl
end Go.AM
namespace Go.AM
open Go Go.Proofs
open Go.ChangeShapes Go.WideShapes
section
variable {H : Type} {enc : TypeId × Value → H} {W : World} {b0 : Nat} {v : Value} {d : DataW H} {p : List MemPlace} {ρ : Map} {m : M} (hR : Rel ρ m W) (hro : ∀ row ∈ m, row.ro = true)
include hR hro
set_option maxRecDepth 100000
theorem openU8 (hval : Value.okWide Try.prog W .any b0 5 v) (hd : DataW.Trod enc Try.prog W 0 (fun _ => true) true 5 v d p) :
    ∃ (ρ' : Map) (ext : M) (xv : Value) (n : Int), ρ.le ρ' ∧ Rel ρ' (m ++ ext) W ∧ (∀ row ∈ (m ++ ext : M), row.ro = true) ∧ VRel ρ' xv v ∧ xv = .int .u8 n ∧ (0 ≤ n ∧ n < 256) := by
  obtain ⟨a0, rfl, _, _, hw⟩ := open_int un5 hval hd
  refine ⟨ρ, [], .int .u8 a0, a0, Map.le_refl _, by simpa using hR, by simpa using hro, .int _ _, rfl, ?_⟩
  simp [Lit.wf] at hw
  have e : IntKind.u8.min = 0 := by decide
  have e2 : IntKind.u8.max = 255 := by decide
  omega
end
end Go.AM
namespace Go.AM
open Go Go.Proofs
def cntR (sh : Nat → Nat → Rc) (a : Nat) : Nat → Nat
  | 0 => 0
  | i + 1 => cntR sh a i + (if (sh i a).made then 1 else 0)
theorem cntR_le (sh : Nat → Nat → Rc) (a : Nat) : ∀ i, cntR sh a i ≤ i
  | 0 => Nat.le_refl _
  | i + 1 => by
    have := cntR_le sh a i
    show cntR sh a i + (if (sh i a).made then 1 else 0) ≤ i + 1
    split <;> omega
theorem cntR_congr {sh sh' : Nat → Nat → Rc} {a : Nat} : ∀ {i : Nat}, (∀ j, j < i → (sh j a).made = (sh' j a).made) → cntR sh a i = cntR sh' a i
  | 0, _ => rfl
  | i + 1, h => by
    show cntR sh a i + (if (sh i a).made then 1 else 0) = cntR sh' a i + (if (sh' i a).made then 1 else 0)
    rw [cntR_congr (fun j hj => h j (by omega)), h i (by omega)]
theorem cntR_up {sh sh' : Nat → Nat → Rc} {a j : Nat} : ∀ {i : Nat}, j < i → (sh j a).made = false → (sh' j a).made = true → (∀ q, q ≠ j → (sh q a).made = (sh' q a).made) → cntR sh' a i = cntR sh a i + 1
  | 0, hj, _, _, _ => by omega
  | i + 1, hj, h0, h1, h => by
    show cntR sh' a i + (if (sh' i a).made then 1 else 0) = cntR sh a i + (if (sh i a).made then 1 else 0) + 1
    by_cases e : i = j
    · subst e
      rw [cntR_congr (sh := sh') (sh' := sh) (fun q hq => (h q (by omega)).symm), h0, h1]
      rfl
    · rw [cntR_up (by omega) h0 h1 h, h i e]
      omega
structure NInv (s : Nt) : Prop where
  n2 : 2 ≤ s.n
  n5 : s.n ≤ 5
  n8 : s.ns ≤ 8
  pc : ∀ i, i < s.n → 0 ≤ s.pcs i ∧ s.pcs i ≤ 1000000 * (s.evs.length + 1)
  ck : ∀ i j, 0 ≤ s.clk i j ∧ s.clk i j ≤ s.evs.length
  ms : ∀ a b q c, Ms.par q c ∈ s.ch a b → 1 ≤ q ∧ q ≤ 1000000 ∧ ∀ j, 0 ≤ c j ∧ c j ≤ s.evs.length
  le : s.evs.length ≤ 400
  cl : ∀ a b, (s.ch a b).length ≤ s.evs.length + cntR s.sh a s.ns
  hh : ∀ i t f, ((s.sh i t).hrd f).length ≤ s.evs.length
  mrk : ∀ a b no, Ms.mark no ∈ s.ch a b → 1 ≤ no ∧ no ≤ s.ns
theorem NInv.bd {s : Nt} (h : NInv s) : Bd s := ⟨h.pc, h.ck, h.ms, h.le⟩
theorem NInv.lim {s : Nt} (h : NInv s) : Lim s := ⟨fun a b => by have := h.cl a b; have := cntR_le s.sh a s.ns; have := h.n8; have := h.le; omega, fun i t f => by have := h.hh i t f; have := h.le; omega, h.mrk⟩
theorem NInv.init {l : List Int} (h : newOk l = true) : NInv (initS l) := by
  unfold newOk at h
  simp only [Bool.and_eq_true, decide_eq_true_eq, List.all_eq_true] at h
  refine ⟨h.1.1, h.1.2, by show 0 ≤ 8; omega, fun i hi => ?_, fun i j => ⟨Int.le_refl _, by show (0 : Int) ≤ ((0 : Nat) : Int); omega⟩, fun a b q c h => by simp [initS] at h, by show 0 ≤ 400; omega, fun a b => by show ([] : List Ms).length ≤ _; simp, fun i t f => by show ([] : List Int).length ≤ _; simp, fun a b no h => by simp [initS] at h⟩
  have hi' : i < l.length := hi
  have := h.2 l[i] (List.getElem_mem _)
  unfold stockB at this
  rw [decide_eq_true_eq, ← nth_get hi'] at this
  show 0 ≤ nth l i ∧ nth l i ≤ 1000000 * (((0 : Nat) : Int) + 1)
  omega
/-- The clocks and numbers after a tick. -/
theorem NInv.tick {s : Nt} (h : NInv s) (hle : s.evs.length < 400) {st : Nat} (hst : st < s.n) {pcs' : Nat → Int} {clk' : Nat → Nat → Int} {sh' : Nat → Nat → Rc} (what other x : Int)
    (hp : ∀ i, i < s.n → 0 ≤ pcs' i ∧ pcs' i ≤ 1000000 * (s.evs.length + 2)) (hc : ∀ i j, 0 ≤ clk' i j ∧ clk' i j ≤ s.evs.length) (hm : ∀ i t, (sh' i t).made = (s.sh i t).made) (hh : ∀ i t f, ((sh' i t).hrd f).length ≤ s.evs.length + 1) :
    NInv (tickS { s with pcs := pcs', clk := clk', sh := sh' } st what other x) := by
  have hl : (tickS { s with pcs := pcs', clk := clk', sh := sh' } st what other x).evs.length = s.evs.length + 1 := by
    show (s.evs ++ [_]).length = _
    simp
  refine ⟨h.n2, h.n5, h.n8, fun i hi => ?_, fun i j => ?_, fun a b q c hq => ?_, by rw [hl]; omega, fun a b => ?_, fun i t f => ?_, h.mrk⟩
  · rw [hl]
    have := hp i hi
    show 0 ≤ pcs' i ∧ pcs' i ≤ _
    omega
  · rw [hl]
    show 0 ≤ (upd clk' st (upd (clk' st) st (clk' st st + 1))) i j ∧ (upd clk' st (upd (clk' st) st (clk' st st + 1))) i j ≤ ((s.evs.length + 1 : Nat) : Int)
    by_cases e : i = st
    · subst e
      rw [upd_self]
      by_cases e2 : j = i
      · subst e2
        rw [upd_self]
        have := hc j j
        omega
      · rw [upd_ne _ _ e2]
        have := hc i j
        omega
    · rw [upd_ne _ _ e]
      have := hc i j
      omega
  · rw [hl]
    obtain ⟨a1, a2, a3⟩ := h.ms a b q c hq
    exact ⟨a1, a2, fun j => by have := a3 j; omega⟩
  · rw [hl]
    have := h.cl a b
    have e : cntR sh' a s.ns = cntR s.sh a s.ns := cntR_congr fun j _ => hm j a
    show (s.ch a b).length ≤ s.evs.length + 1 + cntR sh' a s.ns
    omega
  · rw [hl]
    exact hh i t f
theorem NInv.work {s : Nt} (h : NInv s) (hle : s.evs.length < 400) {a : Nat} (ha : a < s.n) {x : Int} (hx : 1 ≤ x ∧ x ≤ 1000000) : NInv (workS s a x) :=
  h.tick hle ha 1 a x (fun i hi => by
    by_cases e : i = a
    · subst e
      rw [upd_self]
      have := h.pc i hi
      omega
    · rw [upd_ne _ _ e]
      have := h.pc i hi
      omega) h.ck (fun _ _ => rfl) (fun i t f => by have := h.hh i t f; omega)
theorem mem_upd2 {ch : Nat → Nat → List Ms} {a b i j : Nat} {L : List Ms} {w : Ms} (h : w ∈ upd2 ch a b L i j) : w ∈ L ∨ w ∈ ch i j := by
  unfold upd2 at h
  split at h
  · exact .inl h
  · exact .inr h
theorem NInv.send {s : Nt} (h : NInv s) (hle : s.evs.length < 400) {a b : Nat} (ha : a < s.n) {x : Int} (hx : 1 ≤ x ∧ x ≤ 1000000) (hp : x ≤ s.pcs a) : NInv (sendS s a b x) := by
  have h1 : NInv (tickS { s with pcs := upd s.pcs a (s.pcs a - x) } a 2 b x) := h.tick hle ha 2 b x (fun i hi => by
    by_cases e : i = a
    · subst e
      rw [upd_self]
      have := h.pc i hi
      omega
    · rw [upd_ne _ _ e]
      have := h.pc i hi
      omega) h.ck (fun _ _ => rfl) (fun i t f => by have := h.hh i t f; omega)
  unfold sendS
  generalize hS : tickS { s with pcs := upd s.pcs a (s.pcs a - x) } a 2 b x = s1 at h1
  have hl1 : s1.evs.length = s.evs.length + 1 := by
    rw [← hS]
    show (s.evs ++ [_]).length = _
    simp
  have hch1 : s1.ch = s.ch := by rw [← hS]; rfl
  have hsh1 : s1.sh = s.sh := by rw [← hS]; rfl
  have hns1 : s1.ns = s.ns := by rw [← hS]; rfl
  refine ⟨h1.n2, h1.n5, h1.n8, h1.pc, h1.ck, fun i j q c hq => ?_, h1.le, fun i j => ?_, h1.hh, fun i j no hno => ?_⟩
  · rcases mem_upd2 hq with hq | hq
    · rcases List.mem_append.1 hq with hq | hq
      · exact h1.ms a b q c hq
      · simp only [List.mem_singleton, Ms.par.injEq] at hq
        obtain ⟨rfl, rfl⟩ := hq
        exact ⟨hx.1, hx.2, fun j => h1.ck a j⟩
    · exact h1.ms i j q c hq
  · show (upd2 s1.ch a b (s1.ch a b ++ [_]) i j).length ≤ s1.evs.length + cntR s1.sh i s1.ns
    unfold upd2
    split
    · rename_i e
      obtain ⟨rfl, rfl⟩ := e
      have := h.cl i j
      rw [List.length_append, hch1, hsh1, hns1, hl1]
      simp
      omega
    · exact h1.cl i j
  · rcases mem_upd2 hno with hq | hq
    · rcases List.mem_append.1 hq with hq | hq
      · exact h1.mrk a b no hq
      · simp at hq
    · exact h1.mrk i j no hq
theorem NInv.drop {s : Nt} (h : NInv s) {a b : Nat} {w : Ms} {L : List Ms} (hL : s.ch a b = w :: L) : NInv (dropS s a b L) := by
  refine ⟨h.n2, h.n5, h.n8, h.pc, h.ck, fun i j q c hq => ?_, h.le, fun i j => ?_, h.hh, fun i j no hno => ?_⟩
  · rcases mem_upd2 hq with hq | hq
    · exact h.ms a b q c (by rw [hL]; simp [hq])
    · exact h.ms i j q c hq
  · show (upd2 s.ch a b L i j).length ≤ _
    unfold upd2
    split
    · rename_i e
      obtain ⟨rfl, rfl⟩ := e
      have := h.cl i j
      rw [hL] at this
      simp at this
      show L.length ≤ s.evs.length + cntR s.sh i s.ns
      omega
    · exact h.cl i j
  · rcases mem_upd2 hno with hq | hq
    · exact h.mrk a b no (by rw [hL]; simp [hq])
    · exact h.mrk i j no hq
theorem NInv.recv {s : Nt} (h : NInv s) (hle : s.evs.length < 400) {a b : Nat} (hb : b < s.n) {q : Int} {c : Nat → Int} (hq : Ms.par q c ∈ s.ch a b) : NInv (recvS s a b q c) := by
  obtain ⟨q1, q2, q3⟩ := h.ms a b q c hq
  refine h.tick hle hb 3 a q (fun i hi => ?_) (fun i j => ?_) (fun i t => ?_) (fun i t f => ?_)
  · by_cases e : i = b
    · subst e
      rw [upd_self]
      have := h.pc i hi
      omega
    · rw [upd_ne _ _ e]
      have := h.pc i hi
      omega
  · by_cases e : i = b
    · subst e
      rw [upd_self]
      have := h.ck i j
      have := q3 j
      unfold maxC
      omega
    · rw [upd_ne _ _ e]
      exact h.ck i j
  · rw [hearF_eq]
    split
    · unfold hearR
      rename_i e
      rw [e.2]
      split <;> rfl
    · rfl
  · rw [hearF_eq]
    have h1 := h.hh i t f
    split
    · rename_i e
      rw [← e.2]
      unfold hearR
      split
      · show (upd (s.sh i t).hrd a ((s.sh i t).hrd a ++ [q]) f).length ≤ _
        by_cases ef : f = a
        · subst ef
          rw [upd_self]
          simp
          omega
        · rw [upd_ne _ _ ef]
          omega
      · omega
    · omega
/-- A record, made, that listens to the first i others. -/
def recG (r : Rc) (p e : Int) (i at_ : Nat) : Rc := ⟨true, p, e, fun f => if f < i ∧ f ≠ at_ then true else r.opn f, r.hrd⟩
theorem recG_opn (r : Rc) (p e : Int) (i at_ f : Nat) : (recG r p e i at_).opn f = if f < i ∧ f ≠ at_ then true else r.opn f := rfl
theorem recG_same (r : Rc) (p e : Int) (at_ : Nat) : recG r p e at_ at_ = recG r p e (at_ + 1) at_ := by
  unfold recG
  congr 1
  funext f
  by_cases hf : f < at_ ∧ f ≠ at_
  · rw [if_pos hf, if_pos ⟨by omega, hf.2⟩]
  · rw [if_neg hf, if_neg (by omega)]
theorem recG_succ (r : Rc) (p e : Int) (i at_ : Nat) (hi : i ≠ at_) : ({ recG r p e i at_ with opn := upd (recG r p e i at_).opn i true } : Rc) = recG r p e (i + 1) at_ := by
  show (⟨true, p, e, upd (recG r p e i at_).opn i true, r.hrd⟩ : Rc) = ⟨true, p, e, _, r.hrd⟩
  congr 1
  funext f
  by_cases ef : f = i
  · subst ef
    rw [upd_self, if_pos ⟨by omega, hi⟩]
  · rw [upd_ne _ _ ef, recG_opn]
    by_cases hf : f < i ∧ f ≠ at_
    · rw [if_pos hf, if_pos ⟨by omega, hf.2⟩]
    · rw [if_neg hf, if_neg (by omega)]
theorem recI_sh (s : Nt) (no at_ : Nat) : ∀ i j t, (recI s no at_ i).sh j t = if j = no - 1 ∧ t = at_ then recG (s.sh j t) (s.pcs at_) (s.clk at_ at_) i at_ else s.sh j t
  | 0, j, t => by
    show upd2 s.sh (no - 1) at_ _ j t = _
    by_cases e : j = no - 1 ∧ t = at_
    · obtain ⟨rfl, rfl⟩ := e
      rw [upd2_self, if_pos ⟨rfl, rfl⟩]
      unfold recG
      congr 1
    · rw [upd2_ne _ _ e, if_neg e]
  | i + 1, j, t => by
    by_cases hi : i = at_
    · rw [recI_eq _ _ _ _ hi, recI_sh, hi, recG_same]
    · rw [recI_ne _ _ _ _ hi]
      show upd2 (recI s no at_ i).sh (no - 1) at_ _ j t = _
      by_cases e : j = no - 1 ∧ t = at_
      · obtain ⟨rfl, rfl⟩ := e
        rw [upd2_self, recI_sh, if_pos ⟨rfl, rfl⟩, if_pos ⟨rfl, rfl⟩, recG_succ _ _ _ _ _ hi]
      · rw [upd2_ne _ _ e, recI_sh, if_neg e, if_neg e]
/-- The record of a station that records. -/
def recR (s : Nt) (r : Rc) (at_ : Nat) : Rc := recG r (s.pcs at_) (s.clk at_ at_) s.n at_
theorem recordS_sh (s : Nt) (no at_ j t : Nat) : (recordS s no at_).sh j t = if j = no - 1 ∧ t = at_ then recR s (s.sh j t) at_ else s.sh j t := recI_sh s no at_ s.n j t
theorem recordS_ch (s : Nt) (no at_ a b : Nat) : (recordS s no at_).ch a b = if a = at_ ∧ b < s.n ∧ b ≠ at_ then s.ch a b ++ [.mark no] else s.ch a b := recI_ch s no at_ s.n a b
theorem NInv.record {s : Nt} (h : NInv s) {no at_ : Nat} (h1 : 1 ≤ no) (h2 : no ≤ s.ns) (hm : (s.sh (no - 1) at_).made = false) : NInv (recordS s no at_) := by
  obtain ⟨e1, e2, e3, e4, e5⟩ := recordS_n s no at_
  have hcnt : ∀ a, cntR (recordS s no at_).sh a s.ns = cntR s.sh a s.ns + (if a = at_ then 1 else 0) := fun a => by
    by_cases e : a = at_
    · subst e
      rw [if_pos rfl]
      refine cntR_up (j := no - 1) (by omega) hm ?_ (fun q hq => ?_)
      · rw [recordS_sh, if_pos ⟨rfl, rfl⟩]
        rfl
      · rw [recordS_sh, if_neg (fun h => hq h.1)]
    · rw [if_neg e, Nat.add_zero]
      refine cntR_congr fun j _ => ?_
      rw [recordS_sh, if_neg (fun h => e h.2)]
  refine ⟨by rw [e1]; exact h.n2, by rw [e1]; exact h.n5, by rw [e2]; exact h.n8, fun i hi => ?_, fun i j => ?_, fun a b q c hq => ?_, by rw [e3]; exact h.le, fun a b => ?_, fun i t f => ?_, fun a b x hx => ?_⟩
  · rw [e4, e3]
    exact h.pc i (by rw [← e1]; exact hi)
  · rw [e5, e3]
    exact h.ck i j
  · rw [e3]
    rw [recordS_ch] at hq
    split at hq
    · rcases List.mem_append.1 hq with hq | hq
      · exact h.ms a b q c hq
      · simp at hq
    · exact h.ms a b q c hq
  · rw [e2, e3, hcnt, recordS_ch]
    have := h.cl a b
    split
    · rename_i e
      rw [if_pos e.1]
      simp
      omega
    · omega
  · rw [e3, recordS_sh]
    split
    · exact h.hh i t f
    · exact h.hh i t f
  · rw [e2]
    rw [recordS_ch] at hx
    split at hx
    · rcases List.mem_append.1 hx with hx | hx
      · exact h.mrk a b x hx
      · simp only [List.mem_singleton, Ms.mark.injEq] at hx
        omega
    · exact h.mrk a b x hx
theorem NInv.heed {s : Nt} (h : NInv s) {a b no : Nat} (h1 : 1 ≤ no) (h2 : no ≤ s.ns) : NInv (heedS s a b no) := by
  have hH : NInv (heed1 s b no) := by
    unfold heed1
    split
    · exact h
    · rename_i hm
      exact h.record h1 h2 (by simpa using hm)
  have hsh : ∀ i t, ((heedS s a b no).sh i t).made = ((heed1 s b no).sh i t).made ∧ ((heedS s a b no).sh i t).hrd = ((heed1 s b no).sh i t).hrd := fun i t => by
    show (upd2 (heed1 s b no).sh (no - 1) b (shutR ((heed1 s b no).sh (no - 1) b) a) i t).made = _ ∧ (upd2 (heed1 s b no).sh (no - 1) b (shutR ((heed1 s b no).sh (no - 1) b) a) i t).hrd = _
    unfold upd2
    split
    · rename_i e
      obtain ⟨rfl, rfl⟩ := e
      exact ⟨rfl, rfl⟩
    · exact ⟨rfl, rfl⟩
  refine ⟨hH.n2, hH.n5, hH.n8, hH.pc, hH.ck, hH.ms, hH.le, fun x y => ?_, fun i t f => ?_, hH.mrk⟩
  · have := hH.cl x y
    rw [show cntR (heedS s a b no).sh x (heedS s a b no).ns = cntR (heed1 s b no).sh x (heed1 s b no).ns from cntR_congr fun j _ => (hsh j x).1]
    exact this
  · rw [(hsh i t).2]
    exact hH.hh i t f
theorem NInv.new {s : Nt} (h : NInv s) (h8 : s.ns < 8) : NInv (newS s) := by
  refine ⟨h.n2, h.n5, by show s.ns + 1 ≤ 8; omega, h.pc, h.ck, h.ms, h.le, fun a b => ?_, fun i t f => ?_, fun a b no hno => ?_⟩
  · have := h.cl a b
    show (s.ch a b).length ≤ s.evs.length + (cntR (newS s).sh a s.ns + _)
    rw [show cntR (newS s).sh a s.ns = cntR s.sh a s.ns from cntR_congr fun j hj => by
      show (if j = s.ns then zeroR else s.sh j a).made = _
      rw [if_neg (by omega)]]
    omega
  · show ((if i = s.ns then zeroR else s.sh i t).hrd f).length ≤ _
    split
    · show ([] : List Int).length ≤ _
      simp
    · exact h.hh i t f
  · have := h.mrk a b no hno
    show 1 ≤ no ∧ no ≤ s.ns + 1
    omega
theorem NInv.start {s : Nt} (h : NInv s) (h8 : s.ns < 8) (a : Nat) : NInv (startS s a) := by
  refine (h.new h8).record (by omega) (by show s.ns + 1 ≤ s.ns + 1; omega) ?_
  show (if s.ns + 1 - 1 = s.ns then zeroR else s.sh (s.ns + 1 - 1) a).made = false
  rw [if_pos (by omega)]
  rfl
theorem workE_0 {s : Nt} {a x : Int} (h : workE s a x = 0) : ∃ A : Nat, a = A ∧ A < s.n ∧ (1 ≤ x ∧ x ≤ 1000000) ∧ s.evs.length < 400 := by
  unfold workE at h
  split at h
  · rename_i h1
    split at h
    · omega
    · obtain ⟨A, rfl⟩ := Int.eq_ofNat_of_zero_le h1.1.1
      exact ⟨A, rfl, by omega, h1.2, by omega⟩
  · omega
theorem sendE_0 {s : Nt} {a b x : Int} (h : sendE s a b x = 0) : ∃ A B : Nat, a = A ∧ b = B ∧ A < s.n ∧ B < s.n ∧ A ≠ B ∧ (1 ≤ x ∧ x ≤ 1000000) ∧ x ≤ s.pcs A ∧ s.evs.length < 400 := by
  unfold sendE at h
  split at h
  · omega
  · rename_i h1
    obtain ⟨A, B, rfl, rfl, h2, h3, h4⟩ := chkF_0 (n := s.n) (a := a) (b := b) (by omega)
    split at h
    · split at h
      · omega
      · split at h
        · omega
        · rename_i h5 h6 h7
          rw [Int.toNat_natCast] at h6
          exact ⟨A, B, rfl, rfl, h2, h3, h4, h5, by omega, by omega⟩
    · omega
theorem NInv.workN {s : Nt} (h : NInv s) (a x : Int) : NInv (workN s a x) := by
  unfold Go.AM.workN
  split
  · rename_i e
    obtain ⟨A, rfl, h1, h2, h3⟩ := workE_0 e
    exact h.work h3 h1 h2
  · exact h
theorem NInv.sendN {s : Nt} (h : NInv s) (a b x : Int) : NInv (sendN s a b x) := by
  unfold Go.AM.sendN
  split
  · rename_i e
    obtain ⟨A, B, rfl, rfl, h1, h2, h3, h4, h5, h6⟩ := sendE_0 e
    exact h.send h6 h1 h4 h5
  · exact h
theorem NInv.rcvS {s : Nt} (h : NInv s) (a b : Int) : NInv (rcvS s a b) := by
  unfold Go.AM.rcvS
  split
  · exact h
  · rename_i e
    obtain ⟨A, B, rfl, rfl, h1, h2, h3⟩ := chkF_0 (n := s.n) (a := a) (b := b) (by omega)
    rw [Int.toNat_natCast, Int.toNat_natCast]
    unfold recvN
    cases hc : s.ch A B with
    | nil => exact h
    | cons w l =>
      cases w with
      | par q c =>
        show NInv (if 400 ≤ s.evs.length then ((8 : Int), s) else (0, dropS (recvS s A B q c) A B l)).2
        split
        · exact h
        · exact (h.recv (by omega) h2 (by rw [hc]; simp)).drop (w := .par q c) hc
      | mark no =>
        obtain ⟨m1, m2⟩ := h.mrk A B no (by rw [hc]; simp)
        refine (h.heed m1 m2).drop (w := .mark no) ?_
        show (heed1 s B no).ch A B = _
        rw [heed1_ch s no h3, hc]
theorem NInv.startN {s : Nt} (h : NInv s) (a : Int) : NInv (startN s a) := by
  unfold Go.AM.startN
  split
  · rename_i e
    refine h.start ?_ _
    unfold startE at e
    split at e
    · split at e
      · omega
      · omega
    · omega
  · exact h
end Go.AM
namespace Go.AM
open Go Go.Proofs
theorem a5 : agg1 5 = true := by kernel_rfl
section
variable {k : Nat} {base : Nat} {p : Nat}
end
end Go.AM
namespace Go.AM
open Go Go.Proofs
structure MI (s : Nt) : Prop where
  m1 : ∀ i a b, i < s.ns → a < s.n → b < s.n → a ≠ b → (s.sh i a).made = true → ((s.sh i b).made = false ∨ (s.sh i b).opn a = true) → Ms.mark (i + 1) ∈ s.ch a b
  m2 : ∀ i t f, (s.sh i t).opn f = true → f < s.n ∧ f ≠ t
  m3 : ∀ i, i < s.ns → ∃ a, a < s.n ∧ (s.sh i a).made = true
  m0 : ∀ i t f, (s.sh i t).made = false → (s.sh i t).opn f = false
theorem MI.init (l : List Int) : MI (initS l) := ⟨fun i a b h => by simp [initS] at h, fun i t f h => by simp [initS, zeroR] at h, fun i h => by simp [initS] at h, fun i t f _ => rfl⟩
/-- Where markers and records are the same. -/
theorem MI.same {s s' : Nt} (h : MI s) (hn : s'.n = s.n) (hns : s'.ns = s.ns) (hm : ∀ i t, (s'.sh i t).made = (s.sh i t).made) (ho : ∀ i t, (s'.sh i t).opn = (s.sh i t).opn) (hc : ∀ a b no, Ms.mark no ∈ s.ch a b → Ms.mark no ∈ s'.ch a b) : MI s' := by
  refine ⟨fun i a b hi ha hb hab h1 h2 => ?_, fun i t f h1 => ?_, fun i hi => ?_, fun i t f h1 => ?_⟩
  · rw [hn] at ha hb
    rw [hns] at hi
    rw [hm] at h1 h2
    rw [ho] at h2
    exact hc _ _ _ (h.m1 i a b hi ha hb hab h1 h2)
  · rw [ho] at h1
    rw [hn]
    exact h.m2 i t f h1
  · rw [hns] at hi
    obtain ⟨a, h1, h2⟩ := h.m3 i hi
    exact ⟨a, by rw [hn]; exact h1, by rw [hm]; exact h2⟩
  · rw [hm] at h1
    rw [ho]
    exact h.m0 i t f h1
theorem MI.work {s : Nt} (h : MI s) (a : Nat) (x : Int) : MI (workS s a x) := h.same rfl rfl (fun _ _ => rfl) (fun _ _ => rfl) (fun _ _ _ h => h)
theorem MI.send {s : Nt} (h : MI s) (a b : Nat) (x : Int) : MI (sendS s a b x) := by
  refine h.same rfl rfl (fun _ _ => rfl) (fun _ _ => rfl) (fun i j no hh => ?_)
  show Ms.mark no ∈ upd2 s.ch a b (s.ch a b ++ [_]) i j
  unfold upd2
  split
  · rename_i e
    obtain ⟨rfl, rfl⟩ := e
    simp [hh]
  · exact hh
theorem MI.record {s : Nt} (h : MI s) {no at_ : Nat} (h1 : 1 ≤ no) (hat : at_ < s.n) (hm : (s.sh (no - 1) at_).made = false) : MI (recordS s no at_) := by
  obtain ⟨e1, e2, _⟩ := recordS_n s no at_
  have hmade : ∀ i t, ((recordS s no at_).sh i t).made = if i = no - 1 ∧ t = at_ then true else (s.sh i t).made := fun i t => by
    rw [recordS_sh]
    split <;> rfl
  have hopn : ∀ i t f, ((recordS s no at_).sh i t).opn f = if (i = no - 1 ∧ t = at_) ∧ f < s.n ∧ f ≠ at_ then true else (s.sh i t).opn f := fun i t f => by
    rw [recordS_sh]
    split
    · rename_i e
      show (if f < s.n ∧ f ≠ at_ then true else (s.sh i t).opn f) = _
      by_cases hf : f < s.n ∧ f ≠ at_
      · rw [if_pos hf, if_pos ⟨e, hf⟩]
      · rw [if_neg hf, if_neg (fun h => hf h.2)]
    · rename_i e
      rw [if_neg (fun h => e h.1)]
  have hch : ∀ a b x, Ms.mark x ∈ s.ch a b → Ms.mark x ∈ (recordS s no at_).ch a b := fun a b x hx => by
    rw [recordS_ch]
    split
    · simp [hx]
    · exact hx
  refine ⟨fun i a b hi ha hb hab g1 g2 => ?_, fun i t f g => ?_, fun i hi => ?_, fun i t f g => ?_⟩
  · rw [e1] at ha hb
    rw [e2] at hi
    rw [hmade] at g1
    by_cases ea : i = no - 1 ∧ a = at_
    · obtain ⟨rfl, rfl⟩ := ea
      rw [recordS_ch, if_pos ⟨rfl, hb, fun e => hab e.symm⟩, show no - 1 + 1 = no by omega]
      simp
    · rw [if_neg ea] at g1
      refine hch _ _ _ (h.m1 i a b hi ha hb hab g1 ?_)
      rw [hmade, hopn] at g2
      by_cases eb : i = no - 1 ∧ b = at_
      · obtain ⟨rfl, rfl⟩ := eb
        exact .inl hm
      · rw [if_neg eb, if_neg (fun h => eb h.1)] at g2
        exact g2
  · rw [e1]
    rw [hopn] at g
    split at g
    · rename_i e
      rw [e.1.2]
      exact e.2
    · exact h.m2 i t f g
  · rw [e2] at hi
    obtain ⟨a, q1, q2⟩ := h.m3 i hi
    refine ⟨a, by rw [e1]; exact q1, ?_⟩
    rw [hmade]
    split
    · rfl
    · exact q2
  · rw [hmade] at g
    rw [hopn]
    split at g
    · simp at g
    · rename_i e
      rw [if_neg (fun h => e h.1)]
      exact h.m0 i t f g
theorem MI.start {s : Nt} (h : MI s) {a : Nat} (ha : a < s.n) : MI (startS s a) := by
  have hz : ∀ t, ((newS s).sh s.ns t) = zeroR := fun t => by
    show (if s.ns = s.ns then zeroR else s.sh s.ns t) = _
    rw [if_pos rfl]
  have ho : ∀ i t, i ≠ s.ns → (newS s).sh i t = s.sh i t := fun i t hi => if_neg hi
  obtain ⟨e1, e2, _⟩ := recordS_n (newS s) (s.ns + 1) a
  have e1' : (startS s a).n = s.n := e1
  have e2' : (startS s a).ns = s.ns + 1 := e2
  have hsh : ∀ i t, (startS s a).sh i t = if i = s.ns ∧ t = a then recR (newS s) ((newS s).sh i t) a else (newS s).sh i t := fun i t => recordS_sh (newS s) (s.ns + 1) a i t
  have hch : ∀ x y, (startS s a).ch x y = if x = a ∧ y < s.n ∧ y ≠ a then s.ch x y ++ [.mark (s.ns + 1)] else s.ch x y := fun x y => recordS_ch (newS s) (s.ns + 1) a x y
  refine ⟨fun i x y hi hx hy hxy g1 g2 => ?_, fun i t f g => ?_, fun i hi => ?_, fun i t f g => ?_⟩
  · rw [e1'] at hx hy
    rw [e2'] at hi
    rw [hch]
    by_cases ei : i = s.ns
    · subst ei
      rw [hsh] at g1
      by_cases ex : x = a
      · subst ex
        rw [if_pos ⟨rfl, hy, fun e => hxy e.symm⟩]
        simp
      · rw [if_neg (fun h => ex h.2), hz] at g1
        simp [zeroR] at g1
    · rw [hsh, if_neg (fun h => ei h.1), ho i _ ei] at g1 g2
      have := h.m1 i x y (by omega) hx hy hxy g1 g2
      split
      · simp [this]
      · exact this
  · rw [e1']
    rw [hsh] at g
    split at g
    · rename_i e
      obtain ⟨rfl, rfl⟩ := e
      have g' : (if f < s.n ∧ f ≠ t then true else ((newS s).sh s.ns t).opn f) = true := g
      rw [hz] at g'
      split at g'
      · assumption
      · simp [zeroR] at g'
    · by_cases ei : i = s.ns
      · subst ei
        rw [hz] at g
        simp [zeroR] at g
      · rw [ho i _ ei] at g
        exact h.m2 i t f g
  · rw [e2'] at hi
    rw [e1']
    by_cases ei : i = s.ns
    · subst ei
      refine ⟨a, ha, ?_⟩
      rw [hsh, if_pos ⟨rfl, rfl⟩]
      rfl
    · obtain ⟨x, q1, q2⟩ := h.m3 i (by omega)
      refine ⟨x, q1, ?_⟩
      rw [hsh, if_neg (fun h => ei h.1), ho i _ ei]
      exact q2
  · rw [hsh] at g ⊢
    split at g
    · simp [recR, recG] at g
    · rename_i e
      rw [if_neg e]
      by_cases ei : i = s.ns
      · subst ei
        rw [hz]
        rfl
      · rw [ho i _ ei] at g ⊢
        exact h.m0 i t f g
def sumN (f : Nat → Nat) : Nat → Nat
  | 0 => 0
  | n + 1 => sumN f n + f n
def lenS (s : Nt) : Nat := sumN (fun a => sumN (fun b => (s.ch a b).length) s.n) s.n
def um (r : Rc) : Nat := if r.made then 0 else 1
def unmS (s : Nt) : Nat := sumN (fun i => sumN (fun t => um (s.sh i t)) s.n) s.ns
def phi (s : Nt) : Nat := lenS s + 4 * unmS s
theorem rcv_no {s : Nt} (a b : Int) (h : rcvE s a b ≠ 0) : rcvS s a b = s := by
  unfold rcvE at h
  unfold rcvS
  split
  · rfl
  · rename_i e
    rw [if_neg e] at h
    unfold recvN at h ⊢
    cases hc : s.ch a.toNat b.toNat with
    | nil => rfl
    | cons w l =>
      rw [hc] at h
      cases w with
      | par q c =>
        have h' : (if 400 ≤ s.evs.length then ((8 : Int), s) else (0, dropS (recvS s a.toNat b.toNat q c) a.toNat b.toNat l)).1 ≠ 0 := h
        show (if 400 ≤ s.evs.length then ((8 : Int), s) else (0, dropS (recvS s a.toNat b.toNat q c) a.toNat b.toNat l)).2 = s
        split at h'
        · rename_i hf
          rw [if_pos hf]
        · simp at h'
      | mark no => simp at h
/-- How much there is to do, and how many events there can be. -/
def pot (s : Nt) : Nat := s.evs.length + phi s + 24 * (8 - s.ns)
end Go.AM
namespace Go.AM
open Go Go.Proofs
section
variable {k : Nat} {base : Nat} {p : Nat} {own : Nat → Nat} {m : M} {d : NP} {s : Nt}
end
theorem remI (t : TypeId) (a b : Int) (h : b ≠ 0) : mbin E .rem t (vi a) (vi b) = some (vi (a.tmod b)) := by
  have e : mbin E .rem t (vi a) (vi b) = if b = 0 then none else some (vi (a.tmod b)) := rfl
  rw [e, if_neg h]
theorem cv53 (x : Int) : mconvert E.P 5 3 (.int .u8 x) = some (vi (wr x)) := by kernel_rfl
/-- What receives have done since s0. -/
structure Rd (s0 s : Nt) (b : Bool) : Prop where
  I : NInv s
  M : MI s
  n : s.n = s0.n
  pot : pot s ≤ pot s0
  no : b = false → s = s0
  phi : phi s + (if b then 1 else 0) ≤ phi s0
theorem Rd.refl {s : Nt} (I : NInv s) (M : MI s) : Rd s s false := ⟨I, M, rfl, Nat.le_refl _, fun _ => rfl, Nat.le_refl _⟩
section
variable {k : Nat} {base : Nat} {p : Nat}
theorem nilP25 (p : Nat) : mbin E .eql 25 (pt p 0) (.pointer none) = some (.bool false) := isNil25 p
end
end Go.AM
namespace Go.AM
open Go Go.Proofs
theorem gb45e (m : M) : xbuildSlice E.P m 45 0 [] = some (sl m.length 0, m ++ [rowz 5 true []]) := by
  have e : xbuildSlice E.P m 45 0 [] = xlen m fun n => xpush m (rowz 5 true []) fun m' => some (sl n 0, m') := by kernel_rfl
  rw [e, xlen_eq, fNat_eq, xpush_eq, fList_eq]
theorem nil45 (a : Addr) (l c : Nat) : mbin E .eql 45 (.slice (some a) l c) nilS = some (.bool false) := by kernel_rfl
theorem nil45n : mbin E .eql 45 nilS nilS = some (.bool true) := by kernel_rfl
/-- What a clone appends. -/
theorem clone_app {own : Nat → Nat} {t z n : Nat} {m : M} {r off : Nat} {C : Nat → List Value} (hz : 0 < z) (base : Nat) (hb : base ≤ m.length) (h : Vec own t z m (slo r off n n) n C) (hv : ∀ i, i < n → (C i).all (·.oneCell') = true) (hn : n ≤ 100000) :
    (n = 0 ∧ appF z base (m ++ [rowz z true []]) (sl m.length 0) (slo r off n n) = some (sl m.length 0, m ++ [rowz z true []])) ∨
    (0 < n ∧ appF z base (m ++ [rowz z true []]) (sl m.length 0) (slo r off n n) = some (sl (m.length + 1) n, (m ++ [rowz z true []]) ++ [rowz z false (flatC C n)])) := by
  rcases h with ⟨_, h⟩ | ⟨r', off', ex, N, h, h1, h2, h3, h4, h5⟩
  · simp [slo] at h
  · have he : r = r' ∧ off = off' := by
      have := congrArg (fun v => match v with
        | Value.slice (some a) _ _ => (a.block, a.off)
        | _ => (0, 0)) h
      simpa [slo] using this
    obtain ⟨rfl, rfl⟩ := he
    by_cases h0 : n = 0
    · subst h0
      left
      refine ⟨rfl, ?_⟩
      have hs : xsource (m ++ [rowz z true []]) z (slo r off 0 0) = some (0, []) := by
        have e : xsource (m ++ [rowz z true []]) z (slo r off 0 0) = (xread (m ++ [rowz z true []]) r off (0 * z)).map fun cs => (0, cs) := rfl
        rw [e, xread_eq, Nat.zero_mul, mread0 (h1.congr (push_get h1.lt)) (by omega)]
        rfl
      exact app_none (a := none) hs (.inr (.inl ⟨_, _, _, _, rfl, Nat.le_refl _⟩))
    · right
      refine ⟨by omega, ?_⟩
      have hfl := flatC_len (fun i hi => (h5 i hi).2)
      have hp : 0 < n * z := Nat.mul_pos (by omega) hz
      have hne : flatC C n ≠ [] := by intro e; rw [e] at hfl; simp at hfl; omega
      have hsrc := xsource_push (x := [rowz z true []]) (z := z) (v := slo r off n n) (c := n) (cs := flatC C n) ⟨r, off, none, n, n, rfl, .inl rfl, rfl, hfl, hne, flatC_mk (fun i hi => (h5 i hi).2) (fun i hi => (h5 i hi).1)⟩
      have hall : (flatC C n).all (·.oneCell') = true := by
        have : ∀ k, k ≤ n → (flatC C k).all (·.oneCell') = true := fun k => by
          induction k with
          | zero => intro _; rfl
          | succ k ih =>
            intro hk
            show (flatC C k ++ C k).all _ = true
            rw [List.all_append, ih (by omega), hv k (by omega)]
            rfl
        exact this n (Nat.le_refl _)
      have := app_some (base := base) hsrc hb (Hd_new m z true []) (off := 0) (len := 0) (olds := []) (.inl rfl) (by simp) (fun i v h => by simp at h) (by simp) (by omega) (by omega) (by omega) hall
      rw [this]
      simp
section
variable {own : Nat → Nat} {k : Nat} {m : M} {p : Nat} {d : NP} {s : Nt} {base : Nat}
theorem lst_src {own : Nat → Nat} {t : Nat} {m : M} {u : Value} {l : List Int} (h : Nums own t m u l) (h0 : l ≠ []) : ∃ r off s ln cap, u = .slice (some ⟨r, off, s⟩) ln cap ∧ (s = none ∨ s = some 2) ∧ l.length = ln ∧ (l.map vi).length = ln * 1 ∧ l.map vi ≠ [] ∧ Cs m r off (l.map vi) := by
  obtain ⟨a, c, rfl, hh⟩ := h
  obtain ⟨r, off, rfl, _, _, hc⟩ := hh (List.length_pos_iff.2 h0)
  refine ⟨r, off, none, _, _, rfl, .inl rfl, rfl, by simp, by simpa using h0, fun i v hi => ?_⟩
  have hil : i < l.length := by
    have := (List.getElem?_eq_some_iff.1 hi).1
    simpa using this
  have hv : v = vi (nth l i) := by
    rw [List.getElem?_map, List.getElem?_eq_getElem hil] at hi
    simp at hi
    rw [nth_get hil]
    exact hi.symm
  subst hv
  have := (hc i hil).cell
  rw [Nat.mul_one] at this
  exact this
/-- Numbers cloned. -/
theorem clone22 (q : Nat) {t : Nat} {u : Value} {l : List Int} (h : Nums own t m u l) (h0 : l ≠ []) (hl : l.length ≤ 1000) (hb : base ≤ m.length) (tg : Nat) :
    ∃ own' m', rt (q + 1) base 74 [u] m = some (.ret (sl (m.length + 1) l.length), m') ∧ Nums own' tg m' (sl (m.length + 1) l.length) l ∧ (∀ T, Step T own m own' m') ∧ own' (m.length + 1) = tg ∧ (∀ r, r ≠ m.length → r ≠ m.length + 1 → own' r = own r) ∧ own' m.length = 0 ∧ m'.length = m.length + 2 ∧ Hd m' (m.length + 1) 1 false l.length ∧ Cs m' (m.length + 1) 0 (l.map vi) ∧ (∃ x, m' = m ++ x) := by
  have hs := lst_src h h0
  have hrun := t74 q base (c := l.length) (cs := l.map vi) hs hb hl (all_vi l)
  have hl1 : (m ++ [rowz 1 true []]).length = m.length + 1 := by simp
  have hc := Cs_new (m ++ [rowz 1 true []]) 1 false (l.map vi)
  rw [hl1] at hc
  have hd := Hd_new (m ++ [rowz 1 true []]) 1 false (l.map vi)
  rw [hl1, List.length_map] at hd
  refine ⟨upd (upd own m.length 0) (m.length + 1) tg, _, hrun, ?_, fun T => ?_, upd_self _ _ _, fun r h1 h2 => by rw [upd_ne _ _ h2, upd_ne _ _ h1], by rw [upd_ne _ _ (by omega), upd_self], by simp, hd, hc, ⟨[rowz 1 true [], rowz 1 false (l.map vi)], by simp⟩⟩
  · refine ⟨_, _, rfl, fun _ => ⟨m.length + 1, 0, rfl, hd.lt, upd_self _ _ _, fun i hi => ?_⟩⟩
    rw [Nat.mul_one]
    refine Cs.one (hc i _ ?_)
    rw [List.getElem?_map, List.getElem?_eq_getElem hi, nth_get hi]
    rfl
  · have a := Step.push T own m (rowz 1 true []) 0
    have b := Step.push T (upd own m.length 0) (m ++ [rowz 1 true []]) (rowz 1 false (l.map vi)) tg
    rw [hl1] at b
    exact a.trans b
theorem ev5 {m : M} {r z n j : Nat} {ex : Bool} {e : Evt} {u w : Value} (h : Cs m r (j * 5) (evC e u)) (hd : Hd m r z ex n) (hn : j * 5 + 5 ≤ n) : Cs (mwr m r (j * 5 + 4) [w]) r (j * 5) (evC e w) := by
  have := Cs.set1 h hd (j := 4) (by simp [evC]) (by simp [evC]; omega) w
  exact this
theorem loop26 (q : Nat) (kp kx : Value → M → Res2) {l : List Evt} {r : Nat} (hl : l.length ≤ 1000) (hclk : ∀ i, i < l.length → (evt l i).clk ≠ [] ∧ (evt l i).clk.length ≤ 1000) (hbr : base ≤ r) :
    ∀ (w i : Nat) (own : Nat → Nat) (m : M) (U : Nat → Value), i ≤ l.length → l.length + 1 ≤ w + i → Own base own → Hd m r 5 false (5 * l.length) → own r = 7 → (∀ j, j < l.length → Cs m r (j * 5) (evC (evt l j) (U j)) ∧ Nums own 0 m (U j) (evt l j).clk) →
      ∃ own' m', ∃ U' : Nat → Value, r26_L0 (rt (q + 1)) (q + 1) base kp kx w (sl r l.length) (vi l.length) (vi i) m = kx (sl r l.length) m' ∧ Own base own' ∧ Hd m' r 5 false (5 * l.length) ∧ own' r = 7 ∧ (∀ j, j < l.length → Cs m' r (j * 5) (evC (evt l j) (U' j)) ∧ Nums own' 0 m' (U' j) (evt l j).clk) ∧ Step (· = 7) own m own' m'
  | 0, i, own, m, U, hi, hw, hO, hd, ht, hU => by omega
  | w + 1, i, own, m, U, hi, hw, hO, hd, ht, hU => by
    rw [r26_L0_s, lssN, k1s]
    by_cases hlt : i < l.length
    · have hbm : base ≤ m.length := by have := hd.lt; omega
      obtain ⟨c1, c2⟩ := hU i hlt
      have hc4 : mcell m r (i * 5 + 4) = some (U i) := c1 4 _ rfl
      obtain ⟨own1, m1, hrun, hN, hS, htg, hoth, _, hm1, hd1, hcs1, _⟩ := clone22 (base := base) q c2 (hclk i hlt).1 (hclk i hlt).2 hbm 0
      have s1 := hS (fun _ => False)
      have hO1 : Own base own1 := fun x hx => by
        by_cases e1 : x < m.length
        · rw [s1.tg x e1] at hx; exact hO x hx
        · omega
      have hd' : Hd m1 r 5 false (5 * l.length) := s1.hd hd (fun h => h)
      have ht1 : own1 r = 7 := (s1.tg r hd.lt).trans ht
      let v := sl (m.length + 1) (evt l i).clk.length
      let m2 : M := mwr m1 r (i * 5 + 4) [v]
      have s2 : Step (· = 7) own1 m1 own1 m2 := Step.wr (T := (· = 7)) ht1 _ _
      have hst : xstore E.P base m1 22 (pt r (i * 5 + 4)) v = some m2 := gstS z22 hbr hd' (by omega) _ _ _
      obtain ⟨own', m', U', g1, g2, g3, g4, g5, g6⟩ := loop26 q kp kx hl hclk hbr w (i + 1) own1 m2 (upd U i v) (by omega) (by omega) hO1 (mwr_hd hd') ht1 (fun j hj => by
        obtain ⟨a1, a2⟩ := hU j hj
        have b1 := s1.cs a1 (fun h => h)
        by_cases e : j = i
        · subst e
          rw [upd_self]
          exact ⟨ev5 b1 hd' (by omega), Lst.step hN s2 (by omega)⟩
        · rw [upd_ne _ _ e]
          refine ⟨b1.wr ?_, Lst.step (Lst.step a2 s1 (fun h => h)) s2 (by omega)⟩
          simp [evC]
          omega)
      refine ⟨own', m', U', ?_, g2, g3, g4, g5, (hS _).trans (s2.trans g6)⟩
      rw [decide_eq_true hlt, kbt, gix s45 r 0 _ _ i hlt, k1s, show 0 + i * 5 = i * 5 by omega, gfd f72_4, k1s, gld1 a22, hc4, k1s, hrun, kcs, k1s, gfd f72_4, k1s, hst, kss, add1 3 _ (by omega), k1s]
      exact g1
    · rw [decide_eq_false hlt, kbf]
      exact ⟨own, m, U, rfl, hO, hd, ht, hU, Step.refl _ _ _⟩
theorem all_evC {e : Evt} {u : Value} (hu : ∃ a n c, u = .slice a n c) : (evC e u).all (·.oneCell') = true := all5 hu
theorem t26 (q : Nat) (hq : 1010 ≤ q) (hO : Own base own) (h : Net own k m p d s) (hl : s.evs.length ≤ 1000) (hclk : ∀ i, i < s.evs.length → (evt s.evs i).clk ≠ [] ∧ (evt s.evs i).clk.length ≤ 1000) :
    ∃ own' m' v, rt (q + 2) base 26 [pt p 0] m = some (.ret v, m') ∧ Own base own' ∧ Evs own' 0 m' v s.evs ∧ Step (· = 7) own m own' m' := by
  have hbm : base ≤ m.length := by have := hO p (by rw [h.H.tg]; have := h.k0; omega); have := h.H.hd.lt; omega
  rw [rt_imp (f := 26) (rf := rf26) (by kernel_rfl) (by kernel_rfl) (by kernel_rfl)]
  show ∃ own' m' v, r26 (rt (q + 1)) (q + 1) base (pt p 0) m = _ ∧ _
  unfold r26
  rw [k1_fun, vcall_fun, fVal_fun, t68 q _ h.H h.n2, kcs, kbf, mnil_pt, k1s, h.H.evl]
  obtain ⟨U, hV, hU⟩ := h.E
  rw [rt_imp (f := 73) (rf := rf73) (by kernel_rfl) (by kernel_rfl) (by kernel_rfl)]
  show ∃ own' m' v, kc (r73 (rt q) q base d.ev m) _ _ = _ ∧ _
  unfold r73
  rw [k1_fun, vcall_fun, fVal_fun]
  have hV' := hV
  rcases hV' with ⟨h0, hnil⟩ | ⟨r, off, ex, N, hslo, h1, h2, h3, h4, h5⟩
  · rw [hnil, nil45n, k1s, kbt, kcs]
    have e0 : vcalln E.P base m .len [45] [nilS] = some (vi 0, m) := glen i45 base m none 0 0
    rw [e0, k2s, i0]
    refine ⟨own, m, nilS, ?_, hO, ⟨U, ⟨_, _, by rw [h0], fun h => by omega⟩, fun i hi => by omega⟩, Step.refl _ _ _⟩
    rw [r26_L0_s, show vi (0 : Int) = vi ((0 : Nat) : Int) from rfl, lssN, k1s, decide_eq_false (by omega), kbf]
  · rw [hslo] at hV ⊢
    rw [nil45, k1s, kbf, gb45e, k2s, vapp p45]
    rcases clone_app (by omega) base hbm hV (fun i hi => all_evC (hU i hi).sl3) (by omega) with ⟨h0, happ⟩ | ⟨h0, happ⟩
    · rw [happ, k2s, kcs]
      have e0 : vcalln E.P base (m ++ [rowz 5 true []]) .len [45] [sl m.length 0] = some (vi 0, m ++ [rowz 5 true []]) := glen i45 base _ _ 0 0
      rw [e0, k2s, i0]
      refine ⟨upd own m.length 0, m ++ [rowz 5 true []], sl m.length 0, ?_, hO.upd hbm 0, ⟨U, ⟨_, _, by rw [h0], fun h => by omega⟩, fun i hi => by omega⟩, Step.push _ _ _ _ _⟩
      rw [r26_L0_s, show vi (0 : Int) = vi ((0 : Nat) : Int) from rfl, lssN, k1s, decide_eq_false (by omega), kbf]
    · rw [happ, k2s, kcs, glen i45, k2s, i0]
      let m2 : M := (m ++ [rowz 5 true []]) ++ [rowz 5 false (flatC (fun i => evC (evt s.evs i) (U i)) s.evs.length)]
      let own2 := upd (upd own m.length 0) (m.length + 1) 7
      have hl1 : (m ++ [rowz 5 true []]).length = m.length + 1 := by simp
      have s2 : ∀ T : Nat → Prop, Step T own m own2 m2 := fun T => by
        have a := Step.push T own m (rowz 5 true []) 0
        have b := Step.push T (upd own m.length 0) (m ++ [rowz 5 true []]) (rowz 5 false (flatC (fun i => evC (evt s.evs i) (U i)) s.evs.length)) 7
        rw [hl1] at b
        exact a.trans b
      have hfl : (flatC (fun i => evC (evt s.evs i) (U i)) s.evs.length).length = 5 * s.evs.length := by rw [flatC_len (z := 5) (fun _ _ => rfl), Nat.mul_comm]
      have hd2 : Hd m2 (m.length + 1) 5 false (5 * s.evs.length) := by
        have := Hd_new (m ++ [rowz 5 true []]) 5 false (flatC (fun i => evC (evt s.evs i) (U i)) s.evs.length)
        rw [hl1, hfl] at this
        exact this
      have hc2 := Cs_new (m ++ [rowz 5 true []]) 5 false (flatC (fun i => evC (evt s.evs i) (U i)) s.evs.length)
      rw [hl1] at hc2
      obtain ⟨own3, m3, U3, g1, g2, g3, g4, g5, g6⟩ := loop26 (base := base) q (fun v m => some (.pan v, m)) (fun y m => some (.ret y, m)) (l := s.evs) (r := m.length + 1) hl hclk (by omega) (q + 1) 0 own2 m2 U (by omega) (by omega) ((hO.upd hbm 0).upd (by omega) 7) hd2 (upd_self _ _ _) (fun j hj => by
        have := flatC_cs (z := 5) (fun _ _ => rfl) hc2 j hj
        rw [Nat.zero_add] at this
        exact ⟨this, Lst.step (hU j hj) (s2 fun _ => False) (fun h => h)⟩)
      -- the list is nobody's any more
      let own4 := upd own3 (m.length + 1) 0
      have hm2 : m2.length = m.length + 2 := by simp [m2]
      have hS : Step (· = 7) own m own4 m3 := by
        have a := (s2 (· = 7)).trans g6
        refine ⟨a.len, fun x hx => ?_, fun x hx => a.keep x hx⟩
        show upd own3 (m.length + 1) 0 x = _
        rw [upd_ne _ _ (by omega)]
        exact a.tg x hx
      have hO4 : Own base own4 := g2.upd (by omega) 0
      have hre : ∀ {t z n : Nat} {v : Value} {C : Nat → List Value}, Lst own3 t z m3 v n C → t ≠ 7 → Lst own4 t z m3 v n C := fun {t z n v C} hh ht => by
        obtain ⟨a, c, rfl, hh⟩ := hh
        refine ⟨a, c, rfl, fun hp => ?_⟩
        obtain ⟨x, off, q1, q2, q3, q4⟩ := hh hp
        refine ⟨x, off, q1, q2, ?_, q4⟩
        show upd own3 (m.length + 1) 0 x = _
        by_cases e : x = m.length + 1
        · subst e
          rw [g4] at q3
          exact absurd q3.symm ht
        · rw [upd_ne _ _ e]
          exact q3
      refine ⟨own4, m3, _, g1, hO4, ⟨U3, ⟨_, _, rfl, fun _ => ⟨m.length + 1, 0, rfl, g3.lt, upd_self _ _ _, fun i hi => ?_⟩⟩, fun i hi => hre (g5 i hi).2 (by omega)⟩, hS⟩
      rw [Nat.zero_add]
      exact (g5 i hi).1
end
end Go.AM
namespace Go.AM
open Go Go.Proofs
def isPar : Ms → Bool
  | .par _ _ => true
  | .mark _ => false
def nPar (l : List Ms) : Nat := (l.filter isPar).length
theorem nPar_app (l : List Ms) (w : Ms) : nPar (l ++ [w]) = nPar l + if isPar w then 1 else 0 := by
  unfold nPar
  rw [List.filter_append, List.length_append]
  cases w <;> rfl
section
variable {l : List Evt} {e : Evt}
theorem evt_app {i : Nat} (h : i < l.length) : evt (l ++ [e]) i = evt l i := by
  unfold evt
  rw [List.getElem?_append_left h]
theorem evt_new : evt (l ++ [e]) l.length = e := by
  unfold evt
  simp
theorem sndL_app (a b : Int) : ∀ {t : Nat}, t ≤ l.length → sndL (l ++ [e]) a b t = sndL l a b t
  | 0, _ => rfl
  | t + 1, h => by
    show (if isSnd (evt (l ++ [e]) t) a b then sndL (l ++ [e]) a b t ++ [t] else sndL (l ++ [e]) a b t) = (if isSnd (evt l t) a b then sndL l a b t ++ [t] else sndL l a b t)
    rw [evt_app (by omega), sndL_app a b (by omega)]
theorem rcvN_app (a b : Int) : ∀ {t : Nat}, t ≤ l.length → rcvN (l ++ [e]) a b t = rcvN l a b t
  | 0, _ => rfl
  | t + 1, h => by
    show (if isRcv (evt (l ++ [e]) t) a b then rcvN (l ++ [e]) a b t + 1 else rcvN (l ++ [e]) a b t) = (if isRcv (evt l t) a b then rcvN l a b t + 1 else rcvN l a b t)
    rw [evt_app (by omega), rcvN_app a b (by omega)]
theorem ordN_app (s : Int) : ∀ {t : Nat}, t ≤ l.length → ordN (l ++ [e]) s t = ordN l s t
  | 0, _ => rfl
  | t + 1, h => by
    show (if (evt (l ++ [e]) t).st = s then ordN (l ++ [e]) s t + 1 else ordN (l ++ [e]) s t) = (if (evt l t).st = s then ordN l s t + 1 else ordN l s t)
    rw [evt_app (by omega), ordN_app s (by omega)]
theorem mateF_app {i : Nat} (h : i < l.length) : mateF (l ++ [e]) i = mateF l i := by
  unfold mateF
  rw [evt_app h, sndL_app _ _ (by omega), rcvN_app _ _ (by omega)]
theorem evOk_app (n : Nat) {i : Nat} (h : i < l.length) : evOk (l ++ [e]) n i = evOk l n i := by
  unfold evOk
  rw [evt_app h, mateF_app h]
theorem allOk_app (n : Nat) : ∀ {t : Nat}, t ≤ l.length → allOk (l ++ [e]) n t = allOk l n t
  | 0, _ => rfl
  | t + 1, h => by
    show (allOk (l ++ [e]) n t && evOk (l ++ [e]) n t) = (allOk l n t && evOk l n t)
    rw [allOk_app n (by omega), evOk_app n (by omega)]
theorem sndL_new (a b : Int) : (sndL (l ++ [e]) a b (l ++ [e]).length).length = (sndL l a b l.length).length + if isSnd e a b then 1 else 0 := by
  have h : (l ++ [e]).length = l.length + 1 := by simp
  rw [h]
  show (if isSnd (evt (l ++ [e]) l.length) a b then sndL (l ++ [e]) a b l.length ++ [l.length] else sndL (l ++ [e]) a b l.length).length = _
  rw [evt_new, sndL_app a b (Nat.le_refl _)]
  split <;> simp
theorem rcvN_new (a b : Int) : rcvN (l ++ [e]) a b (l ++ [e]).length = rcvN l a b l.length + if isRcv e a b then 1 else 0 := by
  have h : (l ++ [e]).length = l.length + 1 := by simp
  rw [h]
  show (if isRcv (evt (l ++ [e]) l.length) a b then rcvN (l ++ [e]) a b l.length + 1 else rcvN (l ++ [e]) a b l.length) = _
  rw [evt_new, rcvN_app a b (Nat.le_refl _)]
  split <;> rfl
end
structure EI (s : Nt) : Prop where
  ok : ∀ i, i < s.evs.length → okEv s.n (evt s.evs i) = true ∧ (evt s.evs i).clk.length = s.n
  al : allOk s.evs s.n s.evs.length = true
  bal : ∀ a b : Nat, a < s.n → b < s.n → a ≠ b → (sndL s.evs a b s.evs.length).length = rcvN s.evs a b s.evs.length + nPar (s.ch a b)
theorem EI.init (l : List Int) : EI (initS l) := ⟨fun i h => by simp [initS] at h, rfl, fun a b _ _ _ => rfl⟩
/-- Where events and parcels are the same. -/
theorem EI.same {s s' : Nt} (h : EI s) (hn : s'.n = s.n) (he : s'.evs = s.evs) (hp : ∀ a b, a < s.n → b < s.n → a ≠ b → nPar (s'.ch a b) = nPar (s.ch a b)) : EI s' := by
  refine ⟨fun i hi => ?_, ?_, fun a b ha hb hab => ?_⟩
  · rw [he] at hi ⊢
    rw [hn]
    exact h.ok i hi
  · rw [he, hn]; exact h.al
  · rw [hn] at ha hb
    rw [he, hp a b ha hb hab]
    exact h.bal a b ha hb hab
theorem clkL_len (n : Nat) (c : Nat → Int) : (clkL n c).length = n := by simp [clkL]
theorem EI.tick {s : Nt} (h : EI s) {st : Nat} (hst : st < s.n) {pcs' : Nat → Int} {clk' : Nat → Nat → Int} {sh' : Nat → Nat → Rc} {what other : Nat} (x : Int) (hw : 1 ≤ what ∧ what ≤ 3) (ho : other < s.n) {ch' : Nat → Nat → List Ms}
    (hm : what = 3 → rcvN s.evs other st s.evs.length < (sndL s.evs other st s.evs.length).length)
    (hb : ∀ a b, a < s.n → b < s.n → a ≠ b → nPar (ch' a b) + (if what = 3 ∧ st = b ∧ other = a then 1 else 0) = nPar (s.ch a b) + (if what = 2 ∧ st = a ∧ other = b then 1 else 0)) :
    EI { (tickS { s with pcs := pcs', clk := clk', sh := sh' } st what other x) with ch := ch' } := by
  have hl : ∀ e : Evt, (s.evs ++ [e]).length = s.evs.length + 1 := fun e => by simp
  have key : ∀ e : Evt, e.st = st → e.what = what → e.other = other → e.clk.length = s.n → EI { (tickS { s with pcs := pcs', clk := clk', sh := sh' } st what other x) with evs := s.evs ++ [e], ch := ch' } := fun e e1 e2 e3 e4 => by
    have hok : okEv s.n e = true := okEv_iff.2 ⟨by omega, by omega, by omega, by omega, by omega, by omega⟩
    refine ⟨fun i hi => ?_, ?_, fun a b ha hb' hab => ?_⟩
    · have hi' : i < (s.evs ++ [e]).length := hi
      show okEv s.n (evt (s.evs ++ [e]) i) = true ∧ (evt (s.evs ++ [e]) i).clk.length = s.n
      by_cases ei : i = s.evs.length
      · subst ei
        rw [evt_new]
        exact ⟨hok, e4⟩
      · rw [evt_app (by rw [hl] at hi'; omega)]
        exact h.ok i (by rw [hl] at hi'; omega)
    · show allOk (s.evs ++ [e]) s.n (s.evs ++ [e]).length = true
      rw [hl]
      show (allOk (s.evs ++ [e]) s.n s.evs.length && evOk (s.evs ++ [e]) s.n s.evs.length) = true
      rw [allOk_app _ (Nat.le_refl _), h.al, Bool.true_and]
      unfold evOk mateF
      rw [evt_new, hok, Bool.true_and, sndL_app _ _ (Nat.le_refl _), rcvN_app _ _ (Nat.le_refl _), e1, e2, e3]
      by_cases hw3 : what = 3
      · rw [List.getElem?_eq_getElem (hm hw3)]
        simp
      · rw [decide_eq_false (by omega)]
        rfl
    · show (sndL (s.evs ++ [e]) a b (s.evs ++ [e]).length).length = rcvN (s.evs ++ [e]) a b (s.evs ++ [e]).length + nPar (ch' a b)
      rw [sndL_new, rcvN_new]
      have h1 := h.bal a b ha hb' hab
      have h2 := hb a b ha hb' hab
      have h3 : isSnd e a b = true ↔ (what = 2 ∧ st = a ∧ other = b) := by rw [isSnd_iff, e1, e2, e3]; omega
      have h4 : isRcv e a b = true ↔ (what = 3 ∧ st = b ∧ other = a) := by rw [isRcv_iff, e1, e2, e3]; omega
      simp only [h3, h4]
      omega
  exact key _ rfl rfl rfl (clkL_len _ _)
theorem EI.work {s : Nt} (h : EI s) {a : Nat} (ha : a < s.n) (x : Int) : EI (workS s a x) := by
  have H := h.tick ha (pcs' := (workS s a x).pcs) (clk' := s.clk) (sh' := s.sh) (what := 1) (other := a) x (by omega) ha (ch' := s.ch) (fun h => by omega) (fun a b _ _ _ => by simp)
  exact ⟨H.ok, H.al, H.bal⟩
theorem EI.send {s : Nt} (h : EI s) {a b : Nat} (ha : a < s.n) (hb : b < s.n) (x : Int) : EI (sendS s a b x) := by
  refine h.tick ha (what := 2) (other := b) x (by omega) hb (ch' := upd2 s.ch a b (s.ch a b ++ [_])) (fun h => by omega) (fun i j _ _ _ => ?_)
  by_cases e : i = a ∧ j = b
  · obtain ⟨rfl, rfl⟩ := e
    rw [upd2_self, nPar_app]
    simp [isPar]
  · rw [upd2_ne _ _ e, if_neg (by omega), if_neg (by omega)]
theorem EI.record {s : Nt} (h : EI s) (no at_ : Nat) : EI (recordS s no at_) := by
  obtain ⟨e1, e2, e3, _⟩ := recordS_n s no at_
  refine h.same e1 e3 (fun a b _ _ _ => ?_)
  rw [recordS_ch]
  split
  · rw [nPar_app]; rfl
  · rfl
end Go.AM
namespace Go.AM
open Go Go.Proofs
section
variable (B : Nat → Nat)
end
section
variable (l : List Evt) (n : Nat)
variable {l n}
theorem ordN_succ {s : Int} {t : Nat} (h : (evt l t).st = s) : ordN l s (t + 1) = ordN l s t + 1 := by
  rw [ordN, if_pos h]
end
end Go.AM
namespace Go.AM
open Go Go.Proofs
section
variable (l : List Evt)
/-- An event stands just before another: at its station, or as its send. -/
def dirB (i k : Nat) : Bool := decide ((evt l k).st = (evt l i).st) || (decide ((evt l i).what = 3) && (isSnd (evt l k) (evt l i).other (evt l i).st && decide (rcvN l (evt l i).other (evt l i).st i = (sndL l (evt l i).other (evt l i).st k).length)))
def csT : Nat → Nat → Nat → Bool
  | 0 => fun _ _ => false
  | t + 1 => fun i j => if i = t then (List.range t).any fun k => dirB l t k && (decide (j = k) || (decide (j < k) && csT t k j)) else csT t i j
def hb (i j : Nat) : Bool := csT l (i + 1) i j
variable {l}
theorem csT_eq {i j : Nat} : ∀ {t : Nat}, i < t → csT l t i j = hb l i j
  | 0, h => by omega
  | t + 1, h => by
    by_cases e : i = t
    · subst e; rfl
    · show (if i = t then _ else csT l t i j) = _
      rw [if_neg e]
      exact csT_eq (by omega)
theorem hb_iff {i j : Nat} : hb l i j = true ↔ ∃ k, k < i ∧ dirB l i k = true ∧ (j = k ∨ (j < k ∧ hb l k j = true)) := by
  show (if i = i then (List.range i).any fun k => dirB l i k && (decide (j = k) || (decide (j < k) && csT l i k j)) else csT l i i j) = true ↔ _
  rw [if_pos rfl, List.any_eq_true]
  constructor
  · rintro ⟨k, hk, h⟩
    rw [List.mem_range] at hk
    rw [csT_eq hk] at h
    simp only [Bool.and_eq_true, Bool.or_eq_true, decide_eq_true_eq] at h
    exact ⟨k, hk, h⟩
  · rintro ⟨k, hk, h⟩
    refine ⟨k, List.mem_range.2 hk, ?_⟩
    rw [csT_eq hk]
    simp only [Bool.and_eq_true, Bool.or_eq_true, decide_eq_true_eq]
    exact h
theorem hb_lt {i j : Nat} (h : hb l i j = true) : j < i := by
  obtain ⟨k, h1, _, h3⟩ := hb_iff.1 h
  omega
theorem hb_iff' {i j : Nat} : hb l i j = true ↔ ∃ k, k < i ∧ dirB l i k = true ∧ (j = k ∨ hb l k j = true) := by
  rw [hb_iff]
  constructor
  · rintro ⟨k, h1, h2, h3⟩
    exact ⟨k, h1, h2, h3.imp id fun h => h.2⟩
  · rintro ⟨k, h1, h2, h3⟩
    exact ⟨k, h1, h2, h3.imp id fun h => ⟨hb_lt h, h⟩⟩
theorem dirB_app {e : Evt} {i k : Nat} (hi : i < l.length) (hk : k < l.length) : dirB (l ++ [e]) i k = dirB l i k := by
  unfold dirB
  rw [evt_app hi, evt_app hk, rcvN_app _ _ (by omega), sndL_app _ _ (by omega)]
theorem hb_app {e : Evt} : ∀ (i : Nat) {j : Nat}, i < l.length → hb (l ++ [e]) i j = hb l i j := by
  intro i
  induction i using Nat.strongRecOn with
  | ind i ih =>
    intro j hi
    rw [Bool.eq_iff_iff, hb_iff, hb_iff]
    constructor
    · rintro ⟨k, h1, h2, h3⟩
      rw [dirB_app hi (by omega)] at h2
      rw [ih k h1 (by omega)] at h3
      exact ⟨k, h1, h2, h3⟩
    · rintro ⟨k, h1, h2, h3⟩
      refine ⟨k, h1, ?_, ?_⟩
      · rw [dirB_app hi (by omega)]; exact h2
      · rw [ih k h1 (by omega)]; exact h3
/-- The mate by its number. -/
theorem sndL_at (a b : Int) {k : Nat} (hs : isSnd (evt l k) a b = true) : ∀ {t : Nat}, k < t → (sndL l a b t)[(sndL l a b k).length]? = some k
  | 0, h => by omega
  | t + 1, h => by
    show (if isSnd (evt l t) a b then sndL l a b t ++ [t] else sndL l a b t)[(sndL l a b k).length]? = some k
    by_cases e : k = t
    · subst e
      rw [if_pos hs]
      simp
    · have ih := sndL_at a b hs (t := t) (by omega)
      have hlt := (List.getElem?_eq_some_iff.1 ih).1
      split
      · rw [List.getElem?_append_left hlt]; exact ih
      · exact ih
theorem sndL_num (a b : Int) {k q : Nat} : ∀ {t : Nat}, (sndL l a b t)[q]? = some k → (sndL l a b k).length = q
  | 0, h => by simp [sndL] at h
  | t + 1, h => by
    unfold sndL at h
    split at h
    · by_cases e : q < (sndL l a b t).length
      · rw [List.getElem?_append_left e] at h
        exact sndL_num a b h
      · rw [List.getElem?_append_right (by omega)] at h
        have h1 := (List.getElem?_eq_some_iff.1 h).1
        simp at h1
        have e2 : q = (sndL l a b t).length := by omega
        subst e2
        simp at h
        rw [h]
    · exact sndL_num a b h
theorem dirB_iff {i k : Nat} (hk : k < i) : dirB l i k = true ↔ (evt l k).st = (evt l i).st ∨ ((evt l i).what = 3 ∧ mateF l i = some k) := by
  unfold dirB
  simp only [Bool.or_eq_true, Bool.and_eq_true, decide_eq_true_eq]
  constructor
  · rintro (h | ⟨h1, h2, h3⟩)
    · exact .inl h
    · refine .inr ⟨h1, ?_⟩
      unfold mateF
      rw [h3]
      exact sndL_at _ _ h2 hk
  · rintro (h | ⟨h1, h2⟩)
    · exact .inl h
    · refine .inr ⟨h1, (mateF_some l h2).2, ?_⟩
      exact (sndL_num _ _ h2).symm
end
def sN (l : List Evt) (j : Nat) : Nat := (evt l j).st.toNat
def oN (l : List Evt) (j : Nat) : Nat := ordN l (evt l j).st j
def parL (n : Nat) (L : List Ms) : List (List Int) := L.filterMap fun
  | .par _ c => some (clkL n c)
  | .mark _ => none
theorem nth_clkL {n : Nat} {c : Nat → Int} {i : Nat} (h : i < n) : nth (clkL n c) i = c i := by
  unfold nth clkL
  rw [List.getElem?_map, List.getElem?_range h]
  rfl
structure CK (s : Nt) : Prop where
  kE : ∀ i j, i < s.evs.length → j < s.evs.length → ((j = i ∨ hb s.evs i j = true) ↔ (oN s.evs j : Int) < nth (evt s.evs i).clk (sN s.evs j))
  kU : ∀ i, i < s.evs.length → ∀ a, a < s.n → 0 ≤ nth (evt s.evs i).clk a ∧ nth (evt s.evs i).clk a ≤ ordN s.evs (a : Nat) (i + 1)
  kS : ∀ a, a < s.n → ∀ j, j < s.evs.length → ((sN s.evs j = a ∨ ∃ i, i < s.evs.length ∧ sN s.evs i = a ∧ hb s.evs i j = true) ↔ (oN s.evs j : Int) < s.clk a (sN s.evs j))
  kA : ∀ a, a < s.n → s.clk a a = ordN s.evs (a : Nat) s.evs.length
  kV : ∀ a b, a < s.n → b < s.n → 0 ≤ s.clk a b ∧ s.clk a b ≤ ordN s.evs (b : Nat) s.evs.length
  kP : ∀ a b : Nat, a < s.n → b < s.n → a ≠ b → parL s.n (s.ch a b) = ((sndL s.evs a b s.evs.length).drop (rcvN s.evs a b s.evs.length)).map fun k => (evt s.evs k).clk
theorem CK.init (l : List Int) : CK (initS l) := ⟨fun i j h => by simp [initS] at h, fun i h => by simp [initS] at h, fun a _ j h => by simp [initS] at h, fun _ _ => rfl, fun _ _ _ _ => ⟨Int.le_refl _, Int.le_refl _⟩, fun _ _ _ _ _ => rfl⟩
theorem EI.sN {s : Nt} (h : EI s) {j : Nat} (hj : j < s.evs.length) : (evt s.evs j).st = (sN s.evs j : Int) ∧ sN s.evs j < s.n := by
  have e := okEv_iff.1 (h.ok j hj).1
  unfold Go.AM.sN
  omega
theorem CK.tick {s s' : Nt} (hE : EI s) (h : CK s) {a : Nat} (ha : a < s.n) {e : Evt} {c : Nat → Int} (hn : s'.n = s.n) (hev : s'.evs = s.evs ++ [e]) (hck : ∀ x, s'.clk x = if x = a then upd c a (c a + 1) else s.clk x) (he : e.st = a) (hec : e.clk = clkL s.n (upd c a (c a + 1)))
    (H1 : ∀ j, j < s.evs.length → ((∃ k, k < s.evs.length ∧ dirB (s.evs ++ [e]) s.evs.length k = true ∧ (j = k ∨ hb s.evs k j = true)) ↔ (oN s.evs j : Int) < c (sN s.evs j)))
    (H2 : c a = ordN s.evs (a : Nat) s.evs.length) (H3 : ∀ b, b < s.n → 0 ≤ c b ∧ c b ≤ ordN s.evs (b : Nat) s.evs.length)
    (hP : ∀ a b : Nat, a < s.n → b < s.n → a ≠ b → parL s.n (s'.ch a b) = ((sndL (s.evs ++ [e]) a b (s.evs.length + 1)).drop (rcvN (s.evs ++ [e]) a b (s.evs.length + 1))).map fun k => (evt (s.evs ++ [e]) k).clk) : CK s' := by
  have hl : (s.evs ++ [e]).length = s.evs.length + 1 := by simp
  have ho : ∀ j, j < s.evs.length → oN (s.evs ++ [e]) j = oN s.evs j := fun j hj => by
    unfold oN
    rw [evt_app hj, ordN_app _ (by omega)]
  have hs : ∀ j, j < s.evs.length → Go.AM.sN (s.evs ++ [e]) j = Go.AM.sN s.evs j := fun j hj => by
    unfold Go.AM.sN
    rw [evt_app hj]
  have ho' : oN (s.evs ++ [e]) s.evs.length = ordN s.evs (a : Nat) s.evs.length := by
    unfold oN
    rw [evt_new, he, ordN_app _ (Nat.le_refl _)]
  have hs' : Go.AM.sN (s.evs ++ [e]) s.evs.length = a := by
    unfold Go.AM.sN
    rw [evt_new, he, Int.toNat_natCast]
  have hN : ∀ b : Nat, ordN (s.evs ++ [e]) b (s.evs.length + 1) = ordN s.evs b s.evs.length + if b = a then 1 else 0 := fun b => by
    show (if (evt (s.evs ++ [e]) s.evs.length).st = (b : Int) then ordN (s.evs ++ [e]) b s.evs.length + 1 else ordN (s.evs ++ [e]) b s.evs.length) = _
    rw [evt_new, he, ordN_app _ (Nat.le_refl _)]
    by_cases hb : b = a
    · subst hb; simp
    · rw [if_neg (by omega), if_neg hb]; rfl
  have hO : ∀ j, j < s.evs.length → sN s.evs j < s.n ∧ oN s.evs j < ordN s.evs (sN s.evs j : Nat) s.evs.length := fun j hj => by
    obtain ⟨e1, e2⟩ := hE.sN hj
    refine ⟨e2, ?_⟩
    unfold oN
    rw [e1]
    have h1 : ordN s.evs (sN s.evs j : Nat) (j + 1) = ordN s.evs (sN s.evs j : Nat) j + 1 := ordN_succ e1
    have h2 := ordN_mono s.evs (sN s.evs j : Nat) (show j + 1 ≤ s.evs.length by omega)
    omega
  have hnew : ∀ j, j < s.evs.length → (hb (s.evs ++ [e]) s.evs.length j = true ↔ (oN s.evs j : Int) < c (sN s.evs j)) := fun j hj => by
    rw [← H1 j hj, hb_iff']
    constructor
    · rintro ⟨k, k1, k2, k3⟩
      rw [hb_app k k1] at k3
      exact ⟨k, k1, k2, k3⟩
    · rintro ⟨k, k1, k2, k3⟩
      refine ⟨k, k1, k2, ?_⟩
      rw [hb_app k k1]
      exact k3
  have hnew' : ∀ j, j < s.evs.length → (hb (s.evs ++ [e]) s.evs.length j = true ↔ (oN s.evs j : Int) < (upd c a (c a + 1)) (sN s.evs j)) := fun j hj => by
    rw [hnew j hj]
    have h1 := hO j hj
    by_cases ea : sN s.evs j = a
    · rw [ea, upd_self]
      rw [ea] at h1
      omega
    · rw [upd_ne _ _ ea]
  have hno : ∀ i, i < s.evs.length → hb (s.evs ++ [e]) i s.evs.length = false := fun i hi => by
    cases h : hb (s.evs ++ [e]) i s.evs.length with
    | false => rfl
    | true => have := hb_lt h; omega
  refine ⟨?_, ?_, ?_, ?_, ?_, ?_⟩
  · rw [hev, hl]
    intro i j hi hj
    by_cases ei : i = s.evs.length
    · subst ei
      rw [evt_new, hec]
      by_cases ej : j = s.evs.length
      · subst ej
        rw [hs', ho', nth_clkL ha, upd_self, H2]
        constructor
        · intro _; omega
        · intro _; exact .inl rfl
      · have hj' : j < s.evs.length := by omega
        rw [hs j hj', ho j hj', nth_clkL (hO j hj').1, ← hnew' j hj']
        exact ⟨fun h => h.resolve_left ej, .inr⟩
    · have hi' : i < s.evs.length := by omega
      rw [evt_app hi']
      by_cases ej : j = s.evs.length
      · subst ej
        rw [hs', ho', hno i hi']
        have h1 := (h.kU i hi' a ha).2
        have h2 := ordN_mono s.evs (a : Nat) (show i + 1 ≤ s.evs.length by omega)
        constructor
        · rintro (h | h)
          · omega
          · simp at h
        · intro h; omega
      · have hj' : j < s.evs.length := by omega
        rw [hs j hj', ho j hj', hb_app i hi']
        exact h.kE i j hi' hj'
  · rw [hev, hl, hn]
    intro i hi b hb
    by_cases ei : i = s.evs.length
    · subst ei
      rw [evt_new, hec, nth_clkL hb, hN]
      have h3 := H3 b hb
      by_cases eb : b = a
      · subst eb
        rw [upd_self, if_pos rfl]
        omega
      · rw [upd_ne _ _ eb, if_neg eb]
        omega
    · have hi' : i < s.evs.length := by omega
      rw [evt_app hi', ordN_app _ (by omega)]
      exact h.kU i hi' b hb
  · rw [hev, hl, hn]
    intro b hb j hj
    rw [hck]
    by_cases eb : b = a
    · subst eb
      rw [if_pos rfl]
      by_cases ej : j = s.evs.length
      · subst ej
        rw [hs', ho', upd_self, H2]
        constructor
        · intro _; omega
        · intro _; exact .inl rfl
      · have hj' : j < s.evs.length := by omega
        rw [hs j hj', ho j hj', ← hnew' j hj']
        have e1 := (hE.sN hj').1
        constructor
        · rintro (h | ⟨i, i1, i2, i3⟩)
          · rw [hb_iff']
            refine ⟨j, hj', ?_, .inl rfl⟩
            rw [dirB_iff hj', evt_app hj', evt_new, he, e1, h]
            exact .inl rfl
          · by_cases ei : i = s.evs.length
            · rw [ei] at i3; exact i3
            · have hi' : i < s.evs.length := by omega
              rw [hb_iff']
              refine ⟨i, hi', ?_, .inr i3⟩
              rw [hs i hi'] at i2
              rw [dirB_iff hi', evt_app hi', evt_new, he, (hE.sN hi').1, i2]
              exact .inl rfl
        · intro h
          exact .inr ⟨s.evs.length, by omega, hs', h⟩
    · rw [if_neg eb]
      by_cases ej : j = s.evs.length
      · subst ej
        rw [hs', ho']
        have h1 := (h.kV b a hb ha).2
        constructor
        · rintro (h | ⟨i, i1, i2, i3⟩)
          · omega
          · have := hb_lt i3
            omega
        · intro h; omega
      · have hj' : j < s.evs.length := by omega
        rw [hs j hj', ho j hj', ← h.kS b hb j hj']
        constructor
        · rintro (h | ⟨i, i1, i2, i3⟩)
          · exact .inl h
          · have hi' : i < s.evs.length := by
              have : i ≠ s.evs.length := fun ei => by rw [ei, hs'] at i2; omega
              omega
            rw [hs i hi'] at i2
            rw [hb_app i hi'] at i3
            exact .inr ⟨i, hi', i2, i3⟩
        · rintro (h | ⟨i, i1, i2, i3⟩)
          · exact .inl h
          · refine .inr ⟨i, by omega, ?_, ?_⟩
            · rw [hs i i1]; exact i2
            · rw [hb_app i i1]; exact i3
  · rw [hev, hl, hn]
    intro b hb
    rw [hck, hN]
    by_cases eb : b = a
    · subst eb
      rw [if_pos rfl, if_pos rfl, upd_self, H2]
      omega
    · rw [if_neg eb, if_neg eb]
      exact h.kA b hb
  · rw [hev, hl, hn]
    intro x b hx hb
    rw [hck, hN]
    have h3 := H3 b hb
    have h4 := h.kV x b hx hb
    by_cases ex : x = a
    · subst ex
      rw [if_pos rfl]
      by_cases eb : b = x
      · subst eb
        rw [upd_self, if_pos rfl]
        omega
      · rw [upd_ne _ _ eb, if_neg eb]
        omega
    · rw [if_neg ex]
      split <;> omega
  · rw [hev, hl, hn]
    exact hP
end Go.AM
namespace Go.AM
open Go Go.Proofs
section
variable {l : List Evt} {e : Evt}
theorem mapE (L : List Nat) (h : ∀ k, k ∈ L → k < l.length) : (L.map fun k => (evt (l ++ [e]) k).clk) = L.map fun k => (evt l k).clk := by
  refine List.map_congr_left fun k hk => ?_
  rw [evt_app (h k hk)]
theorem qC_old {a b : Int} (h1 : isSnd e a b = false) (h2 : isRcv e a b = false) : (((sndL (l ++ [e]) a b (l.length + 1)).drop (rcvN (l ++ [e]) a b (l.length + 1))).map fun k => (evt (l ++ [e]) k).clk) = ((sndL l a b l.length).drop (rcvN l a b l.length)).map fun k => (evt l k).clk := by
  have e1 : sndL (l ++ [e]) a b (l.length + 1) = sndL l a b l.length := by
    show (if isSnd (evt (l ++ [e]) l.length) a b then _ else sndL (l ++ [e]) a b l.length) = _
    rw [evt_new, h1, if_neg (by simp), sndL_app _ _ (Nat.le_refl _)]
  have e2 : rcvN (l ++ [e]) a b (l.length + 1) = rcvN l a b l.length := by
    show (if isRcv (evt (l ++ [e]) l.length) a b then _ else rcvN (l ++ [e]) a b l.length) = _
    rw [evt_new, h2, if_neg (by simp), rcvN_app _ _ (Nat.le_refl _)]
  rw [e1, e2, mapE]
  exact fun k hk => (sndL_mem l a b (List.mem_of_mem_drop hk)).1
theorem qC_snd {a b : Int} (h1 : isSnd e a b = true) (hle : rcvN l a b l.length ≤ (sndL l a b l.length).length) : (((sndL (l ++ [e]) a b (l.length + 1)).drop (rcvN (l ++ [e]) a b (l.length + 1))).map fun k => (evt (l ++ [e]) k).clk) = (((sndL l a b l.length).drop (rcvN l a b l.length)).map fun k => (evt l k).clk) ++ [e.clk] := by
  have h2 : isRcv e a b = false := by
    cases h : isRcv e a b with
    | false => rfl
    | true =>
      have x := (isSnd_iff.1 h1).1
      have y := (isRcv_iff.1 h).1
      omega
  have e1 : sndL (l ++ [e]) a b (l.length + 1) = sndL l a b l.length ++ [l.length] := by
    show (if isSnd (evt (l ++ [e]) l.length) a b then sndL (l ++ [e]) a b l.length ++ [l.length] else sndL (l ++ [e]) a b l.length) = _
    rw [evt_new, h1, if_pos rfl, sndL_app _ _ (Nat.le_refl _)]
  have e2 : rcvN (l ++ [e]) a b (l.length + 1) = rcvN l a b l.length := by
    show (if isRcv (evt (l ++ [e]) l.length) a b then _ else rcvN (l ++ [e]) a b l.length) = _
    rw [evt_new, h2, if_neg (by simp), rcvN_app _ _ (Nat.le_refl _)]
  rw [e1, e2, List.drop_append_of_le_length hle, List.map_append, mapE]
  · show _ ++ [(evt (l ++ [e]) l.length).clk] = _
    rw [evt_new]
  · exact fun k hk => (sndL_mem l a b (List.mem_of_mem_drop hk)).1
end
theorem CK.same {s s' : Nt} (h : CK s) (hn : s'.n = s.n) (he : s'.evs = s.evs) (hc : s'.clk = s.clk) (hp : ∀ a b, a < s.n → b < s.n → a ≠ b → parL s.n (s'.ch a b) = parL s.n (s.ch a b)) : CK s' := by
  refine ⟨?_, ?_, ?_, ?_, ?_, ?_⟩
  · rw [he]; exact h.kE
  · rw [he, hn]; exact h.kU
  · rw [he, hn, hc]; exact h.kS
  · rw [he, hn, hc]; exact h.kA
  · rw [he, hn, hc]; exact h.kV
  · rw [he, hn]
    intro a b ha hb hab
    rw [hp a b ha hb hab]
    exact h.kP a b ha hb hab
/-- Of an event that is no receive: all that its station has seen. -/
theorem CK.own {s : Nt} (hE : EI s) (h : CK s) {a : Nat} (ha : a < s.n) {e : Evt} (he : e.st = a) (hw : e.what ≠ 3) : ∀ j, j < s.evs.length → ((∃ k, k < s.evs.length ∧ dirB (s.evs ++ [e]) s.evs.length k = true ∧ (j = k ∨ hb s.evs k j = true)) ↔ (oN s.evs j : Int) < s.clk a (sN s.evs j)) := by
  intro j hj
  rw [← h.kS a ha j hj]
  have hd : ∀ k, k < s.evs.length → (dirB (s.evs ++ [e]) s.evs.length k = true ↔ sN s.evs k = a) := fun k hk => by
    have e1 := (hE.sN hk).1
    rw [dirB_iff hk, evt_app hk, evt_new, he, e1]
    constructor
    · rintro (h | h)
      · omega
      · exact absurd h.1 hw
    · intro h; exact .inl (by omega)
  constructor
  · rintro ⟨k, k1, k2, k3⟩
    rw [hd k k1] at k2
    rcases k3 with rfl | k3
    · exact .inl k2
    · exact .inr ⟨k, k1, k2, k3⟩
  · rintro (h | ⟨k, k1, k2, k3⟩)
    · exact ⟨j, hj, (hd j hj).2 h, .inl rfl⟩
    · exact ⟨k, k1, (hd k k1).2 k2, .inr k3⟩
theorem CK.work {s : Nt} (hE : EI s) (h : CK s) {a : Nat} (ha : a < s.n) (x : Int) : CK (workS s a x) := by
  refine h.tick hE ha (c := s.clk a) (e := ⟨a, 1, a, x, clkL s.n (upd (s.clk a) a (s.clk a a + 1))⟩) rfl rfl (fun y => rfl) rfl rfl (h.own hE ha rfl (by show (1 : Int) ≠ 3; omega)) (h.kA a ha) (fun b hb => h.kV a b ha hb) (fun i j hi hj hij => ?_)
  rw [qC_old (by simp [isSnd]) (by simp [isRcv])]
  exact h.kP i j hi hj hij
theorem CK.send {s : Nt} (hE : EI s) (h : CK s) {a b : Nat} (ha : a < s.n) (hb : b < s.n) (hab : a ≠ b) (x : Int) : CK (sendS s a b x) := by
  refine h.tick hE ha (c := s.clk a) (e := ⟨a, 2, b, x, clkL s.n (upd (s.clk a) a (s.clk a a + 1))⟩) rfl rfl (fun y => rfl) rfl rfl (h.own hE ha rfl (by show (2 : Int) ≠ 3; omega)) (h.kA a ha) (fun b hb => h.kV a b ha hb) (fun i j hi hj hij => ?_)
  show parL s.n (upd2 s.ch a b (s.ch a b ++ [.par x (upd s.clk a (upd (s.clk a) a (s.clk a a + 1)) a)]) i j) = _
  by_cases e : i = a ∧ j = b
  · obtain ⟨rfl, rfl⟩ := e
    have hbal := hE.bal i j hi hj hij
    rw [upd2_self, upd_self, qC_snd (by simp [isSnd]) (by omega), ← h.kP i j hi hj hij]
    unfold parL
    rw [List.filterMap_append]
    rfl
  · rw [upd2_ne _ _ e, qC_old (by simp [isSnd]; omega) (by simp [isRcv])]
    exact h.kP i j hi hj hij
theorem parL_mark (n : Nat) (L : List Ms) (no : Nat) : parL n (L ++ [.mark no]) = parL n L := by
  unfold parL
  rw [List.filterMap_append]
  simp
theorem CK.record {s : Nt} (h : CK s) (no at_ : Nat) : CK (recordS s no at_) := by
  obtain ⟨e1, e2, e3, e4, e5⟩ := recordS_n s no at_
  refine h.same e1 e3 e5 (fun a b _ _ _ => ?_)
  rw [recordS_ch]
  split
  · exact parL_mark _ _ _
  · rfl
end Go.AM
namespace Go.AM
open Go Go.Proofs
def isM (no : Nat) : Ms → Bool
  | .mark k => decide (k = no)
  | .par _ _ => false
def preM (no : Nat) : List Ms → List Ms
  | [] => []
  | w :: L => if isM no w then [] else w :: preM no L
def cntM (no : Nat) : List Ms → Nat
  | [] => 0
  | w :: L => (if isM no w then 1 else 0) + cntM no L
def parP : List Ms → List Int
  | [] => []
  | .par q _ :: L => q :: parP L
  | .mark _ :: L => parP L
theorem parP_app : ∀ (L K : List Ms), parP (L ++ K) = parP L ++ parP K
  | [], _ => rfl
  | .par q c :: L, K => by show q :: parP (L ++ K) = _; rw [parP_app L K]; rfl
  | .mark _ :: L, K => parP_app L K
theorem cntM_app (no : Nat) : ∀ (L : List Ms) (w : Ms), cntM no (L ++ [w]) = cntM no L + (if isM no w then 1 else 0)
  | [], w => by show (if isM no w then 1 else 0) + 0 = 0 + _; omega
  | u :: L, w => by
    show (if isM no u then 1 else 0) + cntM no (L ++ [w]) = (if isM no u then 1 else 0) + cntM no L + _
    rw [cntM_app no L w]; omega
theorem preM_app (no : Nat) (w : Ms) : ∀ (L : List Ms), 0 < cntM no L → preM no (L ++ [w]) = preM no L
  | [], h => by simp [cntM] at h
  | u :: L, h => by
    show (if isM no u then [] else u :: preM no (L ++ [w])) = (if isM no u then [] else u :: preM no L)
    by_cases e : isM no u = true
    · rw [if_pos e, if_pos e]
    · rw [if_neg e, if_neg e, preM_app no w L (by
        unfold cntM at h
        rw [if_neg e] at h
        omega)]
theorem preM_new (no : Nat) : ∀ (L : List Ms), cntM no L = 0 → preM no (L ++ [.mark no]) = L
  | [], _ => by
    show (if isM no (.mark no) then [] else _) = _
    rw [if_pos (by simp [isM])]
  | u :: L, h => by
    unfold cntM at h
    have e : ¬ isM no u = true := fun e => by rw [if_pos e] at h; omega
    show (if isM no u then [] else u :: preM no (L ++ [.mark no])) = _
    rw [if_neg e, preM_new no L (by omega)]
theorem parP_mark (L : List Ms) (no : Nat) : parP (L ++ [.mark no]) = parP L := by
  rw [parP_app]
  show parP L ++ [] = _
  rw [List.append_nil]
/-- What counts of a channel. -/
def conC (s : Nt) (i a b : Nat) : List Int := (if (s.sh i b).made then (s.sh i b).hrd a else []) ++ parP (if (s.sh i a).made then (if !(s.sh i b).made || (s.sh i b).opn a then preM (i + 1) (s.ch a b) else []) else s.ch a b)
def okE (V : Nt) (e : Evt) : Bool := if e.what = 1 then decide (workE V e.st e.pcs = 0) else if e.what = 2 then decide (sendE V e.st e.other e.pcs = 0) else decide (rcvE V e.other e.st = 0)
def apE (V : Nt) (e : Evt) : Nt := if e.what = 1 then workN V e.st e.pcs else if e.what = 2 then sendN V e.st e.other e.pcs else rcvS V e.other e.st
def repF (w : Nat → Bool) (l : List Evt) (V0 : Nt) : Nat → Bool × Nt
  | 0 => (true, V0)
  | t + 1 => if w t then ((repF w l V0 t).1 && okE (repF w l V0 t).2 (evt l t), apE (repF w l V0 t).2 (evt l t)) else repF w l V0 t
theorem repF_congr {w w' : Nat → Bool} {l l' : List Evt} {V0 : Nt} : ∀ {t : Nat}, (∀ j, j < t → w j = w' j ∧ evt l j = evt l' j) → repF w l V0 t = repF w' l' V0 t
  | 0, _ => rfl
  | t + 1, h => by
    have ih := repF_congr (V0 := V0) (t := t) (fun j hj => h j (show j < t + 1 by omega))
    obtain ⟨e1, e2⟩ := h t (by omega)
    unfold repF
    rw [ih, e1, e2]
def wthn (s : Nt) (i j : Nat) : Bool := !(s.sh i (sN s.evs j)).made || decide ((oN s.evs j : Int) < (s.sh i (sN s.evs j)).evs)
def rep (l0 : List Int) (s : Nt) (i : Nat) : Bool × Nt := repF (wthn s i) s.evs (initS l0) s.evs.length
structure VR (s V : Nt) (i : Nat) : Prop where
  n : V.n = s.n
  le : V.evs.length ≤ s.evs.length
  pcs : ∀ t, t < s.n → V.pcs t = if (s.sh i t).made then (s.sh i t).pcs else s.pcs t
  ch : ∀ a b, a < s.n → b < s.n → a ≠ b → parP (V.ch a b) = conC s i a b
  par : ∀ a b no, Ms.mark no ∉ V.ch a b
structure SI (l0 : List Int) (s : Nt) : Prop where
  z : ∀ i t, s.ns ≤ i → s.sh i t = zeroR
  mc : ∀ i a b, a < s.n → b < s.n → a ≠ b → cntM (i + 1) (s.ch a b) = if (s.sh i a).made && (!(s.sh i b).made || (s.sh i b).opn a) then 1 else 0
  re : ∀ i t, t < s.n → (s.sh i t).made = true → (s.sh i t).evs ≤ ordN s.evs (t : Nat) s.evs.length
  hz : ∀ i t f, (s.sh i t).made = false → (s.sh i t).hrd f = [] ∧ (s.sh i t).opn f = false
  mo : ∀ i a b, a < s.n → b < s.n → a ≠ b → (s.sh i b).made = true → (s.sh i b).opn a = false → (s.sh i a).made = true
  ok : ∀ i, (rep l0 s i).1 = true
  vr : ∀ i, VR s (rep l0 s i).2 i
theorem SI.init (l : List Int) : SI l (initS l) := ⟨fun i t _ => rfl, fun i a b _ _ _ => rfl, fun i t _ h => by simp [initS, zeroR] at h, fun i t f _ => ⟨rfl, rfl⟩, fun i a b _ _ _ h => by simp [initS, zeroR] at h, fun i => rfl, fun i => ⟨rfl, Nat.le_refl _, fun t _ => rfl, fun a b _ _ _ => rfl, fun a b no h => by simp [rep, repF, initS] at h⟩⟩
/-- After one event more. -/
theorem rep_new {l0 : List Int} {s s' : Nt} (hE : EI s) (h : SI l0 s) {a : Nat} (ha : a < s.n) {e : Evt} (hev : s'.evs = s.evs ++ [e]) (he : e.st = a) (hm : ∀ i t, (s'.sh i t).made = (s.sh i t).made ∧ (s'.sh i t).evs = (s.sh i t).evs) (i : Nat) :
    rep l0 s' i = if (s.sh i a).made then rep l0 s i else ((rep l0 s i).1 && okE (rep l0 s i).2 e, apE (rep l0 s i).2 e) := by
  have hw : ∀ j, j < s.evs.length → wthn s' i j = wthn s i j := fun j hj => by
    unfold wthn
    have h1 : sN s'.evs j = sN s.evs j := by unfold sN; rw [hev, evt_app hj]
    have h2 : oN s'.evs j = oN s.evs j := by unfold oN; rw [hev, evt_app hj, ordN_app _ (by omega)]
    rw [h1, h2, (hm i _).1, (hm i _).2]
  have hold : repF (wthn s' i) s'.evs (initS l0) s.evs.length = rep l0 s i := repF_congr fun j hj => ⟨hw j hj, by rw [hev, evt_app hj]⟩
  have hl : s'.evs.length = s.evs.length + 1 := by rw [hev]; simp
  have hlast : wthn s' i s.evs.length = !(s.sh i a).made := by
    unfold wthn
    have h1 : sN s'.evs s.evs.length = a := by unfold sN; rw [hev, evt_new, he, Int.toNat_natCast]
    have h2 : oN s'.evs s.evs.length = ordN s.evs (a : Nat) s.evs.length := by unfold oN; rw [hev, evt_new, he, ordN_app _ (Nat.le_refl _)]
    rw [h1, h2, (hm i _).1, (hm i _).2]
    cases hma : (s.sh i a).made with
    | false => rfl
    | true =>
      have := h.re i a ha hma
      rw [decide_eq_false (by omega)]
      rfl
  unfold rep at hold ⊢
  rw [hl]
  show (if wthn s' i s.evs.length then ((repF (wthn s' i) s'.evs (initS l0) s.evs.length).1 && okE (repF (wthn s' i) s'.evs (initS l0) s.evs.length).2 (evt s'.evs s.evs.length), apE (repF (wthn s' i) s'.evs (initS l0) s.evs.length).2 (evt s'.evs s.evs.length)) else repF (wthn s' i) s'.evs (initS l0) s.evs.length) = _
  rw [hlast, hold, hev, evt_new]
  cases (s.sh i a).made <;> rfl
theorem rep_same {l0 : List Int} {s s' : Nt} (hev : s'.evs = s.evs) {i : Nat} (hw : ∀ j, j < s.evs.length → wthn s' i j = wthn s i j) : rep l0 s' i = rep l0 s i := by
  unfold rep
  rw [hev]
  exact repF_congr fun j hj => ⟨hw j hj, rfl⟩
theorem ordN_grow (l : List Evt) (e : Evt) (t : Int) : ordN l t l.length ≤ ordN (l ++ [e]) t (l.length + 1) := by
  have := ordN_mono (l ++ [e]) t (show l.length ≤ l.length + 1 by omega)
  rw [ordN_app _ (Nat.le_refl _)] at this
  exact this
theorem SI.work {l0 : List Int} {s : Nt} (hE : EI s) (h : SI l0 s) {a : Nat} (ha : a < s.n) {x : Int} (hx : 1 ≤ x ∧ x ≤ 1000000) (hl : s.evs.length < 400) : SI l0 (workS s a x) := by
  let e : Evt := ⟨a, 1, a, x, clkL s.n (upd (s.clk a) a (s.clk a a + 1))⟩
  have hr := fun i => rep_new (s' := workS s a x) hE h ha (e := e) rfl rfl (fun _ _ => ⟨rfl, rfl⟩) i
  have hok : ∀ i, (s.sh i a).made = false → workE (rep l0 s i).2 (a : Nat) x = 0 := fun i _ => by
    have v := h.vr i
    have hle := v.le
    unfold workE
    rw [v.n, if_pos ⟨by omega, hx⟩, if_neg (by omega)]
  have hlen : (workS s a x).evs.length = s.evs.length + 1 := by show (s.evs ++ [_]).length = _; simp
  refine ⟨h.z, h.mc, fun i t ht hm => ?_, h.hz, h.mo, fun i => ?_, fun i => ?_⟩
  · refine Int.le_trans (h.re i t ht hm) ?_
    rw [hlen]
    exact Int.ofNat_le.2 (ordN_grow s.evs e t)
  · rw [hr]
    cases hm : (s.sh i a).made with
    | true => exact h.ok i
    | false =>
      rw [if_neg (by simp)]
      show ((rep l0 s i).1 && okE (rep l0 s i).2 _) = true
      rw [h.ok i, Bool.true_and]
      exact decide_eq_true (hok i hm)
  · rw [hr]
    have v := h.vr i
    cases hm : (s.sh i a).made with
    | true =>
      rw [if_pos rfl]
      refine ⟨v.n, by rw [hlen]; have := v.le; omega, fun t ht => ?_, v.ch, v.par⟩
      rw [v.pcs t ht]
      show _ = if (s.sh i t).made then (s.sh i t).pcs else upd s.pcs a (s.pcs a + x) t
      by_cases e : t = a
      · subst e; rw [hm, if_pos rfl, if_pos rfl]
      · rw [upd_ne _ _ e]
    | false =>
      rw [if_neg (by simp)]
      have e1 : apE (rep l0 s i).2 e = workS (rep l0 s i).2 a x := by
        show workN (rep l0 s i).2 (a : Nat) x = _
        unfold workN
        rw [if_pos (hok i hm), Int.toNat_natCast]
      show VR (workS s a x) (apE (rep l0 s i).2 e) i
      rw [e1]
      refine ⟨v.n, ?_, fun t ht => ?_, v.ch, v.par⟩
      · rw [hlen]
        show ((rep l0 s i).2.evs ++ [_]).length ≤ _
        have := v.le
        simp
        omega
      · show upd (rep l0 s i).2.pcs a ((rep l0 s i).2.pcs a + x) t = if (s.sh i t).made then (s.sh i t).pcs else upd s.pcs a (s.pcs a + x) t
        by_cases e : t = a
        · subst e
          rw [upd_self, upd_self, hm, v.pcs t ht, hm, if_neg (by simp), if_neg (by simp)]
        · rw [upd_ne _ _ e, upd_ne _ _ e]
          exact v.pcs t ht
end Go.AM
namespace Go.AM
open Go Go.Proofs
theorem isM_par (no : Nat) (q : Int) (c : Nat → Int) : isM no (.par q c) = false := rfl
theorem SI.send {l0 : List Int} {s : Nt} (hE : EI s) (h : SI l0 s) {a b : Nat} (ha : a < s.n) (hb : b < s.n) (hab : a ≠ b) {x : Int} (hx : 1 ≤ x ∧ x ≤ 1000000) (hp : x ≤ s.pcs a) (hl : s.evs.length < 400) : SI l0 (sendS s a b x) := by
  let e : Evt := ⟨a, 2, b, x, clkL s.n (upd (s.clk a) a (s.clk a a + 1))⟩
  obtain ⟨c, hc⟩ : ∃ c, (sendS s a b x).ch = upd2 s.ch a b (s.ch a b ++ [.par x c]) := ⟨_, rfl⟩
  have hr := fun i => rep_new (s' := sendS s a b x) hE h ha (e := e) rfl rfl (fun _ _ => ⟨rfl, rfl⟩) i
  have hchk : chkF s.n (a : Nat) (b : Nat) = 0 := by
    unfold chkF
    rw [if_pos ⟨⟨by omega, by omega⟩, ⟨by omega, by omega⟩, by omega⟩]
  have hok : ∀ i, (s.sh i a).made = false → sendE (rep l0 s i).2 (a : Nat) (b : Nat) x = 0 := fun i hm => by
    have v := h.vr i
    have hle := v.le
    have hpc := v.pcs a ha
    rw [hm, if_neg (by simp)] at hpc
    unfold sendE
    rw [v.n, hchk, if_neg (by omega), if_pos hx, Int.toNat_natCast, if_neg (by omega), if_neg (by omega)]
  have hlen : (sendS s a b x).evs.length = s.evs.length + 1 := by show (s.evs ++ [_]).length = _; simp
  have hcon : ∀ i p q, conC (sendS s a b x) i p q = conC s i p q ++ (if p = a ∧ q = b ∧ (s.sh i a).made = false then [x] else []) ∨ ¬ (p < s.n ∧ q < s.n ∧ p ≠ q) := fun i p q => by
    by_cases hpq : p < s.n ∧ q < s.n ∧ p ≠ q
    · left
      unfold conC
      rw [hc]
      show (if (s.sh i q).made then (s.sh i q).hrd p else []) ++ parP (if (s.sh i p).made then (if !(s.sh i q).made || (s.sh i q).opn p then preM (i + 1) (upd2 s.ch a b (s.ch a b ++ [.par x c]) p q) else []) else upd2 s.ch a b (s.ch a b ++ [.par x c]) p q) = _
      by_cases ee : p = a ∧ q = b
      · obtain ⟨rfl, rfl⟩ := ee
        rw [upd2_self]
        generalize (if (s.sh i q).made then (s.sh i q).hrd p else []) = H
        cases hm : (s.sh i p).made with
        | false =>
          rw [if_neg (by simp), if_neg (by simp), if_pos ⟨rfl, rfl, rfl⟩, parP_app, List.append_assoc]
          rfl
        | true =>
          rw [if_pos rfl, if_pos rfl, if_neg (c := p = p ∧ q = q ∧ true = false) (by simp), List.append_nil]
          have hmc := h.mc i p q hpq.1 hpq.2.1 hpq.2.2
          rw [hm, Bool.true_and] at hmc
          cases hcd : (!(s.sh i q).made || (s.sh i q).opn p) with
          | false => rw [if_neg (by simp), if_neg (by simp)]
          | true =>
            rw [hcd, if_pos rfl] at hmc
            rw [if_pos rfl, if_pos rfl, preM_app _ _ _ (by omega)]
      · rw [upd2_ne _ _ ee, if_neg (c := p = a ∧ q = b ∧ (s.sh i a).made = false) (fun hh => ee ⟨hh.1, hh.2.1⟩), List.append_nil]
    · exact .inr hpq
  refine ⟨h.z, fun i p q hp hq hpq => ?_, fun i t ht hm => ?_, h.hz, h.mo, fun i => ?_, fun i => ?_⟩
  · rw [hc]
    show cntM (i + 1) (upd2 s.ch a b (s.ch a b ++ [.par x c]) p q) = if (s.sh i p).made && (!(s.sh i q).made || (s.sh i q).opn p) then 1 else 0
    rw [← h.mc i p q hp hq hpq]
    by_cases ee : p = a ∧ q = b
    · obtain ⟨rfl, rfl⟩ := ee
      rw [upd2_self, cntM_app, isM_par, if_neg (by simp), Nat.add_zero]
    · rw [upd2_ne _ _ ee]
  · refine Int.le_trans (h.re i t ht hm) ?_
    rw [hlen]
    exact Int.ofNat_le.2 (ordN_grow s.evs e t)
  · rw [hr]
    cases hm : (s.sh i a).made with
    | true => exact h.ok i
    | false =>
      rw [if_neg (by simp)]
      show ((rep l0 s i).1 && okE (rep l0 s i).2 e) = true
      rw [h.ok i, Bool.true_and]
      exact decide_eq_true (hok i hm)
  · rw [hr]
    have v := h.vr i
    cases hm : (s.sh i a).made with
    | true =>
      rw [if_pos rfl]
      refine ⟨v.n, by rw [hlen]; have := v.le; omega, fun t ht => ?_, fun p q hp hq hpq => ?_, v.par⟩
      · rw [v.pcs t ht]
        show _ = if (s.sh i t).made then (s.sh i t).pcs else upd s.pcs a (s.pcs a - x) t
        by_cases e : t = a
        · subst e; rw [hm, if_pos rfl, if_pos rfl]
        · rw [upd_ne _ _ e]
      · rw [v.ch p q hp hq hpq]
        rcases hcon i p q with h1 | h1
        · rw [h1, if_neg (fun hh => by rw [hm] at hh; exact absurd hh.2.2 (by simp)), List.append_nil]
        · exact absurd ⟨hp, hq, hpq⟩ h1
    | false =>
      rw [if_neg (by simp)]
      have e1 : apE (rep l0 s i).2 e = sendS (rep l0 s i).2 a b x := by
        show sendN (rep l0 s i).2 (a : Nat) (b : Nat) x = _
        unfold sendN
        rw [if_pos (hok i hm), Int.toNat_natCast, Int.toNat_natCast]
      show VR (sendS s a b x) (apE (rep l0 s i).2 e) i
      rw [e1]
      obtain ⟨c', hc'⟩ : ∃ c', (sendS (rep l0 s i).2 a b x).ch = upd2 (rep l0 s i).2.ch a b ((rep l0 s i).2.ch a b ++ [.par x c']) := ⟨_, rfl⟩
      refine ⟨v.n, ?_, fun t ht => ?_, fun p q hp hq hpq => ?_, fun p q no hh => ?_⟩
      · rw [hlen]
        show ((rep l0 s i).2.evs ++ [_]).length ≤ _
        have := v.le
        simp
        omega
      · show upd (rep l0 s i).2.pcs a ((rep l0 s i).2.pcs a - x) t = if (s.sh i t).made then (s.sh i t).pcs else upd s.pcs a (s.pcs a - x) t
        by_cases e : t = a
        · subst e
          rw [upd_self, upd_self, hm, v.pcs t ht, hm, if_neg (by simp), if_neg (by simp)]
        · rw [upd_ne _ _ e, upd_ne _ _ e]
          exact v.pcs t ht
      · rw [hc']
        rcases hcon i p q with h1 | h1
        · rw [h1, ← v.ch p q hp hq hpq]
          by_cases ee : p = a ∧ q = b
          · obtain ⟨rfl, rfl⟩ := ee
            rw [upd2_self, if_pos ⟨rfl, rfl, hm⟩, parP_app]
            rfl
          · rw [upd2_ne _ _ ee, if_neg (fun hh => ee ⟨hh.1, hh.2.1⟩), List.append_nil]
        · exact absurd ⟨hp, hq, hpq⟩ h1
      · rw [hc'] at hh
        by_cases ee : p = a ∧ q = b
        · obtain ⟨rfl, rfl⟩ := ee
          rw [upd2_self] at hh
          rcases List.mem_append.1 hh with hh | hh
          · exact v.par _ _ _ hh
          · simp at hh
        · rw [upd2_ne _ _ ee] at hh
          exact v.par _ _ _ hh
end Go.AM
namespace Go.AM
open Go Go.Proofs
theorem isM_mark (no k : Nat) : isM no (.mark k) = decide (k = no) := rfl
theorem SI.record {l0 : List Int} {s : Nt} (hE : EI s) (hK : CK s) (h : SI l0 s) {no at_ : Nat} (h1 : 1 ≤ no) (h2 : no ≤ s.ns) (hat : at_ < s.n) (hm : (s.sh (no - 1) at_).made = false) : SI l0 (recordS s no at_) := by
  obtain ⟨e1, e2, e3, e4, e5⟩ := recordS_n s no at_
  have hsh : ∀ j t, (recordS s no at_).sh j t = if j = no - 1 ∧ t = at_ then recR s (s.sh j t) at_ else s.sh j t := fun j t => recordS_sh s no at_ j t
  have hch : ∀ a b, (recordS s no at_).ch a b = if a = at_ ∧ b < s.n ∧ b ≠ at_ then s.ch a b ++ [.mark no] else s.ch a b := fun a b => recordS_ch s no at_ a b
  obtain ⟨i0, rfl⟩ : ∃ i0, no = i0 + 1 := ⟨no - 1, by omega⟩
  simp only [Nat.add_sub_cancel] at hsh hm
  obtain ⟨R, hR⟩ : ∃ R, R = recordS s (i0 + 1) at_ := ⟨_, rfl⟩
  rw [← hR] at e1 e2 e3 e4 e5 hsh hch ⊢
  have hne : ∀ i t, ¬ (i = i0 ∧ t = at_) → R.sh i t = s.sh i t := fun i t hh => by rw [hsh, if_neg hh]
  have hyes : R.sh i0 at_ = recR s (s.sh i0 at_) at_ := by rw [hsh, if_pos ⟨rfl, rfl⟩]
  have hat1 : ∀ f, (s.sh i0 at_).hrd f = [] ∧ (s.sh i0 at_).opn f = false := fun f => h.hz i0 at_ f hm
  have hoAt : ∀ a, a < s.n → a ≠ at_ → (R.sh i0 at_).opn a = true := fun a ha hn => by
    rw [hyes]
    show (if a < s.n ∧ a ≠ at_ then true else _) = true
    rw [if_pos ⟨ha, hn⟩]
  have hmAt : (R.sh i0 at_).made = true := by rw [hyes]; rfl
  -- who listens to a station that has not recorded
  have hlis : ∀ b, b < s.n → b ≠ at_ → (!(s.sh i0 b).made || (s.sh i0 b).opn at_) = true := fun b hb hn => by
    cases hmb : (s.sh i0 b).made with
    | false => rfl
    | true =>
      cases ho : (s.sh i0 b).opn at_ with
      | true => rfl
      | false =>
        have := h.mo i0 at_ b hat hb (fun e => hn e.symm) hmb ho
        rw [hm] at this
        simp at this
  have hw : ∀ i j, j < s.evs.length → wthn R i j = wthn s i j := fun i j hj => by
    unfold wthn
    rw [e3]
    by_cases e : i = i0 ∧ sN s.evs j = at_
    · obtain ⟨rfl, e⟩ := e
      rw [e, hyes, hm]
      have h5 := (hE.sN hj).1
      have h6 : ordN s.evs (at_ : Nat) (j + 1) = ordN s.evs (at_ : Nat) j + 1 := ordN_succ (by rw [h5, e])
      have h7 := ordN_mono s.evs (at_ : Nat) (show j + 1 ≤ s.evs.length by omega)
      show (!true || decide ((oN s.evs j : Int) < s.clk at_ at_)) = true
      rw [hK.kA at_ hat]
      unfold oN
      rw [h5, e, decide_eq_true (by omega)]
      rfl
    · rw [hne i _ e]
  have hrep : ∀ i, rep l0 R i = rep l0 s i := fun i => rep_same e3 (hw i)
  -- what counts of a channel
  have hcon : ∀ i a b, a < s.n → b < s.n → a ≠ b → conC R i a b = conC s i a b ∧ cntM (i + 1) (R.ch a b) = if (R.sh i a).made && (!(R.sh i b).made || (R.sh i b).opn a) then 1 else 0 := fun i a b ha hb hab => by
    have hmc := h.mc i a b ha hb hab
    by_cases hi : i = i0
    · subst hi
      by_cases ea : a = at_
      · subst ea
        have hba : b ≠ a := fun e => hab e.symm
        have hb' := hne i b (fun hh => hba hh.2)
        rw [hm, Bool.false_and, if_neg (by simp)] at hmc
        have hl := hlis b hb hba
        have hx : R.ch a b = s.ch a b ++ [.mark (i + 1)] := by rw [hch, if_pos ⟨rfl, hb, hba⟩]
        unfold conC
        rw [hb', hmAt, hm, hl, hx, Bool.true_and]
        refine ⟨?_, ?_⟩
        · show _ ++ parP (preM (i + 1) (s.ch a b ++ [.mark (i + 1)])) = _ ++ parP (s.ch a b)
          rw [preM_new _ _ hmc]
        · rw [cntM_app, hmc, isM_mark, decide_eq_true rfl]
          rfl
      · have ha' := hne i a (fun hh => ea hh.2)
        by_cases eb : b = at_
        · subst eb
          have hx : R.ch a b = s.ch a b := by rw [hch, if_neg (fun hh => ea hh.1)]
          unfold conC
          rw [ha', hmAt, hm, hoAt a ha hab, hx]
          rw [hm, Bool.not_false, Bool.true_or, Bool.and_true] at hmc
          refine ⟨?_, ?_⟩
          · have e9 : (R.sh i b).hrd a = [] := by rw [hyes]; exact (hat1 a).1
            rw [e9]
            rfl
          · rw [hmc]
            rw [Bool.or_true, Bool.and_true]
        · have hb' := hne i b (fun hh => eb hh.2)
          have hx : R.ch a b = s.ch a b := by rw [hch, if_neg (fun hh => ea hh.1)]
          unfold conC
          rw [ha', hb', hx]
          exact ⟨rfl, hmc⟩
    · have ha' := hne i a (fun hh => hi hh.1)
      have hb' := hne i b (fun hh => hi hh.1)
      unfold conC
      rw [ha', hb', ← hmc]
      by_cases ea : a = at_ ∧ b < s.n ∧ b ≠ at_
      · have hx : R.ch a b = s.ch a b ++ [.mark (i0 + 1)] := by rw [hch, if_pos ea]
        rw [hx, cntM_app, isM_mark, decide_eq_false (by omega), if_neg (c := false = true) (by simp)]
        refine ⟨?_, rfl⟩
        generalize (if (s.sh i b).made then (s.sh i b).hrd a else []) = K
        congr 1
        cases hma : (s.sh i a).made with
        | false => exact parP_mark _ _
        | true =>
          cases hcd : (!(s.sh i b).made || (s.sh i b).opn a) with
          | false => rfl
          | true =>
            rw [hma, hcd] at hmc
            show parP (preM (i + 1) (s.ch a b ++ [.mark (i0 + 1)])) = parP (preM (i + 1) (s.ch a b))
            rw [preM_app _ _ _ (by rw [hmc]; decide)]
      · have hx : R.ch a b = s.ch a b := by rw [hch, if_neg ea]
        rw [hx]
        exact ⟨rfl, rfl⟩
  refine ⟨fun i t hi => ?_, fun i a b ha hb hab => ?_, fun i t ht hmt => ?_, fun i t f hmt => ?_, fun i a b ha hb hab hmb ho => ?_, fun i => ?_, fun i => ?_⟩
  · rw [hne i t (fun hh => by rw [e2] at hi; omega)]
    exact h.z i t (by rw [← e2]; exact hi)
  · rw [e1] at ha hb
    exact (hcon i a b ha hb hab).2
  · rw [e1] at ht
    rw [e3]
    by_cases e : i = i0 ∧ t = at_
    · obtain ⟨rfl, rfl⟩ := e
      rw [hyes]
      show s.clk t t ≤ _
      rw [hK.kA t hat]
      exact Int.le_refl _
    · rw [hne i t e] at hmt ⊢
      exact h.re i t ht hmt
  · by_cases e : i = i0 ∧ t = at_
    · obtain ⟨rfl, rfl⟩ := e
      rw [hmAt] at hmt
      simp at hmt
    · rw [hne i t e] at hmt ⊢
      exact h.hz i t f hmt
  · rw [e1] at ha hb
    by_cases e : i = i0 ∧ b = at_
    · obtain ⟨rfl, rfl⟩ := e
      rw [hoAt a ha hab] at ho
      simp at ho
    · rw [hne i b e] at hmb ho
      have := h.mo i a b ha hb hab hmb ho
      by_cases e2 : i = i0 ∧ a = at_
      · obtain ⟨rfl, rfl⟩ := e2
        exact hmAt
      · rw [hne i a e2]
        exact this
  · rw [hrep]
    exact h.ok i
  · rw [hrep]
    have v := h.vr i
    refine ⟨v.n.trans e1.symm, by rw [e3]; exact v.le, fun t ht => ?_, fun a b ha hb hab => ?_, v.par⟩
    · rw [e1] at ht
      rw [v.pcs t ht, e4]
      by_cases e : i = i0 ∧ t = at_
      · obtain ⟨rfl, rfl⟩ := e
        rw [hm, hmAt, hyes]
        rfl
      · rw [hne i t e]
    · rw [e1] at ha hb
      rw [v.ch a b ha hb hab, (hcon i a b ha hb hab).1]
theorem SI.start {l0 : List Int} {s : Nt} (hE : EI s) (hK : CK s) (h : SI l0 s) {a : Nat} (ha : a < s.n) : SI l0 (startS s a) := by
  have hz : ∀ i t, (newS s).sh i t = s.sh i t := fun i t => by
    show (if i = s.ns then zeroR else s.sh i t) = _
    split
    · rename_i e
      subst e
      exact (h.z _ t (Nat.le_refl _)).symm
    · rfl
  have hE' : EI (newS s) := hE.same rfl rfl (fun _ _ _ _ _ => rfl)
  have hK' : CK (newS s) := hK.same rfl rfl rfl (fun _ _ _ _ _ => rfl)
  have hc : ∀ i a b, conC (newS s) i a b = conC s i a b := fun i a b => by
    unfold conC
    rw [hz, hz]
    rfl
  have hr : ∀ i, rep l0 (newS s) i = rep l0 s i := fun i => rep_same (s := s) (s' := newS s) rfl (fun j _ => by
    show (!((newS s).sh i (sN s.evs j)).made || decide ((oN s.evs j : Int) < ((newS s).sh i (sN s.evs j)).evs)) = wthn s i j
    rw [hz]
    rfl)
  have h' : SI l0 (newS s) := by
    refine ⟨fun i t hi => ?_, fun i x y hx hy hxy => ?_, fun i t ht hm => ?_, fun i t f hm => ?_, fun i x y hx hy hxy => ?_, fun i => ?_, fun i => ?_⟩
    · rw [hz]; exact h.z i t (by have : s.ns + 1 ≤ i := hi; omega)
    · rw [hz, hz]; exact h.mc i x y hx hy hxy
    · rw [hz] at hm ⊢; exact h.re i t ht hm
    · rw [hz] at hm ⊢; exact h.hz i t f hm
    · rw [hz, hz]; exact h.mo i x y hx hy hxy
    · rw [hr]; exact h.ok i
    · rw [hr]
      have v := h.vr i
      refine ⟨v.n, v.le, fun t ht => ?_, fun x y hx hy hxy => ?_, v.par⟩
      · rw [hz]; exact v.pcs t ht
      · rw [hc]; exact v.ch x y hx hy hxy
  exact h'.record hE' hK' (by omega) (Nat.le_refl _) ha (by
    show (if s.ns + 1 - 1 = s.ns then zeroR else _ : Rc).made = false
    rw [if_pos (by omega)]
    rfl)
end Go.AM
namespace Go.AM
open Go Go.Proofs
def sumI (f : Nat → Int) : Nat → Int
  | 0 => 0
  | n + 1 => sumI f n + f n
def sumL : List Int → Int
  | [] => 0
  | x :: L => x + sumL L
theorem sumL_app : ∀ (L K : List Int), sumL (L ++ K) = sumL L + sumL K
  | [], K => by show sumL K = 0 + sumL K; omega
  | x :: L, K => by
    show x + sumL (L ++ K) = x + sumL L + sumL K
    rw [sumL_app L K]; omega
/-- All pieces of a net. -/
def totN (s : Nt) : Int := sumI (fun a => s.pcs a + sumI (fun b => sumL (parP (s.ch a b))) s.n) s.n
end Go.AM
namespace Go.AM
open Go Go.Proofs
structure DI (s : Nt) : Prop where
  c : ∀ a, s.ch a a = []
  h : ∀ i t, (s.sh i t).hrd t = []
theorem DI.init (l : List Int) : DI (initS l) := ⟨fun _ => rfl, fun _ _ => rfl⟩
theorem DI.send {s : Nt} (h : DI s) {a b : Nat} (hab : a ≠ b) (x : Int) : DI (sendS s a b x) := by
  obtain ⟨c, hc⟩ : ∃ c, (sendS s a b x).ch = upd2 s.ch a b (s.ch a b ++ [.par x c]) := ⟨_, rfl⟩
  refine ⟨fun i => ?_, h.h⟩
  rw [hc, upd2_ne _ _ (by omega)]
  exact h.c i
theorem DI.workN {s : Nt} (h : DI s) (a x : Int) : DI (workN s a x) := by
  unfold Go.AM.workN
  split
  · exact ⟨h.c, h.h⟩
  · exact h
theorem DI.sendN {s : Nt} (h : DI s) (a b x : Int) : DI (sendN s a b x) := by
  unfold Go.AM.sendN
  split
  · rename_i e
    obtain ⟨A, B, e1, e2, h1, h2, h3, _⟩ := sendE_0 e
    rw [e1, e2, Int.toNat_natCast, Int.toNat_natCast]
    exact h.send h3 x
  · exact h
end Go.AM
namespace Go.AM
open Go Go.Proofs
def PosE (s : Nt) : Prop := ∀ i t, 0 ≤ (s.sh i t).evs
theorem PosE.init (l : List Int) : PosE (initS l) := fun _ _ => Int.le_refl _
end Go.AM
namespace Go.AM
open Go Go.Proofs
theorem s86 : slk 86 1 = true := by kernel_rfl
theorem s84 : slk 84 1 = true := by kernel_rfl
theorem a86 : agg1 86 = true := by kernel_rfl
/-- A row of bools. -/
structure BRow (own : Nat → Nat) (t : Nat) (m : M) (r n : Nat) (f : Nat → Bool) : Prop where
  hd : Hd m r 1 true n
  tg : own r = t
  cell : ∀ i, i < n → mcell m r i = some (.bool (f i))
section
variable {own own' : Nat → Nat} {t : Nat} {m m' : M} {r n : Nat} {f g : Nat → Bool}
theorem BRow.step {T : Nat → Prop} (h : BRow own t m r n f) (s : Step T own m own' m') (ht : ¬ T t) : BRow own' t m' r n f :=
  ⟨s.hd h.hd (by rw [h.tg]; exact ht), (s.tg r h.hd.lt).trans h.tg, fun i hi => s.cell (h.cell i hi) (by rw [h.tg]; exact ht)⟩
theorem BRow.get (h : BRow own t m r n f) {j : Nat} (hj : j < n) (K : Value → Res2) : (k1n (mindexAddr E.P 86 (sl r n) (vi j)) fun a => k1n (xload E.P m 4 a) K) = K (.bool (f j)) := by
  rw [gix s86 r 0 n n j hj, k1s, Nat.zero_add, Nat.mul_one, gld1 a4, h.cell j hj, k1s]
end
section
variable {l : List Evt} {v : Value} {own : Nat → Nat} {r : Nat}
/-- The rows that are done. -/
structure CsL (own : Nat → Nat) (m : M) (cs : Value) (l : List Evt) (R : Nat → Nat) (n : Nat) : Prop where
  vec : Vec own 50 1 m cs n fun i => [sl (R i) l.length]
  row : ∀ i, i < n → BRow own (60 + i) m (R i) l.length (hb l i)
theorem CsL.step {own' : Nat → Nat} {m m' : M} {T : Nat → Prop} {cs : Value} {R : Nat → Nat} {n : Nat} (h : CsL own m cs l R n) (s : Step T own m own' m') (hT : ∀ t, T t → ¬ (t = 50 ∨ (60 ≤ t ∧ t < 60 + n))) : CsL own' m' cs l R n :=
  ⟨h.vec.step s (fun a => hT _ a (by omega)), fun i hi => (h.row i hi).step s (fun a => hT _ a (by omega))⟩
theorem CsL.get {m : M} {cs : Value} {R : Nat → Nat} {n : Nat} (h : CsL own m cs l R n) {i j : Nat} (hi : i < n) (hj : j < l.length) (K : Value → Res2) : (k1n (mindexAddr E.P 84 cs (vi i)) fun a => k1n (xload E.P m 86 a) fun w => k1n (mindexAddr E.P 86 w (vi j)) fun a => k1n (xload E.P m 4 a) K) = K (.bool (hb l i j)) := by
  obtain ⟨p, off, e, _, _, hc⟩ := h.vec.lst.ix s84 hi
  rw [e, k1s, gld1 a86, hc.cell, k1s, (h.row i hi).get hj]
end
end Go.AM
namespace Go.AM
open Go Go.Proofs
theorem wr_mod (x : Int) : ∃ k : Int, wr x = x + 18446744073709551616 * k := by
  unfold wr IntKind.wrap
  simp [IntKind.bits, IntKind.signed]
  have h := Int.emod_add_mul_ediv (x + 9223372036854775808) 18446744073709551616
  exact ⟨-((x + 9223372036854775808) / 18446744073709551616), by omega⟩
theorem wr_eq {x y k : Int} (h : x = y + 18446744073709551616 * k) : wr x = wr y := by
  unfold wr IntKind.wrap
  simp [IntKind.bits, IntKind.signed]
  omega
theorem wr_addl (x y : Int) : wr (wr x + y) = wr (x + y) := by
  obtain ⟨k, hk⟩ := wr_mod x
  exact wr_eq (k := k) (by omega)
theorem wr_addr (x y : Int) : wr (x + wr y) = wr (x + y) := by
  obtain ⟨k, hk⟩ := wr_mod y
  exact wr_eq (k := k) (by omega)
theorem wr0 : (.int .i64 0 : Value) = vi (wr 0) := by rw [wr_id (by omega) (by omega)]; rfl
section
variable {own : Nat → Nat} {m : M}
theorem loop104 (call : CallF) (fuel base : Nat) (kx : Value → M → Res2) {t : Nat} {v : Value} {L : List Ms} (hb : base ≤ m.length) (hl : L.length ≤ 100000) :
    ∀ (n i : Nat) (m' : M), (∃ x, m' = m ++ x) → Lst own t 1 m v L.length (msL L) → i ≤ L.length → L.length + 1 ≤ n + i → ∃ m'', r104_L0 call fuel base kx n (vi (wr (sumL (parP (L.take i))))) v (vi L.length) (vi i) m' = kx (vi (wr (sumL (parP L)))) m''
  | 0, i, m', hx, hv, hi, hn => by omega
  | n + 1, i, m', hx, hv, hi, hn => by
    rw [r104_L0_s, lssN, k1s]
    by_cases h : i < L.length
    · obtain ⟨x, rfl⟩ := hx
      have hvx := hv.push x
      obtain ⟨pp, off, e, _, _, hc⟩ := hvx.ix s103 h
      have hd : msAt L i = L[i] := by unfold msAt; simp [h]
      have hc1 := hc.cell
      rw [hd] at hc1
      have htk : L.take (i + 1) = L.take i ++ [L[i]] := List.take_succ_eq_append_getElem h
      have hst : ∀ q c, xstore E.P base (m ++ x ++ [cellR (stC 0 fun _ => 0)]) 117 (pt (m ++ x).length 0) (parV q c) = some (m ++ x ++ [cellR (stC q c)]) := fun q c => by
        have := gstk (t := 117) (k := 6) z117 (l := stC q c) rfl rfl (off := 0) (base := base) (p := (m ++ x).length) (by simp; omega) (Hd_new (m ++ x) 0 true (stC 0 fun _ => 0)) (by simp [stC])
        rw [mwr_new (m ++ x) 0 true (stC 0 fun _ => 0) (stC q c) rfl] at this
        exact this
      rw [decide_eq_true h, kbt, e, k1s, gld1 a106, hc1, k1s]
      cases hL : L[i] with
      | par q c =>
        obtain ⟨m'', g⟩ := loop104 call fuel base kx hb hl n (i + 1) (m ++ x ++ [cellR (stC q c)]) ⟨x ++ [cellR (stC q c)], by simp⟩ hv (by omega) (by omega)
        refine ⟨m'', ?_⟩
        have hpar : sumL (parP (L.take (i + 1))) = sumL (parP (L.take i)) + q := by
          rw [htk, hL, parP_app, sumL_app]
          show _ + (q + 0) = _
          omega
        rw [hpar] at g
        rw [ta1, k1s, ext0, k1s, ext1, k1s, al117, k2s, hst, kss, kbt, gfd f117_0, k1s, gld1 a3, (Cs_new (m ++ x) 0 true (stC q c)).at 0 rfl, k1s, addI, k1s, wr_addl, add1 3 _ (by omega), k1s]
        exact g
      | mark no =>
        obtain ⟨m'', g⟩ := loop104 call fuel base kx hb hl n (i + 1) (m ++ x ++ [cellR (stC 0 fun _ => 0)]) ⟨x ++ [cellR (stC 0 fun _ => 0)], by simp⟩ hv (by omega) (by omega)
        refine ⟨m'', ?_⟩
        rw [htk, hL, parP_mark] at g
        rw [ta2, k1s, ext0, k1s, ext1, k1s, al117, k2s, hst, kss, kbf, add1 3 _ (by omega), k1s]
        exact g
    · obtain rfl : i = L.length := by omega
      refine ⟨m', ?_⟩
      rw [decide_eq_false h, kbf, List.take_length]
theorem t104 (k base : Nat) {t : Nat} {v : Value} {L : List Ms} (hv : Lst own t 1 m v L.length (msL L)) (hl : L.length < k) (hl2 : L.length ≤ 100000) : rt (k + 1) base 104 [v] m = some (.ret (vi (wr (sumL (parP L)))), m) := by
  obtain ⟨m'', g⟩ := loop104 (base := m.length) (rt k) k (fun y3_14 m => some (.ret y3_14, m)) (Nat.le_refl _) hl2 k 0 m ⟨[], by simp⟩ hv (by omega) (by omega)
  refine rt_pure (f := 104) (rf := rf104) (by kernel_rfl) (by kernel_rfl) (by kernel_rfl) k base _ m m'' _ ?_ rfl
  show r104 (rt k) k m.length v m = _
  unfold r104
  rw [vcall_fun, fVal_fun, hv.len i103, k2s, wr0]
  exact g
end
end Go.AM
namespace Go.AM
open Go Go.Proofs
section
variable {own : Nat → Nat} {k : Nat} {m : M} {p : Nat} {d : NP} {s : Nt}
theorem loop76b (z base : Nat) (kp : Value → M → Res2) (kx : Value → Value → Value → Value → Value → M → Res2) (x0 x11 x12 x13 : Value) (h : Net own k m p d s) (hcl : ∀ a b, (s.ch a b).length ≤ 1000) {a : Nat} (ha : a < s.n) (A : Int) :
    ∀ (w b : Nat), b ≤ s.n → s.n + 1 ≤ w + b → r76_L2 (rt (z + 1001 + 1)) (z + 1001 + 1) base kp kx w x0 (vi (wr (A + sumI (fun b => sumL (parP (s.ch a b))) b))) x11 x12 x13 (sl (d.ri a) s.n) (vi s.n) (vi b) m = kx x0 (vi (wr (A + sumI (fun b => sumL (parP (s.ch a b))) s.n))) x11 x12 x13 m
  | 0, b, hb, hw => by omega
  | w + 1, b, hb, hw => by
    have n5 := h.n5
    rw [r76_L2_s, lssN, k1s]
    by_cases hlt : b < s.n
    · rw [decide_eq_true hlt, kbt, gix s104 (d.ri a) 0 s.n s.n b hlt, k1s, gld1 a103, Nat.zero_add, Nat.mul_one, h.C.icell a b ha hlt, k1s, t104 (z + 1001) base (h.C.vec a b ha hlt).lst (by have := hcl a b; omega) (by have := hcl a b; omega), kcs, addI, k1s, add1 3 _ (by omega), k1s]
      have ih := loop76b z base kp kx x0 x11 x12 x13 h hcl ha A w (b + 1) (by omega) (by omega)
      have e : A + sumI (fun b => sumL (parP (s.ch a b))) (b + 1) = A + sumI (fun b => sumL (parP (s.ch a b))) b + sumL (parP (s.ch a b)) := by
        show A + (sumI (fun b => sumL (parP (s.ch a b))) b + sumL (parP (s.ch a b))) = _
        omega
      rw [wr_addl, wr_addr, ← e]
      exact ih
    · obtain rfl : b = s.n := by omega
      rw [decide_eq_false hlt, kbf]
theorem loop76a (z base : Nat) (kp kx : Value → M → Res2) (hcl : ∀ a b, (s.ch a b).length ≤ 1000) :
    ∀ (w a : Nat) (m : M), base ≤ m.length → Net own k m p d s → a ≤ s.n → s.n + 1 ≤ w + a → ∃ m', r76_L0 (rt (z + 1001 + 1)) (z + 1001 + 1) base kp kx w (pt p 0) (vi (wr (sumI (fun a => s.pcs a + sumI (fun b => sumL (parP (s.ch a b))) s.n) a))) (sl d.rs s.n) (vi s.n) (vi a) m = kx (vi (wr (totN s))) m'
  | 0, a, m, hbm, h, ha, hw => by omega
  | w + 1, a, m, hbm, h, ha, hw => by
    have n5 := h.n5
    rw [r76_L0_s, lssN, k1s]
    by_cases hlt : a < s.n
    · have hcs := h.S.cs a hlt
      let m1 : M := m ++ [cellR (stC (s.pcs a) (s.clk a))]
      have h1 : Net own k m1 p d s := h.step (Step.push0 (fun _ => False) own m [cellR (stC (s.pcs a) (s.clk a))]) (fun _ h => h.elim)
      have hst : xstore E.P base (m ++ [cellR (stC 0 fun _ => 0)]) 114 (pt m.length 0) (parV (s.pcs a) (s.clk a)) = some m1 := by
        have := gstk (t := 114) (k := 6) z114 (l := stC (s.pcs a) (s.clk a)) rfl rfl (off := 0) hbm (Hd_new m 0 true (stC 0 fun _ => 0)) (by simp [stC])
        rw [mwr_new m 0 true (stC 0 fun _ => 0) (stC (s.pcs a) (s.clk a)) rfl] at this
        exact this
      have e : sumI (fun a => s.pcs a + sumI (fun b => sumL (parP (s.ch a b))) s.n) (a + 1) = sumI (fun a => s.pcs a + sumI (fun b => sumL (parP (s.ch a b))) s.n) a + s.pcs a + sumI (fun b => sumL (parP (s.ch a b))) s.n := by
        show sumI (fun a => s.pcs a + sumI (fun b => sumL (parP (s.ch a b))) s.n) a + (s.pcs a + sumI (fun b => sumL (parP (s.ch a b))) s.n) = _
        omega
      have hb := loop76b z base kp (fun y0_24 y3_25 y11_26 y12_27 y13_28 m => (k1n (mbin E .add 3 y13_28 (.int .i64 1)) fun v39_29 => (r76_L0 (rt (z + 1001 + 1)) (z + 1001 + 1) base kp kx w y0_24 y3_25 y11_26 y12_27 v39_29 m))) (pt p 0) (sl d.rs s.n) (vi s.n) (vi a) h1 hcl hlt (sumI (fun a => s.pcs a + sumI (fun b => sumL (parP (s.ch a b))) s.n) a + s.pcs a) (z + 1001 + 1) 0 (by omega) (by omega)
      obtain ⟨m', g⟩ := loop76a z base kp kx hcl w (a + 1) m1 (by simp [m1]; omega) h1 (by omega) (by omega)
      refine ⟨m', ?_⟩
      rw [e] at g
      rw [decide_eq_true hlt, kbt, gix s53 d.rs 0 s.n s.n a hlt, k1s, Nat.zero_add, mread_agg6 hcs, k1s, al114, k2s, hst, kss, gfd f114_0, k1s, gld1 a3, (Cs_new m 0 true (stC (s.pcs a) (s.clk a))).at 0 rfl, k1s, addI, k1s, wr_addl, mnil_pt, k1s, h1.H.chs, gix s54 d.rc 0 s.n s.n a hlt, k1s, Nat.zero_add, Nat.mul_one, gld1 a104, h1.C.cell a hlt, k1s, glen i104, k2s, i0]
      have h0 : sumI (fun b => sumL (parP (s.ch a b))) 0 = 0 := rfl
      rw [h0, Int.add_zero] at hb
      refine Eq.trans hb ?_
      rw [add1 3 _ (by omega), k1s]
      exact g
    · obtain rfl : a = s.n := by omega
      refine ⟨m, ?_⟩
      rw [decide_eq_false hlt, kbf]
      rfl
theorem t28 (z base : Nat) (h : Net own k m p d s) (hcl : ∀ a b, (s.ch a b).length ≤ 1000) : rt (z + 1001 + 3) base 28 [pt p 0] m = some (.ret (vi (wr (totN s))), m) := by
  refine rt_pure (f := 28) (rf := rf28) (by kernel_rfl) (by kernel_rfl) (by kernel_rfl) (z + 1001 + 2) base _ m m _ ?_ rfl
  show r28 (rt (z + 1001 + 2)) (z + 1001 + 2) m.length (pt p 0) m = _
  have h76 : rt (z + 1001 + 2) m.length 76 [pt p 0] m = some (.ret (vi (wr (totN s))), m) := by
    obtain ⟨m', g⟩ := loop76a z m.length (fun v m => some (.pan v, m)) (fun y3_30 m => some (.ret y3_30, m)) hcl (z + 1001 + 1) 0 m (Nat.le_refl _) h (by omega) (by have := h.n5; omega)
    refine rt_pure (f := 76) (rf := rf76) (by kernel_rfl) (by kernel_rfl) (by kernel_rfl) (z + 1001 + 1) base _ m m' _ ?_ rfl
    show r76 (rt (z + 1001 + 1)) (z + 1001 + 1) m.length (pt p 0) m = _
    unfold r76
    have h0 : sumI (fun a => s.pcs a + sumI (fun b => sumL (parP (s.ch a b))) s.n) 0 = 0 := rfl
    rw [h0, ← wr0] at g
    rw [k1_fun, vcall_fun, fVal_fun, mnil_pt, k1s, h.H.sts, glen i53, k2s]
    exact g
  unfold r28
  rw [fVal_fun, t68 (z + 1001 + 1) _ h.H h.n2, kcs, kbf, h76, kcs]
end
section
variable {own : Nat → Nat} {l : List Evt} {v : Value}
end
end Go.AM
namespace Go.AM
open Go Go.Proofs
section
variable {own : Nat → Nat} {k : Nat} {m : M} {p : Nat} {d : NP} {s : Nt} {base : Nat}
/-- A row of lists of numbers. -/
structure RowU (own : Nat → Nat) (tg : Nat) (m : M) (r n j : Nat) (H : Nat → List Int) : Prop where
  hd : Hd m r 1 true n
  tg : own r = tg
  cell : ∀ t, t < j → ∃ w, mcell m r t = some w ∧ Nums own 0 m w (H t)
theorem RowU.step {own' : Nat → Nat} {m' : M} {T : Nat → Prop} {tg r n j : Nat} {H : Nat → List Int} (h : RowU own tg m r n j H) (st : Step T own m own' m') (ht : ¬ T tg) (h0 : ¬ T 0) : RowU own' tg m' r n j H :=
  ⟨st.hd h.hd (by rw [h.tg]; exact ht), (st.tg r h.hd.lt).trans h.tg, fun t hj => by
    obtain ⟨w, h1, h2⟩ := h.cell t hj
    exact ⟨w, st.cell h1 (by rw [h.tg]; exact ht), Lst.step h2 st h0⟩⟩
/-- A snapshot that is being shown. -/
structure ShotB (own : Nat → Nat) (m : M) (b3 : Nat) (P U : Value) (n j : Nat) (R : Nat → Nat) (pc : Nat → Int) (hr : Nat → Nat → List Int) : Prop where
  hd : Hd m b3 0 true 2
  tg : own b3 = 310
  c0 : mcell m b3 0 = some P
  c1 : mcell m b3 1 = some U
  vp : Vec own 300 1 m P j fun i => [vi (pc i)]
  vu : Vec own 301 1 m U j fun i => [sl (R i) n]
  rows : ∀ i, i < j → RowU own (302 + i) m (R i) n n (hr i)
end
end Go.AM
namespace Go.AM
open Go Go.Proofs
structure Shot (own : Nat → Nat) (m : M) (P U : Value) (n : Nat) (R : Nat → Nat) (pc : Nat → Int) (hr : Nat → Nat → List Int) : Prop where
  p : Lst own 300 1 m P n fun i => [vi (pc i)]
  u : Lst own 301 1 m U n fun i => [sl (R i) n]
  rows : ∀ i, i < n → RowU own (302 + i) m (R i) n n (hr i)
theorem Shot.step {own own' : Nat → Nat} {m m' : M} {T : Nat → Prop} {P U : Value} {n : Nat} {R : Nat → Nat} {pc : Nat → Int} {hr : Nat → Nat → List Int} (h : Shot own m P U n R pc hr) (h5 : n ≤ 5) (st : Step T own m own' m') (hT : ∀ t, T t → t ≠ 0 ∧ (t < 300 ∨ 307 ≤ t)) : Shot own' m' P U n R pc hr :=
  ⟨Lst.step h.p st (fun a => by have := hT _ a; omega), Lst.step h.u st (fun a => by have := hT _ a; omega), fun i hi => (h.rows i hi).step st (fun a => by have := hT _ a; omega) (fun a => by have := hT _ a; omega)⟩
section
variable {own : Nat → Nat} {k : Nat} {m : M} {p : Nat} {d : NP} {s : Nt} {base : Nat}
end
end Go.AM
namespace Go.AM
open Go Go.Proofs
theorem kv130 (call : CallF) (base : Nat) (q : Int) (c : Nat → Int) (m : M) : kv call base (imeth 0 (msV (.par q c))) [] m = call base 130 [parV q c] m := by kernel_rfl
theorem t130 (n base : Nat) (q : Int) (c : Nat → Int) (m : M) : rt (n + 1) base 130 [parV q c] m = some (.ret (vi q), m) := by
  refine rt_pure (f := 130) (rf := rf130) (by kernel_rfl) (by kernel_rfl) (by kernel_rfl) n base _ m (m ++ [cellR (stC q c)]) _ ?_ rfl
  show r130 (rt n) n m.length (parV q c) m = _
  unfold r130
  have e : xbox m (parV q c) = some (pt m.length 0, m ++ [cellR (stC q c)]) := by
    have e : xbox m (parV q c) = xlen m fun k => xpush m (cellR (stC q c)) fun m' => some (pt k 0, m') := by kernel_rfl
    rw [e, xlen_eq, fNat_eq, xpush_eq, fList_eq]
  rw [k1_fun, fVal_fun, e, k2s, gfd f117_0, k1s, gld1 a3, (Cs_new m 0 true (stC q c)).at 0 rfl, k1s]
end Go.AM
namespace Go.AM
open Go Go.Proofs
theorem r5_L0_s (call : CallF) (fuel base : Nat) (kp : Value → M → Res2) (kr : Value → M → Res2) (kx0 : Value → Value → M → Res2) (n : Nat) (x0 x3 x5 : Value) (m : M) : r5_L0 call fuel base kp kr kx0 (n + 1) x0 x3 x5 m =
    (k1n (mbin E .lss 3 x5 (.int .i64 400)) fun v30_9 => (kb v30_9 (k1n (mbin E .rem 3 x5 (.int .i64 2)) fun v35_10 => (k1n (mconvert E.P 5 3 x0) fun v37_11 => (k1n (mbin E .add 3 (.int .i64 1) v37_11) fun v38_12 => (kc (call base 24 [x3, v35_10, v38_12] m) (fun v39_13 m => (k1n (mbin E .neq 26 v39_13 (.int .i64 0)) fun v40_14 => (kb v40_14 (kr (.bool false) m) (k1n (mbin E .add 3 x5 (.int .i64 1)) fun v32_15 => (r5_L0 call fuel base kp kr kx0 n x0 x3 v32_15 m))))) (fun v m => kp v m))))) (kx0 x0 x3 m))) := by
  unfold r5_L0
  rw [k1_fun]
theorem r5_L2_s (call : CallF) (fuel base : Nat) (kp : Value → M → Res2) (kr : Value → M → Res2) (kx2 : Value → Value → M → Res2) (n : Nat) (x0 x3 x6 : Value) (m : M) : r5_L2 call fuel base kp kr kx2 (n + 1) x0 x3 x6 m =
    (k1n (mbin E .leq 3 x6 (.int .i64 8)) fun v61_28 => (kb v61_28 (kc (call base 27 [x3, (.int .i64 1)] m) (fun v66_29 m => (k1n (mextract 0 v66_29) fun v67_30 => (k1n (mextract 1 v66_29) fun v68_31 => (k1n (mbin E .neq 26 v68_31 (.int .i64 0)) fun v70_32 => (kb v70_32 (kr (.bool false) m) (k1n (mbin E .neq 3 v67_30 x6) fun v74_33 => (kb v74_33 (kr (.bool false) m) (kc (call base 25 [x3, (.int .i64 1), (.int .i64 0)] m) (fun v78_34 m => (k1n (mbin E .neq 26 v78_34 (.int .i64 0)) fun v79_35 => (kb v79_35 (kr (.bool false) m) (k1n (mbin E .add 3 x6 (.int .i64 1)) fun v63_36 => (r5_L2 call fuel base kp kr kx2 n x0 x3 v63_36 m))))) (fun v m => kp v m))))))))) (fun v m => kp v m)) (kx2 x0 x3 m))) := by
  unfold r5_L2
  rw [k1_fun]
def shw : Ms → Int
  | .par q _ => q
  | .mark k => -(k : Int)
theorem f120_0' : fdk 120 0 0 = true := by kernel_rfl
theorem kv131 (call : CallF) (base : Nat) (no : Nat) (m : M) : kv call base (imeth 0 (msV (.mark no))) [] m = call base 131 [.agg #[vi no]] m := by kernel_rfl
theorem t131 (n base : Nat) (no : Nat) (hno : no ≤ 1000) (m : M) : rt (n + 1) base 131 [.agg #[vi no]] m = some (.ret (vi (-(no : Int))), m) := by
  refine rt_pure (f := 131) (rf := rf131) (by kernel_rfl) (by kernel_rfl) (by kernel_rfl) n base _ m (m ++ [cellR [vi no]]) _ ?_ rfl
  show r131 (rt n) n m.length (.agg #[vi no]) m = _
  unfold r131
  have e : mun .neg (vi (no : Int)) = some (vi (wr (0 - (no : Int)))) := rfl
  rw [k1_fun, fVal_fun, bx120, k2s, gfd f120_0', k1s, gld1 a3, (Cs_new m 0 true [vi no]).at 0 rfl, k1s, e, k1s, wr_id (by omega) (by omega), Int.zero_sub]
section
variable {own : Nat → Nat} {m : M} {base : Nat} {k : Nat} {p : Nat} {d : NP} {s : Nt}
theorem loop20g (z : Nat) (kp : Value → M → Res2) (kx : Value → M → Res2) {t : Nat} {v : Value} {L : List Ms} (hmk : ∀ no, Ms.mark no ∈ L → no ≤ 1000) (hl : L.length ≤ 1000) (ht : t ≠ 47) :
    ∀ (w i : Nat) (own : Nat → Nat) (m : M) (x : Value), i ≤ L.length → L.length + 1 ≤ w + i → Own base own → base ≤ m.length → Lst own t 1 m v L.length (msL L) → Vec own 47 1 m x i (fun j => [vi (nth (L.map shw) j)]) →
      ∃ own' m' x', r20_L0 (rt (z + 1)) (z + 1) base kp kx w x v (vi L.length) (vi i) m = kx x' m' ∧ Own base own' ∧ Step (· = 47) own m own' m' ∧ Vec own' 47 1 m' x' L.length (fun j => [vi (nth (L.map shw) j)])
  | 0, i, own, m, x, hi, hw, hO, hbm, hv, hx => by omega
  | w + 1, i, own, m, x, hi, hw, hO, hbm, hv, hx => by
    rw [r20_L0_s, lssN, k1s]
    by_cases h : i < L.length
    · obtain ⟨pp, off, e, _, _, hc⟩ := hv.ix s103 h
      have hd : msAt L i = L[i] := by unfold msAt; simp [h]
      have hc1 := hc.cell
      rw [hd] at hc1
      have hq : nth (L.map shw) i = shw L[i] := by
        unfold nth
        rw [List.getElem?_map, List.getElem?_eq_getElem h]
        rfl
      let m1 : M := m ++ [rowz 1 true [vi (shw L[i])]]
      let own1 := upd own m.length 0
      have s1 : ∀ T : Nat → Prop, Step T own m own1 m1 := fun T => Step.push T _ _ _ _
      have hO1 : Own base own1 := hO.upd hbm 0
      have hm1 : m1.length = m.length + 1 := by simp [m1]
      obtain ⟨m2, p1, p2, s2, hm2⟩ := (hx.step (s1 fun _ => False) (fun h => h)).add hO1 (by omega) (by omega) (src1 (m := m) (z := 1) (c := [vi (shw L[i])]) rfl (by omega)) rfl rfl (by omega)
      have s12 : Step (· = 47) own m (upd own1 m1.length 47) m2 := (s1 _).trans s2
      have hO2 : Own base (upd own1 m1.length 47) := hO1.upd (by omega) 47
      obtain ⟨own', m', x', g1, g2, g3, g4⟩ := loop20g z kp kx hmk hl ht w (i + 1) _ m2 _ (by omega) (by omega) hO2 (by omega) (Lst.step hv s12 ht) (p2 (fun j => [vi (nth (L.map shw) j)]) (fun _ _ => rfl) (by rw [hq]))
      refine ⟨own', m', x', ?_, g2, s12.trans g3, g4⟩
      have hcall : kv (rt (z + 1)) base (imeth 0 (msV L[i])) [] m = some (.ret (vi (shw L[i])), m) := by
        cases hL : L[i] with
        | par q c => rw [kv130, t130]; rfl
        | mark no => rw [kv131, t131 _ _ _ (hmk no (by rw [← hL]; exact List.getElem_mem _))]; rfl
      rw [decide_eq_true h, kbt, e, k1s, gld1 a106, hc1, k1s, hcall, kcs, gb22, k2s, vapp p22, p1, k2s, add1 3 _ (by omega), k1s]
      exact g1
    · obtain rfl : i = L.length := by omega
      refine ⟨own, m, x, ?_, hO, Step.refl _ _ _, hx⟩
      rw [decide_eq_false h, kbf]
/-- What waits in a channel. -/
theorem t20g (z : Nat) (hz : 1001 ≤ z) (hO : Own base own) (hbm : base ≤ m.length) (h : Net own k m p d s) {a b : Nat} (ha : a < s.n) (hb : b < s.n) (hab : a ≠ b) (hcl : (s.ch a b).length ≤ 1000) (hmk : ∀ no, Ms.mark no ∈ s.ch a b → no ≤ 1000) :
    ∃ own' m' v, rt (z + 2) base 20 [pt p 0, vi a, vi b] m = some (.ret (.tuple #[v, vi 0]), m') ∧ Own base own' ∧ Step (· = 47) own m own' m' ∧ Nums own' 47 m' v ((s.ch a b).map shw) := by
  have n5 := h.n5
  have k0 := h.k0
  rw [rt_imp (f := 20) (rf := rf20) (by kernel_rfl) (by kernel_rfl) (by kernel_rfl)]
  show ∃ own' m' v, r20 (rt (z + 1)) (z + 1) base (pt p 0) (vi a) (vi b) m = _ ∧ _
  unfold r20
  obtain ⟨z', rfl⟩ : ∃ z', z = z' + 1 := ⟨z - 1, by omega⟩
  have hc : chkF s.n (a : Nat) (b : Nat) = 0 := by
    unfold chkF
    rw [if_pos ⟨⟨by omega, by omega⟩, ⟨by omega, by omega⟩, by omega⟩]
  have hv := (h.C.vec a b ha hb).lst
  obtain ⟨own', m', x', g1, g2, g3, g4⟩ := loop20g (base := base) (z' + 1) (fun v m => some (.pan v, m)) (fun y9_18 m => some (.ret (.tuple #[y9_18, vi 0]), m)) hmk hcl (show k + 10 + 5 * a + b ≠ 47 by omega) (z' + 2) 0 own m nilS (by omega) (by omega) hO hbm hv (.inl ⟨rfl, rfl⟩)
  refine ⟨own', m', x', ?_, g2, g3, ?_⟩
  · rw [k1_fun, vcall_fun, t59 z' _ h.H h.n2, kcs, neqE, k1s, hc, decide_eq_true rfl, Bool.not_true, kbf, mnil_pt, k1s, h.H.chs, gix s54 d.rc 0 s.n s.n a ha, k1s, Nat.zero_add, Nat.mul_one, gld1 a104, h.C.cell a ha, k1s, gix s104 (d.ri a) 0 s.n s.n b hb, k1s, Nat.zero_add, Nat.mul_one, gld1 a103, h.C.icell a b ha hb, k1s, hv.len i103, k2s, i0]
    exact g1
  · have := g4.lst
    unfold Nums
    rw [List.length_map]
    exact this
end
end Go.AM
namespace Go.AM
open Go Go.Proofs
def marks (j : Nat) : List Ms := (List.range j).map fun q => .mark (q + 1)
theorem marks_succ (j : Nat) : marks (j + 1) = marks j ++ [.mark (j + 1)] := by
  unfold marks
  rw [List.range_succ, List.map_append]
  rfl
theorem parP_marks : ∀ j, parP (marks j) = []
  | 0 => rfl
  | j + 1 => by rw [marks_succ, parP_mark, parP_marks j]
/-- After i events and j snapshots. -/
structure LI (s : Nt) (x : Int) (i j : Nat) : Prop where
  I : NInv s
  n : s.n = 2
  ns : s.ns = j
  len : s.evs.length = i
  pcs : s.pcs 0 + s.pcs 1 = 2 + ((i : Int) - 1) * (1 + x) + (1 - 1)
  p0 : 1 ≤ s.pcs 0
  ch01 : ∃ c, s.ch 0 1 = .par 1 c :: marks j
  ch10 : s.ch 1 0 = []
  ch00 : s.ch 0 0 = []
  ch11 : s.ch 1 1 = []
  clk : ∀ i, i < s.evs.length → (evt s.evs i).clk.length = s.n
theorem LI.tot {s : Nt} {x : Int} {i j : Nat} (h : LI s x i j) : totN s = 3 + ((i : Int) - 1) * (1 + x) := by
  obtain ⟨c, hc⟩ := h.ch01
  have hp := h.pcs
  unfold totN
  rw [h.n]
  show 0 + (s.pcs 0 + (0 + sumL (parP (s.ch 0 0)) + sumL (parP (s.ch 0 1)))) + (s.pcs 1 + (0 + sumL (parP (s.ch 1 0)) + sumL (parP (s.ch 1 1)))) = _
  rw [h.ch00, h.ch10, h.ch11, hc]
  have e : sumL (parP (Ms.par 1 c :: marks j)) = 1 := by
    show 1 + sumL (parP (marks j)) = 1
    rw [parP_marks]
    rfl
  have e0 : sumL (parP []) = 0 := rfl
  rw [e, e0]
  omega
theorem new30 : newOk [3, 0] = true := by decide
theorem LI.first (x : Int) : sendE (initS [3, 0]) 0 1 1 = 0 ∧ LI (sendN (initS [3, 0]) 0 1 1) x 1 0 := by
  have hE : sendE (initS [3, 0]) 0 1 1 = 0 := by decide
  have e : sendN (initS [3, 0]) 0 1 1 = sendS (initS [3, 0]) 0 1 1 := by
    unfold sendN
    rw [if_pos hE]
    rfl
  refine ⟨hE, (NInv.init new30).sendN _ _ _, ?_, ?_, ?_, ?_, ?_, ?_, ?_, ?_, ?_, ?_⟩
  · rw [e]; rfl
  · rw [e]; rfl
  · rw [e]; rfl
  · rw [e]
    show (upd (nth [3, 0]) 0 (nth [3, 0] 0 - 1)) 0 + (upd (nth [3, 0]) 0 (nth [3, 0] 0 - 1)) 1 = _
    rw [upd_self, upd_ne _ _ (by omega)]
    show (3 - 1 : Int) + 0 = _
    have : ((1 : Nat) : Int) - 1 = 0 := by omega
    rw [this, Int.zero_mul]
    rfl
  · rw [e]
    show 1 ≤ (upd (nth [3, 0]) 0 (nth [3, 0] 0 - 1)) 0
    rw [upd_self]
    show (1 : Int) ≤ 3 - 1
    omega
  · rw [e]; exact ⟨_, rfl⟩
  · rw [e]; rfl
  · rw [e]; rfl
  · rw [e]; rfl
  · rw [e]
    intro i hi
    have : i = 0 := by
      have hi : i < 1 := hi
      omega
    subst this
    rfl
theorem LI.work {s : Nt} {x : Int} {i : Nat} (h : LI s x i 0) (h400 : i < 400) (hx : 0 ≤ x ∧ x < 256) {a : Nat} (ha : a < 2) : workE s a (1 + x) = 0 ∧ LI (workN s a (1 + x)) x (i + 1) 0 := by
  have hE : workE s a (1 + x) = 0 := by
    unfold workE
    rw [if_pos ⟨by rw [h.n]; omega, by omega⟩, if_neg (by rw [h.len]; omega)]
  have e : workN s a (1 + x) = workS s a (1 + x) := by
    unfold workN
    rw [if_pos hE, Int.toNat_natCast]
  refine ⟨hE, h.I.workN _ _, ?_, ?_, ?_, ?_, ?_, ?_, ?_, ?_, ?_, ?_⟩
  · rw [e]; exact h.n
  · rw [e]; exact h.ns
  · rw [e]
    show (s.evs ++ [_]).length = _
    simp [h.len]
  · rw [e]
    show upd s.pcs a (s.pcs a + (1 + x)) 0 + upd s.pcs a (s.pcs a + (1 + x)) 1 = _
    have hp := h.pcs
    have em : (((i + 1 : Nat) : Int) - 1) * (1 + x) = ((i : Int) - 1) * (1 + x) + (1 + x) := by
      have : ((i + 1 : Nat) : Int) - 1 = ((i : Int) - 1) + 1 := by omega
      rw [this, Int.add_mul, Int.one_mul]
    rw [em]
    by_cases h0 : a = 0
    · subst h0
      rw [upd_self, upd_ne _ _ (by omega)]
      omega
    · obtain rfl : a = 1 := by omega
      rw [upd_self, upd_ne _ _ (by omega)]
      omega
  · rw [e]
    show 1 ≤ upd s.pcs a (s.pcs a + (1 + x)) 0
    have := h.p0
    by_cases h0 : a = 0
    · subst h0
      rw [upd_self]
      omega
    · rw [upd_ne _ _ (by omega)]
      exact this
  · rw [e]; exact h.ch01
  · rw [e]; exact h.ch10
  · rw [e]; exact h.ch00
  · rw [e]; exact h.ch11
  · rw [e]
    intro q hq
    show (evt (s.evs ++ [_]) q).clk.length = s.n
    have hq : q < (s.evs ++ [_]).length := hq
    by_cases eq : q = s.evs.length
    · subst eq
      rw [evt_new]
      exact clkL_len _ _
    · rw [evt_app (by simp at hq; omega)]
      exact h.clk q (by simp at hq; omega)
theorem LI.start {s : Nt} {x : Int} {i j : Nat} (h : LI s x i j) (h8 : j < 8) : startE s 1 = 0 ∧ startK s 1 = j + 1 ∧ rcvE (startN s 1) 1 0 = 0 ∧ LI (rcvS (startN s 1) 1 0) x i (j + 1) := by
  have hE : startE s 1 = 0 := by
    unfold startE
    rw [if_pos (by rw [h.n]; omega), if_neg (by rw [h.ns]; omega)]
  have hK : startK s 1 = j + 1 := by
    unfold startK
    rw [if_pos hE, h.ns]
  have e : startN s 1 = startS s 1 := by
    unfold startN
    rw [if_pos hE]
    rfl
  obtain ⟨n1, n2, n3, n4, n5⟩ := recordS_n (newS s) (s.ns + 1) 1
  have e1 : (startS s 1).n = 2 := n1.trans h.n
  have e3 : (startS s 1).evs = s.evs := n3
  have e4 : (startS s 1).pcs = s.pcs := n4
  have e2 : (startS s 1).ns = s.ns + 1 := n2
  have hch : ∀ a b, (startS s 1).ch a b = if a = 1 ∧ b < s.n ∧ b ≠ 1 then s.ch a b ++ [.mark (s.ns + 1)] else s.ch a b := fun a b => recordS_ch (newS s) (s.ns + 1) 1 a b
  have c10 : (startS s 1).ch 1 0 = .mark (s.ns + 1) :: [] := by
    rw [hch, if_pos ⟨rfl, by rw [h.n]; omega, by omega⟩, h.ch10]
    rfl
  have hm0 : ((startS s 1).sh (s.ns + 1 - 1) 0).made = false := by
    have := recordS_sh (newS s) (s.ns + 1) 1 (s.ns + 1 - 1) 0
    rw [if_neg (by omega)] at this
    show ((recordS (newS s) (s.ns + 1) 1).sh (s.ns + 1 - 1) 0).made = false
    rw [this]
    show (if s.ns + 1 - 1 = s.ns then zeroR else s.sh (s.ns + 1 - 1) 0).made = false
    rw [if_pos (by omega)]
    rfl
  have hchk : chkF (startS s 1).n 1 0 = 0 := by
    unfold chkF
    rw [e1, if_pos (by omega)]
  have hrE : rcvE (startS s 1) 1 0 = 0 := by
    unfold rcvE
    rw [hchk, if_neg (by omega)]
    show (recvN (startS s 1) 1 0).1 = 0
    unfold recvN
    rw [c10]
  have hrS : rcvS (startS s 1) 1 0 = dropS (heedS (startS s 1) 1 0 (s.ns + 1)) 1 0 [] := by
    unfold rcvS
    rw [hchk, if_neg (by omega)]
    show (recvN (startS s 1) 1 0).2 = _
    unfold recvN
    rw [c10]
  have hh : heed1 (startS s 1) 0 (s.ns + 1) = recordS (startS s 1) (s.ns + 1) 0 := by
    unfold heed1
    rw [hm0, if_neg (by simp)]
  obtain ⟨r1, r2, r3, r4, r5⟩ := recordS_n (startS s 1) (s.ns + 1) 0
  have fch : ∀ a b, (rcvS (startS s 1) 1 0).ch a b = if a = 1 ∧ b = 0 then [] else (if a = 0 ∧ b < (startS s 1).n ∧ b ≠ 0 then (startS s 1).ch a b ++ [.mark (s.ns + 1)] else (startS s 1).ch a b) := fun a b => by
    rw [hrS]
    show upd2 (heed1 (startS s 1) 0 (s.ns + 1)).ch 1 0 [] a b = _
    rw [hh]
    unfold upd2
    split
    · rfl
    · exact recordS_ch (startS s 1) (s.ns + 1) 0 a b
  have fn : (rcvS (startS s 1) 1 0).n = 2 ∧ (rcvS (startS s 1) 1 0).ns = s.ns + 1 ∧ (rcvS (startS s 1) 1 0).evs = s.evs ∧ (rcvS (startS s 1) 1 0).pcs = s.pcs := by
    rw [hrS]
    refine ⟨?_, ?_, ?_, ?_⟩
    · show (heed1 (startS s 1) 0 (s.ns + 1)).n = 2
      rw [hh, r1, e1]
    · show (heed1 (startS s 1) 0 (s.ns + 1)).ns = _
      rw [hh, r2, e2]
    · show (heed1 (startS s 1) 0 (s.ns + 1)).evs = _
      rw [hh, r3, e3]
    · show (heed1 (startS s 1) 0 (s.ns + 1)).pcs = _
      rw [hh, r4, e4]
  refine ⟨hE, hK, by rw [e]; exact hrE, ?_⟩
  rw [e]
  have hI : NInv (rcvS (startS s 1) 1 0) := by
    have := (h.I.startN 1).rcvS 1 0
    rw [e] at this
    exact this
  refine ⟨hI, fn.1, by rw [fn.2.1, h.ns], by rw [fn.2.2.1]; exact h.len, by rw [fn.2.2.2]; exact h.pcs, by rw [fn.2.2.2]; exact h.p0, ?_, ?_, ?_, ?_, ?_⟩
  · obtain ⟨c, hc⟩ := h.ch01
    refine ⟨c, ?_⟩
    rw [fch, if_neg (by omega), if_pos ⟨rfl, by omega, by omega⟩, hch, if_neg (by omega), hc, h.ns, marks_succ]
    rfl
  · rw [fch, if_pos ⟨rfl, rfl⟩]
  · rw [fch, if_neg (by omega), if_neg (by omega), hch, if_neg (by omega)]
    exact h.ch00
  · rw [fch, if_neg (by omega), if_neg (by omega), hch, if_neg (by omega)]
    exact h.ch11
  · rw [fn.1, fn.2.2.1, ← h.n]
    exact h.clk
end Go.AM
