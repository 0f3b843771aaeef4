/- Proved: for all numbers n, s, t and u, all lists of wires and each further wire, whose reading is of bulk at most 1048576, the law SquareRayleigh returns true and leaves its input as it is. -/
import Derived.Deep.SlicePairs
import Derived.JoinedCond
import Derived.KernelRfl
import Derived.Laws.Runes
import Derived.Laws.StructEq
import Derived.Lib.SmallJoins
import Derived.OpenShut
import Derived.ProofKit
import Derived.Test.YtdneekidlmgpfaaRows
import Derived.WalkKit
import Derived.Test.YtdneekidlmgpfaaAmModel
import Derived.Test.YtdneekidlmgpfaaAmOps5
import Derived.Test.YtdneekidlmgpfaaAmOps6
import Derived.Test.YtdneekidlmgpfaaAmCode
import Derived.Test.YtdneekidlmgpfaaAmDraw5
import Derived.Test.YtdneekidlmgpfaaAmEq
import Derived.Test.YtdneekidlmgpfaaRBase
import Derived.Test.YtdneekidlmgpfaaR33
import Derived.Test.YtdneekidlmgpfaaR50
import Derived.Test.YtdneekidlmgpfaaR83
import Derived.Test.YtdneekidlmgpfaaR90
import Derived.Test.YtdneekidlmgpfaaR107
import Derived.Test.YtdneekidlmgpfaaS32
import Derived.Test.YtdneekidlmgpfaaDet1
import Derived.Test.YtdneekidlmgpfaaH1
import Derived.Test.YtdneekidlmgpfaaS15
import Derived.Test.YtdneekidlmgpfaaS6
import Derived.Test.YtdneekidlmgpfaaC6
import Derived.Test.YtdneekidlmgpfaaCW
import Derived.Test.YtdneekidlmgpfaaDet5
set_option linter.unusedVariables false
set_option linter.unusedSimpArgs false
set_option linter.unusedSectionVars false
namespace Go.Proofs.Ytdneekidlmgpfaa.squareRayleigh
open Go.ChangeShapes Go.WideShapes Go.ChangeAt Go.RowKit Go.AM
open Go.Proofs.Ytdneekidlmgpfaa.squareCuts (own Stays post_of_stays)
theorem stays_of_ext' {ρ ρ' : Map} {n : Nat} {W w' : World} (hd : ∀ r l, ρ r = some l → r < n) (h : Ext n ρ ρ' W w') : Stays W w' ∧ Same W w' := by
  have hf : Same W w' := fun b hb => h.frame b hb fun r l hr hn => by
    have := hd r l hr
    omega
  refine ⟨⟨⟨h.os, h.output, fun i hi => ?_⟩, fun a ha => ?_⟩, hf⟩
  · rw [hf i hi]
    cases W.heap[i]? with
    | none => rfl
    | some o => cases o with
      | cells c t fr => exact ⟨rfl, rfl, rfl, fun _ _ => rfl⟩
      | map es clock => exact .inr ⟨rfl, rfl⟩
      | _ => rfl
  · unfold World.frozen?
    rw [hf a.block ha]
theorem walk (n s t u a b : Int) (v : Value) (W : World) {ρ : Map} {m : M} {xw : Value} {ws : List Wi} (hR : Rel ρ m W) (hw : WS m.length m xw ws) (hv : VRel ρ xw v) : Calls Try.prog 11 #[.int .i64 n, v, .int .i64 s, .int .i64 t, .int .i64 u, .agg #[.int .i64 a, .int .i64 b]] W fun e w' => e = .returned (.bool true) ∧ Stays W w' ∧ Same W w' := by
  obtain ⟨m', h⟩ := law11 1099511627777 (by omega) n s t u a b xw ws m hw
  have hag : VRel ρ (vw (a, b)) (.agg #[.int .i64 a, .int .i64 b]) := by
    refine .agg rfl fun i x y hx hy => ?_
    match i with
    | 0 => simp at hx hy; subst hx hy; exact .int _ _
    | 1 => simp at hx hy; subst hx hy; exact .int _ _
    | j + 2 => simp at hx
  have hl : LRel ρ [vi n, xw, vi s, vi t, vi u, vw (a, b)] [.int .i64 n, v, .int .i64 s, .int .i64 t, .int .i64 u, .agg #[.int .i64 a, .int .i64 b]] :=
    LRel.cons (.int _ _) (LRel.cons hv (LRel.cons (.int _ _) (LRel.cons (.int _ _) (LRel.cons (.int _ _) (LRel.cons hag (LRel.nil _))))))
  have hs := ((rt_sound (1099511627777 + 6)).one h).2.2 ρ W _ hR (Nat.le_refl _) hl
  refine Calls.mono hs fun e w' hk => ?_
  obtain ⟨ρ', he, _, v', hend, hv⟩ := hk
  cases hv
  exact ⟨hend, stays_of_ext' hR.dom he⟩
theorem pr11 : Try.f11.params = #[3, 22, 3, 3, 3, 59] := by kernel_rfl
theorem one59 : Go.Deep.oneCellFields Try.prog #[fld 0, fld 1] = true := by kernel_rfl
theorem un3 : Try.prog.underlying 3 = some (.int .i64) := by kernel_rfl
theorem un4 : Try.prog.underlying 4 = some .bool := by kernel_rfl
set_option maxRecDepth 100000 in
theorem open59 {H : Type} {enc : TypeId × Value → H} {w : World} {base : Nat} {spare : Nat → Bool} {held : Bool} {r : Reach} {b0 : Nat} {v : Value} {d : DataW H} {p : List MemPlace} (hv : Value.okWide Try.prog w r b0 59 v) (h : DataW.Trod enc Try.prog w base spare held 59 v d p) :
    ∃ a b : Int, v = .agg #[.int .i64 a, .int .i64 b] ∧ d = .agg [.lit (.int .i64 a), .lit (.int .i64 b)] ∧ p = [] ∧ (Lit.int .i64 a).wf = true ∧ (Lit.int .i64 b).wf = true := by
  obtain ⟨v0, v1, y0, y1, n, rfl, rfl, rfl, h0, h1⟩ := Go.Joins.open_agg2 un59 one59 ce59 hv h
  rw [ty0] at h0
  rw [ty1] at h1
  obtain ⟨a, e0, rfl, w0⟩ := DataW.trod_int un3 h0
  obtain ⟨b, e1, rfl, w1⟩ := DataW.trod_int un3 h1
  simp only [List.cons.injEq, and_true] at e0 e1
  subst e0 e1
  exact ⟨a, b, rfl, rfl, rfl, w0, w1⟩
set_option maxRecDepth 100000 in
theorem shut59 {H : Type} {enc : TypeId × Value → H} {w : World} {base : Nat} {spare : Nat → Bool} {held : Bool} {a b : Int} (w0 : (Lit.int .i64 a).wf = true) (w1 : (Lit.int .i64 b).wf = true) : DataW.Trod enc Try.prog w base spare held 59 (.agg #[.int .i64 a, .int .i64 b]) (.agg [.lit (.int .i64 a), .lit (.int .i64 b)]) [] := by
  have h := Go.Joins.shut_agg2 (enc := enc) (w := w) (base := base) (spare := spare) (held := held) (v0 := .int .i64 a) (v1 := .int .i64 b) (y0 := (.lit (.int .i64 a), [])) (y1 := (.lit (.int .i64 b), [])) un59 one59 ce59 ⟨1, by rw [ty0]; simp [DataW.trod, un3, w0]⟩ ⟨1, by rw [ty1]; simp [DataW.trod, un3, w1]⟩
  exact h
set_option maxRecDepth 100000 in
theorem contract (H : Type) (enc : TypeId × Value → H) (W : World) (base : Nat) (args : Array Value) (ds gs : List (DataW H)) (before : List MemPlace)
    (hval : ∀ (j : Nat) t v, Try.f11.params[j]? = some t → args[j]? = some v → Value.okWide Try.prog W .any base t v)
    (hW : DataW.Whole enc Try.prog Try.f11.params.toList Rows.squareRayleighSpec.vars false W args.toList ds gs before) :
    Calls Try.prog 11 args W fun e W' => ∃ v, e = .returned v ∧ Rows.squareRayleighSpec.post enc Try.prog Try.f11 false true false false W args v W' := by
  have hW' := hW
  obtain ⟨p, q, hA0, hV, rfl, hfz, hnd⟩ := hW
  have hA : DataW.TrodAll enc Try.prog W 0 (fun _ => true) true Try.f11.params.toList args.toList ds p := hA0
  rw [pr11] at hA hval
  obtain ⟨v0, vs0, d0, ds0, p0, q0, hargs, rfl, rfl, h0, r0⟩ := trodAll_cons hA
  obtain ⟨v1, vs1, d1, ds1, p1, q1, hargs1, rfl, rfl, h1, r1⟩ := trodAll_cons r0
  obtain ⟨v2, vs2, d2, ds2, p2, q2, hargs2, rfl, rfl, h2, r2⟩ := trodAll_cons r1
  obtain ⟨v3, vs3, d3, ds3, p3, q3, hargs3, rfl, rfl, h3, r3⟩ := trodAll_cons r2
  obtain ⟨v4, vs4, d4, ds4, p4, q4, hargs4, rfl, rfl, h4, r4⟩ := trodAll_cons r3
  obtain ⟨v5, vs5, d5, ds5, p5, q5, hargs5, rfl, rfl, h5, r5⟩ := trodAll_cons r4
  obtain ⟨rfl, rfl, rfl⟩ := trodAll_nil r5
  subst hargs5 hargs4 hargs3 hargs2 hargs1
  obtain rfl : args = #[v0, v1, v2, v3, v4, v5] := by cases args; simp_all
  obtain ⟨rfl, rfl⟩ := trodVars_none hV
  obtain ⟨a0, rfl, rfl, rfl, w0⟩ := open_int un3 (hval 0 3 v0 (by simp) (by simp)) h0
  obtain ⟨ρ, m, xw, ws, hR, hws, hv1, hback⟩ := openWires (hval 1 22 v1 (by simp) (by simp)) h1
  obtain ⟨a2, rfl, rfl, rfl, w2⟩ := open_int un3 (hval 2 3 v2 (by simp) (by simp)) h2
  obtain ⟨a3, rfl, rfl, rfl, w3⟩ := open_int un3 (hval 3 3 v3 (by simp) (by simp)) h3
  obtain ⟨a4, rfl, rfl, rfl, w4⟩ := open_int un3 (hval 4 3 v4 (by simp) (by simp)) h4
  obtain ⟨a5, b5, rfl, rfl, rfl, w5, w6⟩ := open59 (hval 5 59 v5 (by simp) (by simp)) h5
  clear hA0
  simp only [List.append_nil, List.nil_append] at hW'
  refine (walk a0 a2 a3 a4 a5 b5 v1 W hR hws hv1).mono fun e W' ⟨he, hg, hS⟩ => ?_
  subst he
  refine ⟨_, rfl, post_of_stays (pa := p1) (pv := []) hW' (fun _ _ _ => ?_) (fun sp hsp => ?_) (fun _ _ => rfl) (by simp) (World.keptBut_mono (fun _ f => f.elim) hg.1) hg.2 (ok_one (by kernel_rfl) rfl (okWide_bool_mk un4 _))⟩
  · exact (trodAll_cons_mk (shut_bool un4 _) trodAll_mk0)
  · have h := trodAll_cons_mk (shut_int (spare := sp) (base := 0) (held := true) (enc := enc) (w := W') un3 w0) (trodAll_cons_mk (hback W' sp hS hsp) (trodAll_cons_mk (shut_int un3 w2) (trodAll_cons_mk (shut_int un3 w3) (trodAll_cons_mk (shut_int un3 w4) (trodAll_cons_mk (shut59 w5 w6) trodAll_mk0)))))
    simp only [List.nil_append, List.append_nil] at h
    exact h
set_option maxRecDepth 100000 in
theorem lifted (os : Os) (started : os.Started) (H : Type) (enc : TypeId × Value → H) (F : Stop.Interp) :
    ReturnsInHanded {} Try.checked os 11 .any ((Rows.OpenSpec.upto Rows.squareRayleighSpec).pre6 enc Try.prog Try.f11 Rows.squareRayleighUptoRow.domain false) (((Rows.OpenSpec.upto Rows.squareRayleighSpec).at F).post enc Try.prog Try.f11 false true false false) := by
  refine returnsInHanded_of_cond (C := Try.checked) (s := Rows.OpenSpec.upto Rows.squareRayleighSpec) (k := Rows.uptoSmall) rfl own started (by kernel_rfl) Try.func11
    (OpenSpec.witness (enc := enc) (C := Try.checked) (s := Rows.OpenSpec.upto Rows.squareRayleighSpec) (k := Rows.uptoSmall) rfl false ⟨#[], #[.int .i64 0, .slice none 0 0, .int .i64 0, .int .i64 0, .int .i64 0, .agg #[.int .i64 0, .int .i64 0]], []⟩ 8 (by kernel_rfl) (by kernel_rfl) (by kernel_rfl)
      (x := ([.lit (.int .i64 0), .nil, .lit (.int .i64 0), .lit (.int .i64 0), .lit (.int .i64 0), .agg [.lit (.int .i64 0), .lit (.int .i64 0)]], [], [])) (by kernel_rfl) rfl (by kernel_rfl)) ?_
  intro W base args ds gs before hval hW _ hk _
  exact contract H enc W base args ds gs before hval hW
theorem over : Rows.squareRayleighUptoRow.holds Try.pinned (Rows.OpenSpec.upto Rows.squareRayleighSpec) :=
  OpenClaim.holds_of_cond 11 Try.f11 rfl rfl rfl rfl rfl rfl rfl ⟨rfl, rfl, rfl, rfl, rfl⟩ rfl rfl rfl rfl rfl (by kernel_rfl) Try.func11 (by kernel_rfl)
    (of_decide_eq_true (by kernel_rfl)) (by unfold Func.isWrapper; first | (rw [if_pos (by decide +kernel)]; kernel_rfl) | (rw [if_neg (by decide +kernel)]; exact ⟨rfl, rfl⟩))
    (fun os started H enc _ F => lifted os started H enc F)
theorem proved : Rows.SquareRayleighUptoSaid :=
  over
end Go.Proofs.Ytdneekidlmgpfaa.squareRayleigh
