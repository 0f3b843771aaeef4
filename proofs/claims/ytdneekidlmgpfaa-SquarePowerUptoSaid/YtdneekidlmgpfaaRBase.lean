import Derived.KernelRfl
import Derived.Laws.StructEq
import Derived.Test.YtdneekidlmgpfaaRows
import Derived.WalkKit
import Derived.Test.YtdneekidlmgpfaaAmModel
import Derived.Test.YtdneekidlmgpfaaAmOps5
import Derived.Test.YtdneekidlmgpfaaAmOps6
import Derived.Test.YtdneekidlmgpfaaAmCode
import Derived.Test.YtdneekidlmgpfaaAmX
import Derived.Test.YtdneekidlmgpfaaAmEq
set_option linter.unusedVariables false
set_option linter.unusedSimpArgs false
set_option linter.unusedSectionVars false
namespace Go.AM
open Go Go.Proofs
def seqL : Code → Code | .seq a _ => a | _ => .skip
def seqR : Code → Code | .seq _ a => a | _ => .skip
def condT : Code → Code | .cond _ a _ => a | _ => .skip
def blockB : Code → Code | .block _ a => a | _ => .skip
def loopB : Code → Code | .loop a => a | _ => .skip
noncomputable def E : Env where
  P := Try.prog
  pure := fun f => [14,15,16,18,22,23,24,26,28,32,35,36,39,40,42,43,45,46,50,51,52,53,54,55,58,59,60,61,64,65,69,70,71,72,73,74,75,78,79,80,84,85,87,88,89,90,91,92,93,102,103].contains f
  eqt := fun t => if t == 80 then [0,1,2] else if t == 59 then [0, 1] else if t == 62 then [0,1,2] else if t == 38 then [0,1] else []
  live := fun _ _ => none
def fieldSum (P : Program) (t : TypeId) : List (Nat × Nat × Bool) := (P.fieldsOf t).toList.map fun f => (f.type, f.offset, f.name == "_")
theorem flat_of {P : Program} {t : TypeId} {l : List (Nat × Nat × Bool)} {k : IntKind} (h1 : P.underlying t = some (.struct (P.fieldsOf t))) (h2 : P.stoodInHeld t = false) (h3 : P.eqGuardType P.depth t = false)
    (h3' : P.underlying 3 = some (.int k)) (h4 : fieldSum P t = l) (h5 : ∀ q ∈ l, q.1 = 3 ∧ q.2.2 = false) : flatFields P t (l.map fun q => q.2.1) := by
  refine ⟨⟨h1, h2, h3⟩, ?_, fun f hf => ?_⟩
  · rw [← h4]; simp [fieldSum]
  · have := h5 (f.type, f.offset, f.name == "_") (by rw [← h4]; exact List.mem_map.2 ⟨f, hf, rfl⟩)
    simp only at this
    refine ⟨⟨k, by rw [this.1]; exact h3'⟩, ?_⟩
    have h := this.2
    simp only [beq_eq_false_iff_ne] at h
    exact h
theorem u3 : Try.prog.underlying 3 = some (.int .i64) := by kernel_rfl
theorem fl80 : flatFields Try.prog 80 [0, 1, 2] := flat_of (l := [(3,0,false),(3,1,false),(3,2,false)]) (by kernel_rfl) (by kernel_rfl) (by kernel_rfl) u3 (by kernel_rfl) (by simp)
theorem fl62 : flatFields Try.prog 62 [0, 1, 2] := flat_of (l := [(3,0,false),(3,1,false),(3,2,false)]) (by kernel_rfl) (by kernel_rfl) (by kernel_rfl) u3 (by kernel_rfl) (by simp)
theorem fl59 : flatFields Try.prog 59 [0, 1] := flat_of (l := [(3,0,false),(3,1,false)]) (by kernel_rfl) (by kernel_rfl) (by kernel_rfl) u3 (by kernel_rfl) (by simp)
theorem fl38 : flatFields Try.prog 38 [0, 1] := flat_of (l := [(3,0,false),(3,1,false)]) (by kernel_rfl) (by kernel_rfl) (by kernel_rfl) u3 (by kernel_rfl) (by simp)
theorem nogAll : (Try.prog.funcs.toList.all fun fn => !(fn.body.isSome && fn.name == "runtime.NumGoroutine")) = true := by kernel_rfl
theorem E_good : E.Good where
  eqt := by
    intro t xs ys r w x y hne hc
    have ht : t = 80 ∨ t = 59 ∨ t = 62 ∨ t = 38 := by
      unfold E at hne
      simp only [beq_iff_eq] at hne
      by_cases h1 : t = 80
      · exact .inl h1
      by_cases h2 : t = 59
      · exact .inr (.inl h2)
      by_cases h3 : t = 62
      · exact .inr (.inr (.inl h3))
      by_cases h4 : t = 38
      · exact .inr (.inr (.inr h4))
      simp [h1, h2, h3, h4] at hne
    rcases ht with rfl | rfl | rfl | rfl
    · exact eqt_flat fl80 w x y hc
    · exact eqt_flat fl59 w x y hc
    · exact eqt_flat fl62 w x y hc
    · exact eqt_flat fl38 w x y hc
  nog := by
    intro f fn hf hb
    have h := List.all_eq_true.1 nogAll fn (Array.mem_toList_iff.2 (Array.mem_of_getElem? hf))
    simpa [hb] using h
theorem E_mix : E.P.follows .mixedOrders = true := by kernel_rfl
end Go.AM
namespace Go.AM
open Go Go.Proofs
noncomputable def r6 (call : CallF) (fuel base : Nat) (x0 : Value) (x1 : Value) (m : M) : Res2 :=
  (kc (call base 33 [x0, x1] m) (fun v12_1 m => (k1 (mextract 0 v12_1) fun v13_2 => (k1 (mextract 1 v12_1) fun v14_3 => (kc (call base 34 [x0, x1] m) (fun v18_4 m => (k1 (mextract 0 v18_4) fun v19_5 => (k1 (mextract 1 v18_4) fun v20_6 => (kc (call base 32 [v13_2, v19_5] m) (fun v23_7 m => (kb v23_7 (k1 (mbin E .eql 25 v14_3 v20_6) fun v27_8 => (k0 (mpick (.bool true) v27_8 (.bool false)) fun v28_9 => (kb v28_9 (kc (call base 15 [] m) (fun v30_10 m => (k0 (mpick (.bool true) v30_10 (.bool false)) fun v31_11 => (fVal v31_11 fun v => some (.ret v, m)))) (fun v m => some (.pan v, m))) (k0 (mpick (.bool false) undef (.bool false)) fun v31_12 => (fVal v31_12 fun v => some (.ret v, m)))))) (k0 (mpick (.bool false) undef (.bool false)) fun v28_13 => (kb v28_13 (kc (call base 15 [] m) (fun v30_14 m => (k0 (mpick (.bool true) v30_14 (.bool false)) fun v31_15 => (fVal v31_15 fun v => some (.ret v, m)))) (fun v m => some (.pan v, m))) (k0 (mpick (.bool false) undef (.bool false)) fun v31_16 => (fVal v31_16 fun v => some (.ret v, m))))))) (fun v m => some (.pan v, m)))))) (fun v m => some (.pan v, m)))))) (fun v m => some (.pan v, m)))
def keep6 : Keep := { region := fun i => ([[0, 1], [0, 1, 5, 6], [5, 6, 7, 8], [4]] : List (List Nat))[i]?, exit := fun i => ([] : List (List Nat))[i]?, ret := some [4] }
noncomputable def lp6 (call : CallF) (fuel base : Nat) : Lp := lpsel []
noncomputable def c6 : Code := Try.f6.body.getD .skip
theorem r6_eq (call : CallF) (fuel base : Nat) (x0 : Value) (x1 : Value) (m : M) : kbody E call keep6 (lp6 call fuel base) base Try.f6 [x0, x1] m = r6 call fuel base x0 x1 m := by
  kernel_rfl
noncomputable def rf6 : RF := fun call fuel base args m => match args with
  | [x0, x1] => r6 call fuel base x0 x1 m
  | _ => none
theorem r6_lk (call : CallF) (fuel base : Nat) : LoopsOk E call (lp6 call fuel base) fuel base 0 c6 = (And True (And True (And True (And True True)))) := by kernel_rfl
theorem r6_fn : E.P.funcs[6]? = some Try.f6 := by kernel_rfl
theorem r6_body : Try.f6.body = some c6 := by kernel_rfl
theorem rf6_ok : RFok E 6 rf6 := by
  refine ⟨Try.f6, r6_fn, fun call fuel base args m r _ h => ?_⟩
  unfold rf6 at h
  split at h
  · rw [← r6_eq] at h
    exact kbody_sound (c := c6) r6_body (Eq.mpr (r6_lk call fuel base) (And.intro trivial (And.intro trivial (And.intro trivial (And.intro trivial trivial))))) h
  · simp at h
end Go.AM
namespace Go.AM
open Go Go.Proofs
noncomputable def r7 (call : CallF) (fuel base : Nat) (x0 : Value) (x1 : Value) (x2 : Value) (x3 : Value) (m : M) : Res2 :=
  (kc (call base 14 [x1] m) (fun v14_1 m => (k1 (mun .not v14_1) fun v15_2 => (kb v15_2 (kc (call base 15 [] m) (fun v16_3 m => (fVal v16_3 fun v => some (.ret v, m))) (fun v m => some (.pan v, m))) (kc (call base 16 [x0, x1] m) (fun v20_4 m => (k1 (mextract 0 v20_4) fun v21_5 => (k1 (mextract 1 v20_4) fun v22_6 => (kc (call base 18 [x0, x1, x2, x3] m) (fun v28_7 m => (k1 (mextract 0 v28_7) fun v29_8 => (k1 (mextract 1 v28_7) fun v30_9 => (k1 (mbin E .neq 25 v22_6 (.int .i64 0)) fun v32_10 => (kb v32_10 (k0 (mpick (.bool true) (.bool true) undef) fun v36_11 => (kb v36_11 (kc (call base 35 [x0, x1] m) (fun v40_12 m => (k1 (mbin E .eql 25 v22_6 v40_12) fun v41_13 => (kb v41_13 (kc (call base 36 [x0, x1, x2, x3] m) (fun v48_14 m => (k1 (mbin E .eql 25 v30_9 v48_14) fun v49_15 => (k0 (mpick (.bool true) v49_15 (.bool false)) fun v50_16 => (kb v50_16 (kc (call base 15 [] m) (fun v52_17 m => (k0 (mpick (.bool true) v52_17 (.bool false)) fun v53_18 => (fVal v53_18 fun v => some (.ret v, m)))) (fun v m => some (.pan v, m))) (k0 (mpick (.bool false) undef (.bool false)) fun v53_19 => (fVal v53_19 fun v => some (.ret v, m))))))) (fun v m => some (.pan v, m))) (k0 (mpick (.bool false) undef (.bool false)) fun v50_20 => (kb v50_20 (kc (call base 15 [] m) (fun v52_21 m => (k0 (mpick (.bool true) v52_21 (.bool false)) fun v53_22 => (fVal v53_22 fun v => some (.ret v, m)))) (fun v m => some (.pan v, m))) (k0 (mpick (.bool false) undef (.bool false)) fun v53_23 => (fVal v53_23 fun v => some (.ret v, m)))))))) (fun v m => some (.pan v, m))) (kc (call base 38 [x0, x1, x2, x2] m) (fun v59_24 m => (kc (call base 37 [v59_24] m) (fun v60_25 m => (k1 (mbin E .eql 3 v21_5 v60_25) fun v61_26 => (kb v61_26 (kc (call base 38 [x0, x1, x3, x3] m) (fun v68_27 m => (kc (call base 37 [v68_27] m) (fun v69_28 m => (k1 (mbin E .eql 3 v21_5 v69_28) fun v70_29 => (k0 (mpick (.bool true) v70_29 (.bool false)) fun v71_30 => (kb v71_30 (kc (call base 38 [x0, x1, x2, x3] m) (fun v78_31 m => (kc (call base 37 [v78_31] m) (fun v79_32 m => (k1 (mbin E .eql 3 v29_8 v79_32) fun v80_33 => (k0 (mpick (.bool true) v80_33 (.bool false)) fun v81_34 => (kb v81_34 (kc (call base 15 [] m) (fun v83_35 m => (k0 (mpick (.bool true) v83_35 (.bool false)) fun v84_36 => (fVal v84_36 fun v => some (.ret v, m)))) (fun v m => some (.pan v, m))) (k0 (mpick (.bool false) undef (.bool false)) fun v84_37 => (fVal v84_37 fun v => some (.ret v, m))))))) (fun v m => some (.pan v, m)))) (fun v m => some (.pan v, m))) (k0 (mpick (.bool false) undef (.bool false)) fun v81_38 => (kb v81_38 (kc (call base 15 [] m) (fun v83_39 m => (k0 (mpick (.bool true) v83_39 (.bool false)) fun v84_40 => (fVal v84_40 fun v => some (.ret v, m)))) (fun v m => some (.pan v, m))) (k0 (mpick (.bool false) undef (.bool false)) fun v84_41 => (fVal v84_41 fun v => some (.ret v, m))))))))) (fun v m => some (.pan v, m)))) (fun v m => some (.pan v, m))) (k0 (mpick (.bool false) undef (.bool false)) fun v71_42 => (kb v71_42 (kc (call base 38 [x0, x1, x2, x3] m) (fun v78_43 m => (kc (call base 37 [v78_43] m) (fun v79_44 m => (k1 (mbin E .eql 3 v29_8 v79_44) fun v80_45 => (k0 (mpick (.bool true) v80_45 (.bool false)) fun v81_46 => (kb v81_46 (kc (call base 15 [] m) (fun v83_47 m => (k0 (mpick (.bool true) v83_47 (.bool false)) fun v84_48 => (fVal v84_48 fun v => some (.ret v, m)))) (fun v m => some (.pan v, m))) (k0 (mpick (.bool false) undef (.bool false)) fun v84_49 => (fVal v84_49 fun v => some (.ret v, m))))))) (fun v m => some (.pan v, m)))) (fun v m => some (.pan v, m))) (k0 (mpick (.bool false) undef (.bool false)) fun v81_50 => (kb v81_50 (kc (call base 15 [] m) (fun v83_51 m => (k0 (mpick (.bool true) v83_51 (.bool false)) fun v84_52 => (fVal v84_52 fun v => some (.ret v, m)))) (fun v m => some (.pan v, m))) (k0 (mpick (.bool false) undef (.bool false)) fun v84_53 => (fVal v84_53 fun v => some (.ret v, m)))))))))) (fun v m => some (.pan v, m)))) (fun v m => some (.pan v, m))))) (k1 (mbin E .neq 25 v30_9 (.int .i64 0)) fun v35_54 => (k0 (mpick (.bool false) (.bool true) v35_54) fun v36_55 => (kb v36_55 (kc (call base 35 [x0, x1] m) (fun v40_56 m => (k1 (mbin E .eql 25 v22_6 v40_56) fun v41_57 => (kb v41_57 (kc (call base 36 [x0, x1, x2, x3] m) (fun v48_58 m => (k1 (mbin E .eql 25 v30_9 v48_58) fun v49_59 => (k0 (mpick (.bool true) v49_59 (.bool false)) fun v50_60 => (kb v50_60 (kc (call base 15 [] m) (fun v52_61 m => (k0 (mpick (.bool true) v52_61 (.bool false)) fun v53_62 => (fVal v53_62 fun v => some (.ret v, m)))) (fun v m => some (.pan v, m))) (k0 (mpick (.bool false) undef (.bool false)) fun v53_63 => (fVal v53_63 fun v => some (.ret v, m))))))) (fun v m => some (.pan v, m))) (k0 (mpick (.bool false) undef (.bool false)) fun v50_64 => (kb v50_64 (kc (call base 15 [] m) (fun v52_65 m => (k0 (mpick (.bool true) v52_65 (.bool false)) fun v53_66 => (fVal v53_66 fun v => some (.ret v, m)))) (fun v m => some (.pan v, m))) (k0 (mpick (.bool false) undef (.bool false)) fun v53_67 => (fVal v53_67 fun v => some (.ret v, m)))))))) (fun v m => some (.pan v, m))) (kc (call base 38 [x0, x1, x2, x2] m) (fun v59_68 m => (kc (call base 37 [v59_68] m) (fun v60_69 m => (k1 (mbin E .eql 3 v21_5 v60_69) fun v61_70 => (kb v61_70 (kc (call base 38 [x0, x1, x3, x3] m) (fun v68_71 m => (kc (call base 37 [v68_71] m) (fun v69_72 m => (k1 (mbin E .eql 3 v21_5 v69_72) fun v70_73 => (k0 (mpick (.bool true) v70_73 (.bool false)) fun v71_74 => (kb v71_74 (kc (call base 38 [x0, x1, x2, x3] m) (fun v78_75 m => (kc (call base 37 [v78_75] m) (fun v79_76 m => (k1 (mbin E .eql 3 v29_8 v79_76) fun v80_77 => (k0 (mpick (.bool true) v80_77 (.bool false)) fun v81_78 => (kb v81_78 (kc (call base 15 [] m) (fun v83_79 m => (k0 (mpick (.bool true) v83_79 (.bool false)) fun v84_80 => (fVal v84_80 fun v => some (.ret v, m)))) (fun v m => some (.pan v, m))) (k0 (mpick (.bool false) undef (.bool false)) fun v84_81 => (fVal v84_81 fun v => some (.ret v, m))))))) (fun v m => some (.pan v, m)))) (fun v m => some (.pan v, m))) (k0 (mpick (.bool false) undef (.bool false)) fun v81_82 => (kb v81_82 (kc (call base 15 [] m) (fun v83_83 m => (k0 (mpick (.bool true) v83_83 (.bool false)) fun v84_84 => (fVal v84_84 fun v => some (.ret v, m)))) (fun v m => some (.pan v, m))) (k0 (mpick (.bool false) undef (.bool false)) fun v84_85 => (fVal v84_85 fun v => some (.ret v, m))))))))) (fun v m => some (.pan v, m)))) (fun v m => some (.pan v, m))) (k0 (mpick (.bool false) undef (.bool false)) fun v71_86 => (kb v71_86 (kc (call base 38 [x0, x1, x2, x3] m) (fun v78_87 m => (kc (call base 37 [v78_87] m) (fun v79_88 m => (k1 (mbin E .eql 3 v29_8 v79_88) fun v80_89 => (k0 (mpick (.bool true) v80_89 (.bool false)) fun v81_90 => (kb v81_90 (kc (call base 15 [] m) (fun v83_91 m => (k0 (mpick (.bool true) v83_91 (.bool false)) fun v84_92 => (fVal v84_92 fun v => some (.ret v, m)))) (fun v m => some (.pan v, m))) (k0 (mpick (.bool false) undef (.bool false)) fun v84_93 => (fVal v84_93 fun v => some (.ret v, m))))))) (fun v m => some (.pan v, m)))) (fun v m => some (.pan v, m))) (k0 (mpick (.bool false) undef (.bool false)) fun v81_94 => (kb v81_94 (kc (call base 15 [] m) (fun v83_95 m => (k0 (mpick (.bool true) v83_95 (.bool false)) fun v84_96 => (fVal v84_96 fun v => some (.ret v, m)))) (fun v m => some (.pan v, m))) (k0 (mpick (.bool false) undef (.bool false)) fun v84_97 => (fVal v84_97 fun v => some (.ret v, m)))))))))) (fun v m => some (.pan v, m)))) (fun v m => some (.pan v, m))))))))))) (fun v m => some (.pan v, m)))))) (fun v m => some (.pan v, m)))))) (fun v m => some (.pan v, m)))
def keep7 : Keep := { region := fun i => ([[0, 1, 2, 3], [0, 1, 2, 3, 15], [8], [0, 1, 2, 3, 9, 10], [0, 1, 2, 3, 9, 10, 11, 12], [0, 1, 2, 3, 9, 10, 11, 12, 36], [8], [8]] : List (List Nat))[i]?, exit := fun i => ([] : List (List Nat))[i]?, ret := some [8] }
noncomputable def lp7 (call : CallF) (fuel base : Nat) : Lp := lpsel []
noncomputable def c7 : Code := Try.f7.body.getD .skip
theorem r7_eq (call : CallF) (fuel base : Nat) (x0 : Value) (x1 : Value) (x2 : Value) (x3 : Value) (m : M) : kbody E call keep7 (lp7 call fuel base) base Try.f7 [x0, x1, x2, x3] m = r7 call fuel base x0 x1 x2 x3 m := by
  kernel_rfl
noncomputable def rf7 : RF := fun call fuel base args m => match args with
  | [x0, x1, x2, x3] => r7 call fuel base x0 x1 x2 x3 m
  | _ => none
theorem r7_lk (call : CallF) (fuel base : Nat) : LoopsOk E call (lp7 call fuel base) fuel base 0 c7 = (And True (And (And True (And (And True True) True)) (And True (And True (And (And True (And (And True True) True)) (And True True)))))) := by kernel_rfl
theorem r7_fn : E.P.funcs[7]? = some Try.f7 := by kernel_rfl
theorem r7_body : Try.f7.body = some c7 := by kernel_rfl
theorem rf7_ok : RFok E 7 rf7 := by
  refine ⟨Try.f7, r7_fn, fun call fuel base args m r _ h => ?_⟩
  unfold rf7 at h
  split at h
  · rw [← r7_eq] at h
    exact kbody_sound (c := c7) r7_body (Eq.mpr (r7_lk call fuel base) (And.intro trivial (And.intro (And.intro trivial (And.intro (And.intro trivial trivial) trivial)) (And.intro trivial (And.intro trivial (And.intro (And.intro trivial (And.intro (And.intro trivial trivial) trivial)) (And.intro trivial trivial))))))) h
  · simp at h
end Go.AM
