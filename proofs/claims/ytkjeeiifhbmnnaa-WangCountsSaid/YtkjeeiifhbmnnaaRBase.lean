import Derived.KernelRfl
import Derived.Laws.BytesArg
import Derived.Laws.StructEq
import Derived.Test.YtkjeeiifhbmnnaaRows
import Derived.WalkKit
import Derived.Test.YtkjeeiifhbmnnaaAmB
import Derived.Test.YtkjeeiifhbmnnaaAmModel
import Derived.Test.YtkjeeiifhbmnnaaAmOps5
import Derived.Test.YtkjeeiifhbmnnaaAmOps6
import Derived.Test.YtkjeeiifhbmnnaaAmCode
import Derived.Test.YtkjeeiifhbmnnaaAmX
import Derived.Test.YtkjeeiifhbmnnaaAmEq
set_option linter.unusedVariables false
set_option linter.unusedSimpArgs false
set_option linter.unusedSectionVars false
namespace Go.AM
open Go Go.Proofs
def seqL : Code → Code | .seq a _ => a | _ => .skip
def seqR : Code → Code | .seq _ a => a | _ => .skip
def blockB : Code → Code | .block _ a => a | _ => .skip
def loopB : Code → Code | .loop a => a | _ => .skip
noncomputable def E : Env where
  P := Try.prog
  pure := fun f => [15,16,17,18,21,24,25,28,29,30,31,32,33,36,37,40,42,47,48,49,50,51,52,53,55,56,58,59,60,62,63,64,66,68,69,72,73,76,80,81,82,84,85,86,87,88,90,91,93,94,95,97,99,100,101,102,111,112,113,114,115,116,120,121,129,132,133,135].contains f
  eqt := fun t => if t == 45 then [0, 2, 4, 6] else if t == 44 then [0, 2, 4, 6] else []
  live := fun _ _ => none
def fieldSum (P : Program) (t : TypeId) : List (Nat × Nat × Bool) := (P.fieldsOf t).toList.map fun f => (f.type, f.offset, f.name == "_")
theorem flat_of {P : Program} {t : TypeId} {l : List (Nat × Nat × Bool)} {k : IntKind} (h1 : P.underlying t = some (.struct (P.fieldsOf t))) (h2 : P.stoodInHeld t = false) (h3 : P.eqGuardType P.depth t = false)
    (h3' : P.underlying 3 = some (.int k)) (h4' : P.underlying 4 = some .bool) (h4 : fieldSum P t = l) (h5 : ∀ q ∈ l, (q.1 = 3 ∨ q.1 = 4) ∧ q.2.2 = false) : flatFields P t (l.map fun q => 2 * q.2.1 + (if q.1 = 4 then 1 else 0)) := by
  have b3 : isBoolT P 3 = 0 := by unfold isBoolT; rw [h3']
  have b4 : isBoolT P 4 = 1 := by unfold isBoolT; rw [h4']
  have hq : ∀ f ∈ (P.fieldsOf t).toList, ((f.type = 3 ∨ f.type = 4) ∧ (f.name == "_") = false) := fun f hf =>
    h5 (f.type, f.offset, f.name == "_") (by rw [← h4]; exact List.mem_map.2 ⟨f, hf, rfl⟩)
  refine ⟨⟨h1, h2, h3⟩, ?_, fun f hf => ?_⟩
  · rw [← h4]
    unfold fieldSum
    rw [List.map_map]
    refine List.map_congr_left fun f hf => ?_
    rcases (hq f hf).1 with e | e
    · simp [e, b3]
    · simp [e, b4]
  · obtain ⟨e1, e2⟩ := hq f hf
    simp only [beq_eq_false_iff_ne] at e2
    refine ⟨?_, e2⟩
    rcases e1 with e | e
    · exact .inl ⟨⟨k, by rw [e]; exact h3'⟩, by rw [e]; exact b3⟩
    · exact .inr ⟨by rw [e]; exact h4', by rw [e]; exact b4⟩
theorem u3 : Try.prog.underlying 3 = some (.int .i64) := by kernel_rfl
theorem u4 : Try.prog.underlying 4 = some .bool := by kernel_rfl
theorem fl45 : flatFields Try.prog 45 [0, 2, 4, 6] := flat_of (l := [(3,0,false),(3,1,false),(3,2,false),(3,3,false)]) (by kernel_rfl) (by kernel_rfl) (by kernel_rfl) u3 u4 (by kernel_rfl) (by simp)
theorem fl44 : flatFields Try.prog 44 [0, 2, 4, 6] := flat_of (l := [(3,0,false),(3,1,false),(3,2,false),(3,3,false)]) (by kernel_rfl) (by kernel_rfl) (by kernel_rfl) u3 u4 (by kernel_rfl) (by simp)
theorem nogAll : (Try.prog.funcs.toList.all fun fn => !(fn.body.isSome && fn.name == "runtime.NumGoroutine")) = true := by kernel_rfl
theorem E_good : E.Good where
  eqt := by
    intro t xs ys r w x y hne hc
    have ht : t = 45 ∨ t = 44 := by
      unfold E at hne
      simp only [beq_iff_eq] at hne
      by_cases h1 : t = 45
      · exact .inl h1
      by_cases h2 : t = 44
      · exact .inr h2
      simp [h1, h2] at hne
    rcases ht with rfl | rfl
    · exact eqt_flat fl45 w x y hc
    · exact eqt_flat fl44 w x y hc
  nog := by
    intro f fn hf hb
    have h := List.all_eq_true.1 nogAll fn (Array.mem_toList_iff.2 (Array.mem_of_getElem? hf))
    simpa [hb] using h
theorem E_mix : E.P.follows .mixedOrders = true := by kernel_rfl
end Go.AM
namespace Go.AM
open Go Go.Proofs
noncomputable def r8 (call : CallF) (fuel base : Nat) (x0 : Value) (x1 : Value) (x2 : Value) (m : M) : Res2 :=
  (k2 (vcall E.P base m .len [22] [x0]) fun v15_1 m => (k1 (mbin E .gtr 3 v15_1 (.int .i64 40)) fun v16_2 => (kb v16_2 (kc (call base 16 [] m) (fun v30_3 m => (fVal v30_3 fun v => some (.ret v, m))) (fun v m => some (.pan v, m))) (kc (call base 30 [x0, x1, x2] m) (fun v21_4 m => (k1 (mbin E .eql 26 v21_4 (.int .i64 0)) fun v22_5 => (kbu v22_5 (kc (call base 31 [x0, x1] m) (fun v26_6 m => (k1 (mbin E .gtr 3 v26_6 (.int .i64 60000)) fun v27_7 => (kb v27_7 (kc (call base 16 [] m) (fun v30_8 m => (fVal v30_8 fun v => some (.ret v, m))) (fun v m => some (.pan v, m))) (k2 (xbuildSlice E.P m 22 0 []) fun v31_9 m => (k2 (vcall E.P base m .append [22, 22] [v31_9, x0]) fun v33_10 m => (kc (call base 32 [v33_10, x1, x2] m) (fun v38_11 m => (k1 (mextract 0 v38_11) fun v39_12 => (k1 (mextract 1 v38_11) fun v40_13 => (kc (call base 33 [x0, x1, x2] m) (fun v45_14 m => (k1 (mextract 0 v45_14) fun v46_15 => (k1 (mextract 1 v45_14) fun v47_16 => (k1 (mbin E .neq 3 v39_12 v46_15) fun v50_17 => (kb v50_17 (fVal (.bool false) fun v => some (.ret v, m)) (k1 (mbin E .neq 26 v40_13 v47_16) fun v54_18 => (kb v54_18 (fVal (.bool false) fun v => some (.ret v, m)) (kc (call base 34 [v33_10, x1, x2] m) (fun v60_19 m => (k1 (mextract 0 v60_19) fun v61_20 => (k1 (mextract 1 v60_19) fun v62_21 => (kc (call base 35 [x0, x1, x2] m) (fun v67_22 m => (k1 (mextract 0 v67_22) fun v68_23 => (k1 (mextract 1 v67_22) fun v69_24 => (k1 (mbin E .eql 26 v62_21 v69_24) fun v72_25 => (kb v72_25 (kc (call base 36 [v61_20, v68_23] m) (fun v76_26 m => (kb v76_26 (kc (call base 21 [v33_10, x0] m) (fun v81_27 m => (kb v81_27 (kc (call base 16 [] m) (fun v84_28 m => (fVal v84_28 fun v => some (.ret v, m))) (fun v m => some (.pan v, m))) (fVal (.bool false) fun v => some (.ret v, m)))) (fun v m => some (.pan v, m))) (fVal (.bool false) fun v => some (.ret v, m)))) (fun v m => some (.pan v, m))) (fVal (.bool false) fun v => some (.ret v, m))))))) (fun v m => some (.pan v, m)))))) (fun v m => some (.pan v, m)))))))))) (fun v m => some (.pan v, m)))))) (fun v m => some (.pan v, m)))))))) (fun v m => some (.pan v, m))) (k2 (xbuildSlice E.P m 22 0 []) fun v31_29 m => (k2 (vcall E.P base m .append [22, 22] [v31_29, x0]) fun v33_30 m => (kc (call base 32 [v33_30, x1, x2] m) (fun v38_31 m => (k1 (mextract 0 v38_31) fun v39_32 => (k1 (mextract 1 v38_31) fun v40_33 => (kc (call base 33 [x0, x1, x2] m) (fun v45_34 m => (k1 (mextract 0 v45_34) fun v46_35 => (k1 (mextract 1 v45_34) fun v47_36 => (k1 (mbin E .neq 3 v39_32 v46_35) fun v50_37 => (kb v50_37 (fVal (.bool false) fun v => some (.ret v, m)) (k1 (mbin E .neq 26 v40_33 v47_36) fun v54_38 => (kb v54_38 (fVal (.bool false) fun v => some (.ret v, m)) (kc (call base 34 [v33_30, x1, x2] m) (fun v60_39 m => (k1 (mextract 0 v60_39) fun v61_40 => (k1 (mextract 1 v60_39) fun v62_41 => (kc (call base 35 [x0, x1, x2] m) (fun v67_42 m => (k1 (mextract 0 v67_42) fun v68_43 => (k1 (mextract 1 v67_42) fun v69_44 => (k1 (mbin E .eql 26 v62_41 v69_44) fun v72_45 => (kb v72_45 (kc (call base 36 [v61_40, v68_43] m) (fun v76_46 m => (kb v76_46 (kc (call base 21 [v33_30, x0] m) (fun v81_47 m => (kb v81_47 (kc (call base 16 [] m) (fun v84_48 m => (fVal v84_48 fun v => some (.ret v, m))) (fun v m => some (.pan v, m))) (fVal (.bool false) fun v => some (.ret v, m)))) (fun v m => some (.pan v, m))) (fVal (.bool false) fun v => some (.ret v, m)))) (fun v m => some (.pan v, m))) (fVal (.bool false) fun v => some (.ret v, m))))))) (fun v m => some (.pan v, m)))))) (fun v m => some (.pan v, m)))))))))) (fun v m => some (.pan v, m)))))) (fun v m => some (.pan v, m))))) (k0 (mpick undef undef (.bool false)) fun v28_49 => (kb v28_49 (kc (call base 16 [] m) (fun v30_50 m => (fVal v30_50 fun v => some (.ret v, m))) (fun v m => some (.pan v, m))) (k2 (xbuildSlice E.P m 22 0 []) fun v31_51 m => (k2 (vcall E.P base m .append [22, 22] [v31_51, x0]) fun v33_52 m => (kc (call base 32 [v33_52, x1, x2] m) (fun v38_53 m => (k1 (mextract 0 v38_53) fun v39_54 => (k1 (mextract 1 v38_53) fun v40_55 => (kc (call base 33 [x0, x1, x2] m) (fun v45_56 m => (k1 (mextract 0 v45_56) fun v46_57 => (k1 (mextract 1 v45_56) fun v47_58 => (k1 (mbin E .neq 3 v39_54 v46_57) fun v50_59 => (kb v50_59 (fVal (.bool false) fun v => some (.ret v, m)) (k1 (mbin E .neq 26 v40_55 v47_58) fun v54_60 => (kb v54_60 (fVal (.bool false) fun v => some (.ret v, m)) (kc (call base 34 [v33_52, x1, x2] m) (fun v60_61 m => (k1 (mextract 0 v60_61) fun v61_62 => (k1 (mextract 1 v60_61) fun v62_63 => (kc (call base 35 [x0, x1, x2] m) (fun v67_64 m => (k1 (mextract 0 v67_64) fun v68_65 => (k1 (mextract 1 v67_64) fun v69_66 => (k1 (mbin E .eql 26 v62_63 v69_66) fun v72_67 => (kb v72_67 (kc (call base 36 [v61_62, v68_65] m) (fun v76_68 m => (kb v76_68 (kc (call base 21 [v33_52, x0] m) (fun v81_69 m => (kb v81_69 (kc (call base 16 [] m) (fun v84_70 m => (fVal v84_70 fun v => some (.ret v, m))) (fun v m => some (.pan v, m))) (fVal (.bool false) fun v => some (.ret v, m)))) (fun v m => some (.pan v, m))) (fVal (.bool false) fun v => some (.ret v, m)))) (fun v m => some (.pan v, m))) (fVal (.bool false) fun v => some (.ret v, m))))))) (fun v m => some (.pan v, m)))))) (fun v m => some (.pan v, m)))))))))) (fun v m => some (.pan v, m)))))) (fun v m => some (.pan v, m)))))))))) (fun v m => some (.pan v, m))))))
def keep8 : Keep := { region := fun i => ([[0, 1, 2], [0, 1, 2, 29], [6], [0, 1, 2, 7], [0, 1, 2, 7, 8, 9], [0, 1, 2, 7, 8, 9, 10, 11], [0, 1, 2, 7, 55], [6], [0, 1, 2, 7, 9, 12], [0, 7, 9, 11, 12, 13], [6]] : List (List Nat))[i]?, exit := fun i => ([] : List (List Nat))[i]?, ret := some [6] }
noncomputable def lp8 (call : CallF) (fuel base : Nat) : Lp := lpsel []
noncomputable def c8 : Code := Try.f8.body.getD .skip
theorem r8_eq (call : CallF) (fuel base : Nat) (x0 : Value) (x1 : Value) (x2 : Value) (m : M) : kbody E call keep8 (lp8 call fuel base) base Try.f8 [x0, x1, x2] m = r8 call fuel base x0 x1 x2 m := by
  kernel_rfl
noncomputable def rf8 : RF := fun call fuel base args m => match args with
  | [x0, x1, x2] => r8 call fuel base x0 x1 x2 m
  | _ => none
theorem r8_lk (call : CallF) (fuel base : Nat) : LoopsOk E call (lp8 call fuel base) fuel base 0 c8 = (And True (And (And True (And (And True True) True)) (And True (And True (And True (And (And True (And (And True True) True)) (And True (And True (And True True))))))))) := by kernel_rfl
theorem r8_fn : E.P.funcs[8]? = some Try.f8 := by kernel_rfl
theorem r8_body : Try.f8.body = some c8 := by kernel_rfl
theorem rf8_ok : RFok E 8 rf8 := by
  refine ⟨Try.f8, r8_fn, fun call fuel base args m r _ h => ?_⟩
  unfold rf8 at h
  split at h
  · rw [← r8_eq] at h
    exact kbody_sound (c := c8) r8_body (Eq.mpr (r8_lk call fuel base) (And.intro trivial (And.intro (And.intro trivial (And.intro (And.intro trivial trivial) trivial)) (And.intro trivial (And.intro trivial (And.intro trivial (And.intro (And.intro trivial (And.intro (And.intro trivial trivial) trivial)) (And.intro trivial (And.intro trivial (And.intro trivial trivial)))))))))) h
  · simp at h
end Go.AM
namespace Go.AM
open Go Go.Proofs
noncomputable def r16 (call : CallF) (fuel base : Nat) (m : M) : Res2 :=
  (k1 (mbuild E.P 45 []) fun v9_1 => (k1 (mbuild E.P 45 [(0, (.int .i64 1)), (2, (.int .i64 1))]) fun v10_2 => (k2 (xbuildSlice E.P m 22 2 [(0, v9_1), (1, v10_2)]) fun v11_3 m => (kc (call base 32 [v11_3, (.int .i64 2), (.int .i64 3)] m) (fun v12_4 m => (k1 (mextract 0 v12_4) fun v13_5 => (k1 (mextract 1 v12_4) fun v14_6 => (k1 (mbuild E.P 45 [(2, (.int .i64 1))]) fun v15_7 => (k2 (xbuildSlice E.P m 22 1 [(0, v15_7)]) fun v16_8 m => (k2 (xbuildSlice E.P m 33 2 [(0, (.int .i64 1)), (1, (.int .i64 1))]) fun v19_9 m => (k2 (xbuildSlice E.P m 23 1 [(0, v19_9)]) fun v20_10 m => (kc (call base 28 [v16_8, (.int .i64 1), (.int .i64 2), v20_10] m) (fun v21_11 m => (k1 (mextract 0 v21_11) fun v22_12 => (k1 (mextract 1 v21_11) fun v23_13 => (kc (call base 41 [v16_8, (.int .i64 1), (.int .i64 2)] m) (fun v26_14 m => (k1 (mextract 0 v26_14) fun v27_15 => (k1 (mextract 1 v26_14) fun v28_16 => (k1 (mbin E .eql 26 v14_6 (.int .i64 0)) fun v30_17 => (kb v30_17 (k1 (mbin E .eql 3 v13_5 (.int .i64 4)) fun v33_18 => (kb v33_18 (k1 (mbin E .eql 26 v23_13 (.int .i64 0)) fun v37_19 => (kb v37_19 (kb v22_12 (k1 (mbin E .eql 26 v28_16 (.int .i64 0)) fun v44_20 => (kb v44_20 (k2 (vcall E.P base m .len [23] [v27_15]) fun v48_21 m => (k1 (mbin E .geq 3 v48_21 (.int .i64 1)) fun v49_22 => (fVal v49_22 fun v => some (.ret v, m)))) (fVal (.bool false) fun v => some (.ret v, m)))) (fVal (.bool false) fun v => some (.ret v, m))) (fVal (.bool false) fun v => some (.ret v, m)))) (fVal (.bool false) fun v => some (.ret v, m)))) (fVal (.bool false) fun v => some (.ret v, m))))))) (fun v m => some (.pan v, m)))))) (fun v m => some (.pan v, m)))))))))) (fun v m => some (.pan v, m))))))
def keep16 : Keep := { region := fun i => ([[], [1, 2], [1, 2, 3], [1, 2, 3, 4, 5], [1, 2, 4, 5, 6, 7], [0]] : List (List Nat))[i]?, exit := fun i => ([] : List (List Nat))[i]?, ret := some [0] }
noncomputable def lp16 (call : CallF) (fuel base : Nat) : Lp := lpsel []
noncomputable def c16 : Code := Try.f16.body.getD .skip
theorem r16_eq (call : CallF) (fuel base : Nat) (m : M) : kbody E call keep16 (lp16 call fuel base) base Try.f16 [] m = r16 call fuel base  m := by
  kernel_rfl
noncomputable def rf16 : RF := fun call fuel base args m => match args with
  | [] => r16 call fuel base  m
  | _ => none
theorem r16_lk (call : CallF) (fuel base : Nat) : LoopsOk E call (lp16 call fuel base) fuel base 0 c16 = (And True (And True (And True (And True (And True (And True True)))))) := by kernel_rfl
theorem r16_fn : E.P.funcs[16]? = some Try.f16 := by kernel_rfl
theorem r16_body : Try.f16.body = some c16 := by kernel_rfl
theorem rf16_ok : RFok E 16 rf16 := by
  refine ⟨Try.f16, r16_fn, fun call fuel base args m r _ h => ?_⟩
  unfold rf16 at h
  split at h
  · rw [← r16_eq] at h
    exact kbody_sound (c := c16) r16_body (Eq.mpr (r16_lk call fuel base) (And.intro trivial (And.intro trivial (And.intro trivial (And.intro trivial (And.intro trivial (And.intro trivial trivial))))))) h
  · simp at h
end Go.AM
namespace Go.AM
open Go Go.Proofs
noncomputable def r21_L0 (call : CallF) (fuel base : Nat) (kr : Value → M → Res2) (kx0 : M → Res2) (n : Nat) : Value → Value → Value → M → Res2 :=
  Nat.rec (motive := fun _ => Value → Value → Value → M → Res2) (fun _ _ _ _ => none)
    (fun _ ih x0 x1 x5 m =>
      (k2 (vcall E.P base m .len [22] [x0]) fun v13_4 m => (k1 (mbin E .lss 3 x5 v13_4) fun v14_5 => (kb v14_5 (k1 (mindexAddr E.P 22 x0 x5) fun v19_6 => (k1 (xload E.P m 45 v19_6) fun v20_7 => (k1 (mindexAddr E.P 22 x1 x5) fun v23_8 => (k1 (xload E.P m 45 v23_8) fun v24_9 => (k1 (mbin E .neq 45 v20_7 v24_9) fun v25_10 => (kb v25_10 (kr (.bool false) m) (k1 (mbin E .add 3 x5 (.int .i64 1)) fun v16_11 => (ih x0 x1 v16_11 m)))))))) (kx0 m))))) n
noncomputable def r21 (call : CallF) (fuel base : Nat) (x0 : Value) (x1 : Value) (m : M) : Res2 :=
  (k2 (vcall E.P base m .len [22] [x0]) fun v7_1 m => (k2 (vcall E.P base m .len [22] [x1]) fun v9_2 m => (k1 (mbin E .neq 3 v7_1 v9_2) fun v10_3 => (kb v10_3 (fVal (.bool false) fun v => some (.ret v, m)) (r21_L0 call fuel base (fun y4_12 m => (fVal y4_12 fun v => some (.ret v, m))) (fun m => (fVal (.bool true) fun v => some (.ret v, m))) fuel x0 x1 (.int .i64 0) m)))))
def keep21 : Keep := { region := fun i => ([[0, 1], [0, 1, 10], [4], [0, 1, 5], [0, 1, 5, 14], [0, 1, 5], [0, 1, 5, 25], [4], [4]] : List (List Nat))[i]?, exit := fun i => ([[], [0, 1, 5]] : List (List Nat))[i]?, ret := some [4] }
noncomputable def r21_L0_R (call : CallF) (fuel base n : Nat) (vs : List Value) (m : M) (K : KT) : Res2 := match vs with
  | [x0, x1, x5] => r21_L0 call fuel base (fun y4 m => K .ret { n := 26, l := [(4, y4)] } m) (fun m => K (.exit 0) { n := 26, l := [] } m) n x0 x1 x5 m
  | _ => none
noncomputable def lp21 (call : CallF) (fuel base : Nat) : Lp := lpsel [(0, fun T m K => kslots 26 [0, 1, 5] T fun vs => r21_L0_R call fuel base fuel vs m K)]
noncomputable def c21 : Code := Try.f21.body.getD .skip
theorem r21_L0_lk (call : CallF) (fuel base : Nat) : LoopsOk E call (lp21 call fuel base) fuel base 0 (loopB (blockB (seqR (seqL (seqR (seqR c21)))))) = (And (And True (And True True)) (And (And True (And (And True True) True)) True)) := by kernel_rfl
theorem r21_L0_ok (call : CallF) (fuel base : Nat) : LpOk E call (lp21 call fuel base) fuel base 0 (loopB (blockB (seqR (seqL (seqR (seqR c21)))))) := by
  refine loop_ok (kp := keep21) (hb := Eq.mpr (r21_L0_lk call fuel base) (And.intro (And.intro trivial (And.intro trivial trivial)) (And.intro (And.intro trivial (And.intro (And.intro trivial trivial) trivial)) trivial))) 26 [0, 1, 5] (fun n vs m K => r21_L0_R call fuel base n vs m K) ?_ ?_ (fun _ _ _ => rfl)
  · intro vs m K
    unfold r21_L0_R
    split <;> rfl
  · intro n vs m K hl
    match vs, hl with
    | [x0, x1, x5], _ => show _ = _; kernel_rfl
theorem r21_eq (call : CallF) (fuel base : Nat) (x0 : Value) (x1 : Value) (m : M) : kbody E call keep21 (lp21 call fuel base) base Try.f21 [x0, x1] m = r21 call fuel base x0 x1 m := by
  kernel_rfl
noncomputable def rf21 : RF := fun call fuel base args m => match args with
  | [x0, x1] => r21 call fuel base x0 x1 m
  | _ => none
theorem r21_lk (call : CallF) (fuel base : Nat) : LoopsOk E call (lp21 call fuel base) fuel base 0 c21 = (And True (And (And True (And (And True True) True)) (And (And True (LpOk E call (lp21 call fuel base) fuel base 0 (loopB (blockB (seqR (seqL (seqR (seqR c21)))))))) (And True True)))) := by kernel_rfl
theorem r21_fn : E.P.funcs[21]? = some Try.f21 := by kernel_rfl
theorem r21_body : Try.f21.body = some c21 := by kernel_rfl
theorem rf21_ok : RFok E 21 rf21 := by
  refine ⟨Try.f21, r21_fn, fun call fuel base args m r _ h => ?_⟩
  unfold rf21 at h
  split at h
  · rw [← r21_eq] at h
    exact kbody_sound (c := c21) r21_body (Eq.mpr (r21_lk call fuel base) (And.intro trivial (And.intro (And.intro trivial (And.intro (And.intro trivial trivial) trivial)) (And.intro (And.intro trivial (r21_L0_ok call fuel base)) (And.intro trivial trivial))))) h
  · simp at h
end Go.AM
namespace Go.AM
open Go Go.Proofs
noncomputable def r24_L0 (call : CallF) (fuel base : Nat) (kr : Value → M → Res2) (kx0 : M → Res2) (n : Nat) : Value → Value → Value → M → Res2 :=
  Nat.rec (motive := fun _ => Value → Value → Value → M → Res2) (fun _ _ _ _ => none)
    (fun _ ih x0 x1 x5 m =>
      (k2 (vcall E.P base m .len [33] [x0]) fun v13_4 m => (k1 (mbin E .lss 3 x5 v13_4) fun v14_5 => (kb v14_5 (k1 (mindexAddr E.P 33 x0 x5) fun v19_6 => (k1 (xload E.P m 3 v19_6) fun v20_7 => (k1 (mindexAddr E.P 33 x1 x5) fun v23_8 => (k1 (xload E.P m 3 v23_8) fun v24_9 => (k1 (mbin E .neq 3 v20_7 v24_9) fun v25_10 => (kb v25_10 (kr (.bool false) m) (k1 (mbin E .add 3 x5 (.int .i64 1)) fun v16_11 => (ih x0 x1 v16_11 m)))))))) (kx0 m))))) n
noncomputable def r24 (call : CallF) (fuel base : Nat) (x0 : Value) (x1 : Value) (m : M) : Res2 :=
  (k2 (vcall E.P base m .len [33] [x0]) fun v7_1 m => (k2 (vcall E.P base m .len [33] [x1]) fun v9_2 m => (k1 (mbin E .neq 3 v7_1 v9_2) fun v10_3 => (kb v10_3 (fVal (.bool false) fun v => some (.ret v, m)) (r24_L0 call fuel base (fun y4_12 m => (fVal y4_12 fun v => some (.ret v, m))) (fun m => (fVal (.bool true) fun v => some (.ret v, m))) fuel x0 x1 (.int .i64 0) m)))))
def keep24 : Keep := { region := fun i => ([[0, 1], [0, 1, 10], [4], [0, 1, 5], [0, 1, 5, 14], [0, 1, 5], [0, 1, 5, 25], [4], [4]] : List (List Nat))[i]?, exit := fun i => ([[], [0, 1, 5]] : List (List Nat))[i]?, ret := some [4] }
noncomputable def r24_L0_R (call : CallF) (fuel base n : Nat) (vs : List Value) (m : M) (K : KT) : Res2 := match vs with
  | [x0, x1, x5] => r24_L0 call fuel base (fun y4 m => K .ret { n := 26, l := [(4, y4)] } m) (fun m => K (.exit 0) { n := 26, l := [] } m) n x0 x1 x5 m
  | _ => none
noncomputable def lp24 (call : CallF) (fuel base : Nat) : Lp := lpsel [(0, fun T m K => kslots 26 [0, 1, 5] T fun vs => r24_L0_R call fuel base fuel vs m K)]
noncomputable def c24 : Code := Try.f24.body.getD .skip
theorem r24_L0_lk (call : CallF) (fuel base : Nat) : LoopsOk E call (lp24 call fuel base) fuel base 0 (loopB (blockB (seqR (seqL (seqR (seqR c24)))))) = (And (And True (And True True)) (And (And True (And (And True True) True)) True)) := by kernel_rfl
theorem r24_L0_ok (call : CallF) (fuel base : Nat) : LpOk E call (lp24 call fuel base) fuel base 0 (loopB (blockB (seqR (seqL (seqR (seqR c24)))))) := by
  refine loop_ok (kp := keep24) (hb := Eq.mpr (r24_L0_lk call fuel base) (And.intro (And.intro trivial (And.intro trivial trivial)) (And.intro (And.intro trivial (And.intro (And.intro trivial trivial) trivial)) trivial))) 26 [0, 1, 5] (fun n vs m K => r24_L0_R call fuel base n vs m K) ?_ ?_ (fun _ _ _ => rfl)
  · intro vs m K
    unfold r24_L0_R
    split <;> rfl
  · intro n vs m K hl
    match vs, hl with
    | [x0, x1, x5], _ => show _ = _; kernel_rfl
theorem r24_eq (call : CallF) (fuel base : Nat) (x0 : Value) (x1 : Value) (m : M) : kbody E call keep24 (lp24 call fuel base) base Try.f24 [x0, x1] m = r24 call fuel base x0 x1 m := by
  kernel_rfl
noncomputable def rf24 : RF := fun call fuel base args m => match args with
  | [x0, x1] => r24 call fuel base x0 x1 m
  | _ => none
theorem r24_lk (call : CallF) (fuel base : Nat) : LoopsOk E call (lp24 call fuel base) fuel base 0 c24 = (And True (And (And True (And (And True True) True)) (And (And True (LpOk E call (lp24 call fuel base) fuel base 0 (loopB (blockB (seqR (seqL (seqR (seqR c24)))))))) (And True True)))) := by kernel_rfl
theorem r24_fn : E.P.funcs[24]? = some Try.f24 := by kernel_rfl
theorem r24_body : Try.f24.body = some c24 := by kernel_rfl
theorem rf24_ok : RFok E 24 rf24 := by
  refine ⟨Try.f24, r24_fn, fun call fuel base args m r _ h => ?_⟩
  unfold rf24 at h
  split at h
  · rw [← r24_eq] at h
    exact kbody_sound (c := c24) r24_body (Eq.mpr (r24_lk call fuel base) (And.intro trivial (And.intro (And.intro trivial (And.intro (And.intro trivial trivial) trivial)) (And.intro (And.intro trivial (r24_L0_ok call fuel base)) (And.intro trivial trivial))))) h
  · simp at h
end Go.AM
namespace Go.AM
open Go Go.Proofs
noncomputable def r25_L2 (call : CallF) (fuel base : Nat) (kr : Value → M → Res2) (kx2 : Value → Value → M → Res2) (n : Nat) : Value → Value → Value → Value → M → Res2 :=
  Nat.rec (motive := fun _ => Value → Value → Value → Value → M → Res2) (fun _ _ _ _ _ => none)
    (fun _ ih x0 x3 x4 x5 m =>
      (k1 (mbin E .lss 3 x5 x3) fun v48_26 => (kb v48_26 (k1 (mindexAddr E.P 22 x0 x5) fun v53_27 => (k1 (xload E.P m 45 v53_27) fun v54_28 => (k1 (xload E.P m 45 x4) fun v55_29 => (k1 (mbin E .eql 45 v54_28 v55_29) fun v56_30 => (kb v56_30 (kr (.bool false) m) (k1 (mbin E .add 3 x5 (.int .i64 1)) fun v50_31 => (ih x0 x3 x4 v50_31 m))))))) (kx2 x0 x3 m)))) n
noncomputable def r25_L0 (call : CallF) (fuel base : Nat) (kp : Value → M → Res2) (kr : Value → M → Res2) (kx0 : M → Res2) (n : Nat) : Value → Value → M → Res2 :=
  Nat.rec (motive := fun _ => Value → Value → M → Res2) (fun _ _ _ => none)
    (fun _ ih x0 x3 m =>
      (k2 (vcall E.P base m .len [22] [x0]) fun v16_5 m => (k1 (mbin E .lss 3 x3 v16_5) fun v17_6 => (kb v17_6 (k1 (mindexAddr E.P 22 x0 x3) fun v22_7 => (k1 (xload E.P m 45 v22_7) fun v23_8 => (k2 (xalloc E.P m 45) fun v4_9 m => (ks (xstore E.P base m 45 v4_9 v23_8) fun m => (k1 (mfieldAddr E.P 45 v4_9 0) fun v24_10 => (k1 (xload E.P m 3 v24_10) fun v25_11 => (kc (call base 58 [v25_11] m) (fun v26_12 m => (k1 (mun .not v26_12) fun v27_13 => (kb v27_13 (kr (.bool false) m) (k1 (mfieldAddr E.P 45 v4_9 1) fun v29_14 => (k1 (xload E.P m 3 v29_14) fun v30_15 => (kc (call base 58 [v30_15] m) (fun v31_16 m => (k1 (mun .not v31_16) fun v32_17 => (kb v32_17 (kr (.bool false) m) (k1 (mfieldAddr E.P 45 v4_9 2) fun v35_18 => (k1 (xload E.P m 3 v35_18) fun v36_19 => (kc (call base 58 [v36_19] m) (fun v37_20 m => (k1 (mun .not v37_20) fun v38_21 => (kb v38_21 (kr (.bool false) m) (k1 (mfieldAddr E.P 45 v4_9 3) fun v41_22 => (k1 (xload E.P m 3 v41_22) fun v42_23 => (kc (call base 58 [v42_23] m) (fun v43_24 m => (k1 (mun .not v43_24) fun v44_25 => (kb v44_25 (kr (.bool false) m) (r25_L2 call fuel base (fun y2_32 m => (kr y2_32 m)) (fun y0_33 y3_34 m => (k1 (mbin E .add 3 y3_34 (.int .i64 1)) fun v19_35 => (ih y0_33 v19_35 m))) fuel x0 x3 v4_9 (.int .i64 0) m)))) (fun v m => kp v m))))))) (fun v m => kp v m))))))) (fun v m => kp v m))))))) (fun v m => kp v m)))))))) (kx0 m))))) n
noncomputable def r25 (call : CallF) (fuel base : Nat) (x0 : Value) (m : M) : Res2 :=
  (k2 (vcall E.P base m .len [22] [x0]) fun v7_1 m => (k1 (mbin E .lss 3 v7_1 (.int .i64 1)) fun v8_2 => (kb v8_2 (fVal (.bool false) fun v => some (.ret v, m)) (k2 (vcall E.P base m .len [22] [x0]) fun v11_3 m => (k1 (mbin E .gtr 3 v11_3 (.int .i64 16)) fun v12_4 => (kb v12_4 (fVal (.bool false) fun v => some (.ret v, m)) (r25_L0 call fuel base (fun v m => some (.pan v, m)) (fun y2_36 m => (fVal y2_36 fun v => some (.ret v, m))) (fun m => (fVal (.bool true) fun v => some (.ret v, m))) fuel x0 (.int .i64 0) m)))))))
def keep25 : Keep := { region := fun i => ([[0], [0, 13], [2], [0, 3], [0, 3, 17], [0, 3], [0, 3, 4], [0, 3, 4, 45], [2], [0, 3, 4, 5], [0, 3, 4, 5, 48], [0, 3, 4, 5], [0, 3, 4, 5, 56], [2], [2]] : List (List Nat))[i]?, exit := fun i => ([[], [0, 3], [0, 3], [0, 3, 4, 5]] : List (List Nat))[i]?, ret := some [2] }
noncomputable def r25_L2_R (call : CallF) (fuel base n : Nat) (vs : List Value) (m : M) (K : KT) : Res2 := match vs with
  | [x0, x3, x4, x5] => r25_L2 call fuel base (fun y2 m => K .ret { n := 57, l := [(2, y2)] } m) (fun y0 y3 m => K (.exit 2) { n := 57, l := [(0, y0), (3, y3)] } m) n x0 x3 x4 x5 m
  | _ => none
noncomputable def r25_L0_R (call : CallF) (fuel base n : Nat) (vs : List Value) (m : M) (K : KT) : Res2 := match vs with
  | [x0, x3] => r25_L0 call fuel base (fun v m => K (.pan v) { n := 57, l := [] } m) (fun y2 m => K .ret { n := 57, l := [(2, y2)] } m) (fun m => K (.exit 0) { n := 57, l := [] } m) n x0 x3 m
  | _ => none
noncomputable def lp25 (call : CallF) (fuel base : Nat) : Lp := lpsel [(2, fun T m K => kslots 57 [0, 3, 4, 5] T fun vs => r25_L2_R call fuel base fuel vs m K), (0, fun T m K => kslots 57 [0, 3] T fun vs => r25_L0_R call fuel base fuel vs m K)]
noncomputable def c25 : Code := Try.f25.body.getD .skip
theorem r25_L2_lk (call : CallF) (fuel base : Nat) : LoopsOk E call (lp25 call fuel base) fuel base 2 (loopB (blockB (seqR (seqR (seqR (blockB (seqL (seqR (loopB (blockB (seqR (seqL (seqR (seqR c25)))))))))))))) = (And (And True (And True True)) (And (And True (And (And True True) True)) True)) := by kernel_rfl
theorem r25_L2_ok (call : CallF) (fuel base : Nat) : LpOk E call (lp25 call fuel base) fuel base 2 (loopB (blockB (seqR (seqR (seqR (blockB (seqL (seqR (loopB (blockB (seqR (seqL (seqR (seqR c25)))))))))))))) := by
  refine loop_ok (kp := keep25) (hb := Eq.mpr (r25_L2_lk call fuel base) (And.intro (And.intro trivial (And.intro trivial trivial)) (And.intro (And.intro trivial (And.intro (And.intro trivial trivial) trivial)) trivial))) 57 [0, 3, 4, 5] (fun n vs m K => r25_L2_R call fuel base n vs m K) ?_ ?_ (fun _ _ _ => rfl)
  · intro vs m K
    unfold r25_L2_R
    split <;> rfl
  · intro n vs m K hl
    match vs, hl with
    | [x0, x3, x4, x5], _ => show _ = _; kernel_rfl
theorem r25_L0_lk (call : CallF) (fuel base : Nat) : LoopsOk E call (lp25 call fuel base) fuel base 0 (loopB (blockB (seqR (seqL (seqR (seqR c25)))))) = (And (And True (And True True)) (And (And True (And (And True (And (And True True) True)) (And True (LpOk E call (lp25 call fuel base) fuel base 2 (loopB (blockB (seqR (seqR (seqR (blockB (seqL (seqR (loopB (blockB (seqR (seqL (seqR (seqR c25)))))))))))))))))) True)) := by kernel_rfl
theorem r25_L0_ok (call : CallF) (fuel base : Nat) : LpOk E call (lp25 call fuel base) fuel base 0 (loopB (blockB (seqR (seqL (seqR (seqR c25)))))) := by
  refine loop_ok (kp := keep25) (hb := Eq.mpr (r25_L0_lk call fuel base) (And.intro (And.intro trivial (And.intro trivial trivial)) (And.intro (And.intro trivial (And.intro (And.intro trivial (And.intro (And.intro trivial trivial) trivial)) (And.intro trivial (r25_L2_ok call fuel base)))) trivial))) 57 [0, 3] (fun n vs m K => r25_L0_R call fuel base n vs m K) ?_ ?_ (fun _ _ _ => rfl)
  · intro vs m K
    unfold r25_L0_R
    split <;> rfl
  · intro n vs m K hl
    match vs, hl with
    | [x0, x3], _ => show _ = _; kernel_rfl
theorem r25_eq (call : CallF) (fuel base : Nat) (x0 : Value) (m : M) : kbody E call keep25 (lp25 call fuel base) base Try.f25 [x0] m = r25 call fuel base x0 m := by
  kernel_rfl
noncomputable def rf25 : RF := fun call fuel base args m => match args with
  | [x0] => r25 call fuel base x0 m
  | _ => none
theorem r25_lk (call : CallF) (fuel base : Nat) : LoopsOk E call (lp25 call fuel base) fuel base 0 c25 = (And True (And (And True (And (And True True) True)) (And (And True (LpOk E call (lp25 call fuel base) fuel base 0 (loopB (blockB (seqR (seqL (seqR (seqR c25)))))))) (And True True)))) := by kernel_rfl
theorem r25_fn : E.P.funcs[25]? = some Try.f25 := by kernel_rfl
theorem r25_body : Try.f25.body = some c25 := by kernel_rfl
theorem rf25_ok : RFok E 25 rf25 := by
  refine ⟨Try.f25, r25_fn, fun call fuel base args m r _ h => ?_⟩
  unfold rf25 at h
  split at h
  · rw [← r25_eq] at h
    exact kbody_sound (c := c25) r25_body (Eq.mpr (r25_lk call fuel base) (And.intro trivial (And.intro (And.intro trivial (And.intro (And.intro trivial trivial) trivial)) (And.intro (And.intro trivial (r25_L0_ok call fuel base)) (And.intro trivial trivial))))) h
  · simp at h
end Go.AM
namespace Go.AM
open Go Go.Proofs
noncomputable def r28 (call : CallF) (fuel base : Nat) (x0 : Value) (x1 : Value) (x2 : Value) (x3 : Value) (m : M) : Res2 :=
  (kc (call base 59 [x0, x1, x2] m) (fun v13_1 m => (k1 (mun .not v13_1) fun v14_2 => (kb v14_2 (some (.ret (.tuple #[(.bool false), (.int .i64 2)]), m)) (k2 (vcall E.P base m .len [23] [x3]) fun v16_3 m => (k1 (mbin E .gtr 3 v16_3 (.int .i64 65535)) fun v17_4 => (kb v17_4 (some (.ret (.tuple #[(.bool false), (.int .i64 3)]), m)) (kc (call base 60 [x3, x1, x2] m) (fun v21_5 m => (kb v21_5 (kc (call base 61 [x0, x1] m) (fun v25_6 m => (kc (call base 62 [v25_6, x3] m) (fun v27_7 m => (some (.ret (.tuple #[v27_7, (.int .i64 0)]), m))) (fun v m => some (.pan v, m)))) (fun v m => some (.pan v, m))) (some (.ret (.tuple #[(.bool false), (.int .i64 0)]), m)))) (fun v m => some (.pan v, m))))))))) (fun v m => some (.pan v, m)))
def keep28 : Keep := { region := fun i => ([[0, 1, 2, 3], [0, 1, 2, 3, 14], [8, 9], [0, 1, 2, 3, 17], [8, 9], [8, 9]] : List (List Nat))[i]?, exit := fun i => ([] : List (List Nat))[i]?, ret := some [8, 9] }
noncomputable def lp28 (call : CallF) (fuel base : Nat) : Lp := lpsel []
noncomputable def c28 : Code := Try.f28.body.getD .skip
theorem r28_eq (call : CallF) (fuel base : Nat) (x0 : Value) (x1 : Value) (x2 : Value) (x3 : Value) (m : M) : kbody E call keep28 (lp28 call fuel base) base Try.f28 [x0, x1, x2, x3] m = r28 call fuel base x0 x1 x2 x3 m := by
  kernel_rfl
noncomputable def rf28 : RF := fun call fuel base args m => match args with
  | [x0, x1, x2, x3] => r28 call fuel base x0 x1 x2 x3 m
  | _ => none
theorem r28_lk (call : CallF) (fuel base : Nat) : LoopsOk E call (lp28 call fuel base) fuel base 0 c28 = (And True (And (And True (And (And True True) True)) (And (And True (And (And True True) True)) (And True True)))) := by kernel_rfl
theorem r28_fn : E.P.funcs[28]? = some Try.f28 := by kernel_rfl
theorem r28_body : Try.f28.body = some c28 := by kernel_rfl
theorem rf28_ok : RFok E 28 rf28 := by
  refine ⟨Try.f28, r28_fn, fun call fuel base args m r _ h => ?_⟩
  unfold rf28 at h
  split at h
  · rw [← r28_eq] at h
    exact kbody_sound (c := c28) r28_body (Eq.mpr (r28_lk call fuel base) (And.intro trivial (And.intro (And.intro trivial (And.intro (And.intro trivial trivial) trivial)) (And.intro (And.intro trivial (And.intro (And.intro trivial trivial) trivial)) (And.intro trivial trivial))))) h
  · simp at h
end Go.AM
namespace Go.AM
open Go Go.Proofs
noncomputable def r30 (call : CallF) (fuel base : Nat) (x0 : Value) (x1 : Value) (x2 : Value) (m : M) : Res2 :=
  (kc (call base 25 [x0] m) (fun v8_1 m => (k1 (mun .not v8_1) fun v9_2 => (kb v9_2 (fVal (.int .i64 2) fun v => some (.ret v, m)) (kc (call base 52 [x1] m) (fun v12_3 m => (k1 (mun .not v12_3) fun v13_4 => (kb v13_4 (fVal (.int .i64 2) fun v => some (.ret v, m)) (kc (call base 52 [x2] m) (fun v17_5 m => (k1 (mun .not v17_5) fun v18_6 => (kb v18_6 (fVal (.int .i64 2) fun v => some (.ret v, m)) (fVal (.int .i64 0) fun v => some (.ret v, m))))) (fun v m => some (.pan v, m)))))) (fun v m => some (.pan v, m)))))) (fun v m => some (.pan v, m)))
def keep30 : Keep := { region := fun i => ([[0, 1, 2], [19], [6], [6]] : List (List Nat))[i]?, exit := fun i => ([] : List (List Nat))[i]?, ret := some [6] }
noncomputable def lp30 (call : CallF) (fuel base : Nat) : Lp := lpsel []
noncomputable def c30 : Code := Try.f30.body.getD .skip
theorem r30_eq (call : CallF) (fuel base : Nat) (x0 : Value) (x1 : Value) (x2 : Value) (m : M) : kbody E call keep30 (lp30 call fuel base) base Try.f30 [x0, x1, x2] m = r30 call fuel base x0 x1 x2 m := by
  kernel_rfl
noncomputable def rf30 : RF := fun call fuel base args m => match args with
  | [x0, x1, x2] => r30 call fuel base x0 x1 x2 m
  | _ => none
theorem r30_lk (call : CallF) (fuel base : Nat) : LoopsOk E call (lp30 call fuel base) fuel base 0 c30 = (And True (And (And True (And (And True True) True)) (And True True))) := by kernel_rfl
theorem r30_fn : E.P.funcs[30]? = some Try.f30 := by kernel_rfl
theorem r30_body : Try.f30.body = some c30 := by kernel_rfl
theorem rf30_ok : RFok E 30 rf30 := by
  refine ⟨Try.f30, r30_fn, fun call fuel base args m r _ h => ?_⟩
  unfold rf30 at h
  split at h
  · rw [← r30_eq] at h
    exact kbody_sound (c := c30) r30_body (Eq.mpr (r30_lk call fuel base) (And.intro trivial (And.intro (And.intro trivial (And.intro (And.intro trivial trivial) trivial)) (And.intro trivial trivial)))) h
  · simp at h
end Go.AM
namespace Go.AM
open Go Go.Proofs
noncomputable def r31 (call : CallF) (fuel base : Nat) (x0 : Value) (x1 : Value) (m : M) : Res2 :=
  (kc (call base 67 [x0] m) (fun v6_1 m => (k2 (vcall E.P base m .len [33] [v6_1]) fun v7_2 m => (kc (call base 66 [v7_2, x1] m) (fun v9_3 m => (k1 (mbin E .mul 3 v9_3 (.int .i64 8)) fun v10_4 => (fVal v10_4 fun v => some (.ret v, m)))) (fun v m => some (.pan v, m))))) (fun v m => some (.pan v, m)))
def keep31 : Keep := { region := fun i => ([[0, 1], [4]] : List (List Nat))[i]?, exit := fun i => ([] : List (List Nat))[i]?, ret := some [4] }
noncomputable def lp31 (call : CallF) (fuel base : Nat) : Lp := lpsel []
noncomputable def c31 : Code := Try.f31.body.getD .skip
theorem r31_eq (call : CallF) (fuel base : Nat) (x0 : Value) (x1 : Value) (m : M) : kbody E call keep31 (lp31 call fuel base) base Try.f31 [x0, x1] m = r31 call fuel base x0 x1 m := by
  kernel_rfl
noncomputable def rf31 : RF := fun call fuel base args m => match args with
  | [x0, x1] => r31 call fuel base x0 x1 m
  | _ => none
theorem r31_lk (call : CallF) (fuel base : Nat) : LoopsOk E call (lp31 call fuel base) fuel base 0 c31 = (And True (And True True)) := by kernel_rfl
theorem r31_fn : E.P.funcs[31]? = some Try.f31 := by kernel_rfl
theorem r31_body : Try.f31.body = some c31 := by kernel_rfl
theorem rf31_ok : RFok E 31 rf31 := by
  refine ⟨Try.f31, r31_fn, fun call fuel base args m r _ h => ?_⟩
  unfold rf31 at h
  split at h
  · rw [← r31_eq] at h
    exact kbody_sound (c := c31) r31_body (Eq.mpr (r31_lk call fuel base) (And.intro trivial (And.intro trivial trivial))) h
  · simp at h
end Go.AM
namespace Go.AM
open Go Go.Proofs
noncomputable def r32 (call : CallF) (fuel base : Nat) (x0 : Value) (x1 : Value) (x2 : Value) (m : M) : Res2 :=
  (kc (call base 59 [x0, x1, x2] m) (fun v11_1 m => (k1 (mun .not v11_1) fun v12_2 => (kb v12_2 (some (.ret (.tuple #[(.int .i64 0), (.int .i64 2)]), m)) (kc (call base 61 [x0, x1] m) (fun v15_3 m => (kc (call base 69 [v15_3, x2] m) (fun v17_4 m => (kc (call base 68 [v17_4] m) (fun v18_5 m => (k1 (mextract 0 v18_5) fun v19_6 => (k1 (mextract 1 v18_5) fun v20_7 => (some (.ret (.tuple #[v19_6, v20_7]), m))))) (fun v m => some (.pan v, m)))) (fun v m => some (.pan v, m)))) (fun v m => some (.pan v, m)))))) (fun v m => some (.pan v, m)))
def keep32 : Keep := { region := fun i => ([[0, 1, 2], [0, 1, 2, 12], [6, 7], [6, 7]] : List (List Nat))[i]?, exit := fun i => ([] : List (List Nat))[i]?, ret := some [6, 7] }
noncomputable def lp32 (call : CallF) (fuel base : Nat) : Lp := lpsel []
noncomputable def c32 : Code := Try.f32.body.getD .skip
theorem r32_eq (call : CallF) (fuel base : Nat) (x0 : Value) (x1 : Value) (x2 : Value) (m : M) : kbody E call keep32 (lp32 call fuel base) base Try.f32 [x0, x1, x2] m = r32 call fuel base x0 x1 x2 m := by
  kernel_rfl
noncomputable def rf32 : RF := fun call fuel base args m => match args with
  | [x0, x1, x2] => r32 call fuel base x0 x1 x2 m
  | _ => none
theorem r32_lk (call : CallF) (fuel base : Nat) : LoopsOk E call (lp32 call fuel base) fuel base 0 c32 = (And True (And (And True (And (And True True) True)) (And True True))) := by kernel_rfl
theorem r32_fn : E.P.funcs[32]? = some Try.f32 := by kernel_rfl
theorem r32_body : Try.f32.body = some c32 := by kernel_rfl
theorem rf32_ok : RFok E 32 rf32 := by
  refine ⟨Try.f32, r32_fn, fun call fuel base args m r _ h => ?_⟩
  unfold rf32 at h
  split at h
  · rw [← r32_eq] at h
    exact kbody_sound (c := c32) r32_body (Eq.mpr (r32_lk call fuel base) (And.intro trivial (And.intro (And.intro trivial (And.intro (And.intro trivial trivial) trivial)) (And.intro trivial trivial)))) h
  · simp at h
end Go.AM
namespace Go.AM
open Go Go.Proofs
noncomputable def r33 (call : CallF) (fuel base : Nat) (x0 : Value) (x1 : Value) (x2 : Value) (m : M) : Res2 :=
  (kc (call base 30 [x0, x1, x2] m) (fun v13_1 m => (k1 (mbin E .neq 26 v13_1 (.int .i64 0)) fun v15_2 => (kb v15_2 (some (.ret (.tuple #[(.int .i64 0), v13_1]), m)) (kc (call base 70 [x0, x1, x2] m) (fun v20_3 m => (k1 (mindexAddr E.P 23 v20_3 (.int .i64 0)) fun v21_4 => (k1 (xload E.P m 33 v21_4) fun v22_5 => (k1 (mindexAddr E.P 33 v22_5 (.int .i64 0)) fun v23_6 => (k1 (xload E.P m 3 v23_6) fun v24_7 => (k1 (mbin E .gtr 3 v24_7 (.int .i64 1099511627776)) fun v26_8 => (kb v26_8 (some (.ret (.tuple #[(.int .i64 0), (.int .i64 8)]), m)) (some (.ret (.tuple #[v24_7, (.int .i64 0)]), m))))))))) (fun v m => some (.pan v, m)))))) (fun v m => some (.pan v, m)))
def keep33 : Keep := { region := fun i => ([[0, 1, 2], [0, 1, 2, 8], [0, 1, 2, 8, 15], [6, 7], [9], [9, 26], [6, 7], [6, 7]] : List (List Nat))[i]?, exit := fun i => ([] : List (List Nat))[i]?, ret := some [6, 7] }
noncomputable def lp33 (call : CallF) (fuel base : Nat) : Lp := lpsel []
noncomputable def c33 : Code := Try.f33.body.getD .skip
theorem r33_eq (call : CallF) (fuel base : Nat) (x0 : Value) (x1 : Value) (x2 : Value) (m : M) : kbody E call keep33 (lp33 call fuel base) base Try.f33 [x0, x1, x2] m = r33 call fuel base x0 x1 x2 m := by
  kernel_rfl
noncomputable def rf33 : RF := fun call fuel base args m => match args with
  | [x0, x1, x2] => r33 call fuel base x0 x1 x2 m
  | _ => none
theorem r33_lk (call : CallF) (fuel base : Nat) : LoopsOk E call (lp33 call fuel base) fuel base 0 c33 = (And True (And True (And (And True (And (And True True) True)) (And True (And (And True (And (And True True) True)) (And True True)))))) := by kernel_rfl
theorem r33_fn : E.P.funcs[33]? = some Try.f33 := by kernel_rfl
theorem r33_body : Try.f33.body = some c33 := by kernel_rfl
theorem rf33_ok : RFok E 33 rf33 := by
  refine ⟨Try.f33, r33_fn, fun call fuel base args m r _ h => ?_⟩
  unfold rf33 at h
  split at h
  · rw [← r33_eq] at h
    exact kbody_sound (c := c33) r33_body (Eq.mpr (r33_lk call fuel base) (And.intro trivial (And.intro trivial (And.intro (And.intro trivial (And.intro (And.intro trivial trivial) trivial)) (And.intro trivial (And.intro (And.intro trivial (And.intro (And.intro trivial trivial) trivial)) (And.intro trivial trivial))))))) h
  · simp at h
end Go.AM
namespace Go.AM
open Go Go.Proofs
noncomputable def r34 (call : CallF) (fuel base : Nat) (x0 : Value) (x1 : Value) (x2 : Value) (m : M) : Res2 :=
  (kc (call base 59 [x0, x1, x2] m) (fun v12_1 m => (k1 (mun .not v12_1) fun v13_2 => (kb v13_2 (some (.ret (.tuple #[(.slice none 0 0), (.int .i64 2)]), m)) (kc (call base 61 [x0, x1] m) (fun v16_3 m => (kc (call base 71 [v16_3, x2] m) (fun v18_4 m => (k1 (mbin E .eql 23 v18_4 (.slice none 0 0)) fun v20_5 => (kb v20_5 (some (.ret (.tuple #[(.slice none 0 0), (.int .i64 10)]), m)) (some (.ret (.tuple #[v18_4, (.int .i64 0)]), m))))) (fun v m => some (.pan v, m)))) (fun v m => some (.pan v, m)))))) (fun v m => some (.pan v, m)))
def keep34 : Keep := { region := fun i => ([[0, 1, 2], [0, 1, 2, 13], [6, 7], [8], [8, 20], [6, 7], [6, 7]] : List (List Nat))[i]?, exit := fun i => ([] : List (List Nat))[i]?, ret := some [6, 7] }
noncomputable def lp34 (call : CallF) (fuel base : Nat) : Lp := lpsel []
noncomputable def c34 : Code := Try.f34.body.getD .skip
theorem r34_eq (call : CallF) (fuel base : Nat) (x0 : Value) (x1 : Value) (x2 : Value) (m : M) : kbody E call keep34 (lp34 call fuel base) base Try.f34 [x0, x1, x2] m = r34 call fuel base x0 x1 x2 m := by
  kernel_rfl
noncomputable def rf34 : RF := fun call fuel base args m => match args with
  | [x0, x1, x2] => r34 call fuel base x0 x1 x2 m
  | _ => none
theorem r34_lk (call : CallF) (fuel base : Nat) : LoopsOk E call (lp34 call fuel base) fuel base 0 c34 = (And True (And (And True (And (And True True) True)) (And True (And (And True (And (And True True) True)) (And True True))))) := by kernel_rfl
theorem r34_fn : E.P.funcs[34]? = some Try.f34 := by kernel_rfl
theorem r34_body : Try.f34.body = some c34 := by kernel_rfl
theorem rf34_ok : RFok E 34 rf34 := by
  refine ⟨Try.f34, r34_fn, fun call fuel base args m r _ h => ?_⟩
  unfold rf34 at h
  split at h
  · rw [← r34_eq] at h
    exact kbody_sound (c := c34) r34_body (Eq.mpr (r34_lk call fuel base) (And.intro trivial (And.intro (And.intro trivial (And.intro (And.intro trivial trivial) trivial)) (And.intro trivial (And.intro (And.intro trivial (And.intro (And.intro trivial trivial) trivial)) (And.intro trivial trivial)))))) h
  · simp at h
end Go.AM
namespace Go.AM
open Go Go.Proofs
noncomputable def r35_L2 (call : CallF) (fuel base : Nat) (kp : Value → M → Res2) (kx2 : Value → Value → Value → Value → Value → Value → Value → Value → Value → M → Res2) (n : Nat) : Value → Value → Value → Value → Value → Value → Value → Value → Value → Value → M → Res2 :=
  Nat.rec (motive := fun _ => Value → Value → Value → Value → Value → Value → Value → Value → Value → Value → M → Res2) (fun _ _ _ _ _ _ _ _ _ _ _ => none)
    (fun _ ih x0 x1 x2 x9 x10 x11 x12 x13 x14 x15 m =>
      (k2 (vcall E.P base m .len [22] [x0]) fun v45_12 m => (k1 (mbin E .lss 3 x15 v45_12) fun v46_13 => (kb v46_13 (k1 (mindexAddr E.P 22 x0 x15) fun v51_14 => (k1 (xload E.P m 45 v51_14) fun v52_15 => (kc (call base 72 [v52_15, x10, x1, x14, x11] m) (fun v57_16 m => (k1 (mbin E .geq 3 v57_16 (.int .i64 0)) fun v59_17 => (kb v59_17 (k1 (mbin E .add 3 x14 (.int .i64 1)) fun v63_18 => (k1 (mindexAddr E.P 23 x9 v63_18) fun v64_19 => (k1 (xload E.P m 33 v64_19) fun v65_20 => (k1 (mindexAddr E.P 33 v65_20 v57_16) fun v67_21 => (k1 (xload E.P m 3 v67_21) fun v68_22 => (k1 (mbin E .gtr 3 v68_22 (.int .i64 0)) fun v69_23 => (kb v69_23 (k2 (xbuildSlice E.P m 33 1 [(0, x15)]) fun v74_24 m => (k2 (vcall E.P base m .append [33, 33] [x13, v74_24]) fun v75_25 m => (kx2 x0 x1 x2 x9 x10 v57_16 x12 v75_25 x14 m))) (k1 (mbin E .add 3 x15 (.int .i64 1)) fun v48_26 => (ih x0 x1 x2 x9 x10 x11 x12 x13 x14 v48_26 m))))))))) (k1 (mbin E .add 3 x15 (.int .i64 1)) fun v48_27 => (ih x0 x1 x2 x9 x10 x11 x12 x13 x14 v48_27 m))))) (fun v m => kp v m)))) (kx2 x0 x1 x2 x9 x10 x11 x12 x13 x14 m))))) n
noncomputable def r35_L0 (call : CallF) (fuel base : Nat) (kp : Value → M → Res2) (kx0 : Value → M → Res2) (n : Nat) : Value → Value → Value → Value → Value → Value → Value → Value → Value → M → Res2 :=
  Nat.rec (motive := fun _ => Value → Value → Value → Value → Value → Value → Value → Value → Value → M → Res2) (fun _ _ _ _ _ _ _ _ _ _ => none)
    (fun _ ih x0 x1 x2 x9 x10 x11 x12 x13 x14 m =>
      (k1 (mbin E .mul 3 x1 x2) fun v39_10 => (k1 (mbin E .lss 3 x14 v39_10) fun v40_11 => (kb v40_11 (r35_L2 call fuel base (fun v m => kp v m) (fun y0_28 y1_29 y2_30 y9_31 y10_32 y11_33 y12_34 y13_35 y14_36 m => (k2 (vcall E.P base m .len [33] [y13_35]) fun v77_37 m => (k1 (mbin E .eql 3 v77_37 y1_29) fun v79_38 => (kb v79_38 (k2 (xbuildSlice E.P m 23 1 [(0, y13_35)]) fun v82_39 m => (k2 (vcall E.P base m .append [23, 23] [y12_34, v82_39]) fun v83_40 m => (k1 (mbin E .add 3 y14_36 (.int .i64 1)) fun v42_41 => (ih y0_28 y1_29 y2_30 y9_31 y10_32 y11_33 v83_40 (.slice none 0 0) v42_41 m)))) (k1 (mbin E .add 3 y14_36 (.int .i64 1)) fun v42_42 => (ih y0_28 y1_29 y2_30 y9_31 y10_32 y11_33 y12_34 y13_35 v42_42 m)))))) fuel x0 x1 x2 x9 x10 x11 x12 x13 x14 (.int .i64 0) m) (kx0 x12 m))))) n
noncomputable def r35 (call : CallF) (fuel base : Nat) (x0 : Value) (x1 : Value) (x2 : Value) (m : M) : Res2 :=
  (kc (call base 30 [x0, x1, x2] m) (fun v20_1 m => (k1 (mbin E .neq 26 v20_1 (.int .i64 0)) fun v22_2 => (kb v22_2 (some (.ret (.tuple #[(.slice none 0 0), v20_1]), m)) (kc (call base 70 [x0, x1, x2] m) (fun v27_3 m => (k1 (mindexAddr E.P 23 v27_3 (.int .i64 0)) fun v29_4 => (k1 (xload E.P m 33 v29_4) fun v30_5 => (k1 (mindexAddr E.P 33 v30_5 (.int .i64 0)) fun v31_6 => (k1 (xload E.P m 3 v31_6) fun v32_7 => (k1 (mbin E .eql 3 v32_7 (.int .i64 0)) fun v33_8 => (kb v33_8 (some (.ret (.tuple #[(.slice none 0 0), (.int .i64 10)]), m)) (kc (call base 67 [x0] m) (fun v35_9 m => (r35_L0 call fuel base (fun v m => some (.pan v, m)) (fun y12_43 m => (some (.ret (.tuple #[y12_43, (.int .i64 0)]), m))) fuel x0 x1 x2 v27_3 v35_9 (.int .i64 0) (.slice none 0 0) (.slice none 0 0) (.int .i64 0) m)) (fun v m => some (.pan v, m)))))))))) (fun v m => some (.pan v, m)))))) (fun v m => some (.pan v, m)))
def keep35 : Keep := { region := fun i => ([[0, 1, 2], [0, 1, 2, 8], [0, 1, 2, 8, 22], [6, 7], [0, 1, 2, 9], [0, 1, 2, 9, 33], [6, 7], [0, 1, 2, 9, 10], [0, 1, 2, 9, 10, 11], [0, 1, 2, 9, 10, 11, 12], [0, 1, 2, 9, 10, 11, 12, 13], [0, 1, 2, 9, 10, 11, 12, 13, 14], [0, 1, 2, 9, 10, 11, 12, 13, 14, 40], [0, 1, 2, 9, 10, 11, 12, 13, 14], [0, 1, 2, 9, 10, 11, 12, 13, 14, 15], [0, 1, 2, 9, 10, 11, 12, 13, 14, 15, 46], [0, 1, 2, 9, 10, 11, 12, 13, 14, 15], [0, 1, 2, 9, 10, 11, 12, 13, 14, 15, 16], [0, 1, 2, 9, 10, 11, 12, 13, 14, 15, 16, 70], [0, 1, 2, 9, 10, 11, 12, 13, 14, 15], [0, 1, 2, 9, 10, 11, 12, 13, 14], [0, 1, 2, 9, 10, 11, 12, 13, 14, 79], [0, 1, 2, 9, 10, 11, 12, 14], [0, 1, 2, 9, 10, 11, 12, 13, 14], [6, 7]] : List (List Nat))[i]?, exit := fun i => ([[12], [0, 1, 2, 9, 10, 11, 12, 13, 14], [0, 1, 2, 9, 10, 11, 12, 13, 14], [0, 1, 2, 9, 10, 11, 12, 13, 14, 15]] : List (List Nat))[i]?, ret := some [6, 7] }
noncomputable def r35_L2_R (call : CallF) (fuel base n : Nat) (vs : List Value) (m : M) (K : KT) : Res2 := match vs with
  | [x0, x1, x2, x9, x10, x11, x12, x13, x14, x15] => r35_L2 call fuel base (fun v m => K (.pan v) { n := 85, l := [] } m) (fun y0 y1 y2 y9 y10 y11 y12 y13 y14 m => K (.exit 2) { n := 85, l := [(0, y0), (1, y1), (2, y2), (9, y9), (10, y10), (11, y11), (12, y12), (13, y13), (14, y14)] } m) n x0 x1 x2 x9 x10 x11 x12 x13 x14 x15 m
  | _ => none
noncomputable def r35_L0_R (call : CallF) (fuel base n : Nat) (vs : List Value) (m : M) (K : KT) : Res2 := match vs with
  | [x0, x1, x2, x9, x10, x11, x12, x13, x14] => r35_L0 call fuel base (fun v m => K (.pan v) { n := 85, l := [] } m) (fun y12 m => K (.exit 0) { n := 85, l := [(12, y12)] } m) n x0 x1 x2 x9 x10 x11 x12 x13 x14 m
  | _ => none
noncomputable def lp35 (call : CallF) (fuel base : Nat) : Lp := lpsel [(2, fun T m K => kslots 85 [0, 1, 2, 9, 10, 11, 12, 13, 14, 15] T fun vs => r35_L2_R call fuel base fuel vs m K), (0, fun T m K => kslots 85 [0, 1, 2, 9, 10, 11, 12, 13, 14] T fun vs => r35_L0_R call fuel base fuel vs m K)]
noncomputable def c35 : Code := Try.f35.body.getD .skip
theorem r35_L2_lk (call : CallF) (fuel base : Nat) : LoopsOk E call (lp35 call fuel base) fuel base 2 (loopB (blockB (seqR (seqL (blockB (seqL (seqR (loopB (blockB (seqR (seqL (seqR (seqR (seqR (seqR (seqR (seqR (seqR (seqR (seqR c35)))))))))))))))))))) = (And (And True (And True True)) (And (And True (And True (And (And True (And True True)) True))) True)) := by kernel_rfl
theorem r35_L2_ok (call : CallF) (fuel base : Nat) : LpOk E call (lp35 call fuel base) fuel base 2 (loopB (blockB (seqR (seqL (blockB (seqL (seqR (loopB (blockB (seqR (seqL (seqR (seqR (seqR (seqR (seqR (seqR (seqR (seqR (seqR c35)))))))))))))))))))) := by
  refine loop_ok (kp := keep35) (hb := Eq.mpr (r35_L2_lk call fuel base) (And.intro (And.intro trivial (And.intro trivial trivial)) (And.intro (And.intro trivial (And.intro trivial (And.intro (And.intro trivial (And.intro trivial trivial)) trivial))) trivial))) 85 [0, 1, 2, 9, 10, 11, 12, 13, 14, 15] (fun n vs m K => r35_L2_R call fuel base n vs m K) ?_ ?_ (fun _ _ _ => rfl)
  · intro vs m K
    unfold r35_L2_R
    split <;> rfl
  · intro n vs m K hl
    match vs, hl with
    | [x0, x1, x2, x9, x10, x11, x12, x13, x14, x15], _ => show _ = _; kernel_rfl
theorem r35_L0_lk (call : CallF) (fuel base : Nat) : LoopsOk E call (lp35 call fuel base) fuel base 0 (loopB (blockB (seqR (seqL (seqR (seqR (seqR (seqR (seqR (seqR (seqR (seqR (seqR c35))))))))))))) = (And (And True (And True True)) (And (And (And True (LpOk E call (lp35 call fuel base) fuel base 2 (loopB (blockB (seqR (seqL (blockB (seqL (seqR (loopB (blockB (seqR (seqL (seqR (seqR (seqR (seqR (seqR (seqR (seqR (seqR (seqR c35)))))))))))))))))))))) (And True (And (And True True) True))) True)) := by kernel_rfl
theorem r35_L0_ok (call : CallF) (fuel base : Nat) : LpOk E call (lp35 call fuel base) fuel base 0 (loopB (blockB (seqR (seqL (seqR (seqR (seqR (seqR (seqR (seqR (seqR (seqR (seqR c35))))))))))))) := by
  refine loop_ok (kp := keep35) (hb := Eq.mpr (r35_L0_lk call fuel base) (And.intro (And.intro trivial (And.intro trivial trivial)) (And.intro (And.intro (And.intro trivial (r35_L2_ok call fuel base)) (And.intro trivial (And.intro (And.intro trivial trivial) trivial))) trivial))) 85 [0, 1, 2, 9, 10, 11, 12, 13, 14] (fun n vs m K => r35_L0_R call fuel base n vs m K) ?_ ?_ (fun _ _ _ => rfl)
  · intro vs m K
    unfold r35_L0_R
    split <;> rfl
  · intro n vs m K hl
    match vs, hl with
    | [x0, x1, x2, x9, x10, x11, x12, x13, x14], _ => show _ = _; kernel_rfl
theorem r35_eq (call : CallF) (fuel base : Nat) (x0 : Value) (x1 : Value) (x2 : Value) (m : M) : kbody E call keep35 (lp35 call fuel base) base Try.f35 [x0, x1, x2] m = r35 call fuel base x0 x1 x2 m := by
  kernel_rfl
noncomputable def rf35 : RF := fun call fuel base args m => match args with
  | [x0, x1, x2] => r35 call fuel base x0 x1 x2 m
  | _ => none
theorem r35_lk (call : CallF) (fuel base : Nat) : LoopsOk E call (lp35 call fuel base) fuel base 0 c35 = (And True (And True (And (And True (And (And True True) True)) (And True (And (And True (And (And True True) True)) (And True (And True (And True (And True (And (And True (LpOk E call (lp35 call fuel base) fuel base 0 (loopB (blockB (seqR (seqL (seqR (seqR (seqR (seqR (seqR (seqR (seqR (seqR (seqR c35))))))))))))))) (And True True))))))))))) := by kernel_rfl
theorem r35_fn : E.P.funcs[35]? = some Try.f35 := by kernel_rfl
theorem r35_body : Try.f35.body = some c35 := by kernel_rfl
theorem rf35_ok : RFok E 35 rf35 := by
  refine ⟨Try.f35, r35_fn, fun call fuel base args m r _ h => ?_⟩
  unfold rf35 at h
  split at h
  · rw [← r35_eq] at h
    exact kbody_sound (c := c35) r35_body (Eq.mpr (r35_lk call fuel base) (And.intro trivial (And.intro trivial (And.intro (And.intro trivial (And.intro (And.intro trivial trivial) trivial)) (And.intro trivial (And.intro (And.intro trivial (And.intro (And.intro trivial trivial) trivial)) (And.intro trivial (And.intro trivial (And.intro trivial (And.intro trivial (And.intro (And.intro trivial (r35_L0_ok call fuel base)) (And.intro trivial trivial)))))))))))) h
  · simp at h
end Go.AM
namespace Go.AM
open Go Go.Proofs
noncomputable def r36_L0 (call : CallF) (fuel base : Nat) (kr : Value → M → Res2) (kx0 : M → Res2) (n : Nat) : Value → Value → Value → M → Res2 :=
  Nat.rec (motive := fun _ => Value → Value → Value → M → Res2) (fun _ _ _ _ => none)
    (fun _ ih x0 x1 x5 m =>
      (k2 (vcall E.P base m .len [23] [x0]) fun v13_4 m => (k1 (mbin E .lss 3 x5 v13_4) fun v14_5 => (kb v14_5 (k1 (mindexAddr E.P 23 x0 x5) fun v19_6 => (k1 (xload E.P m 33 v19_6) fun v20_7 => (k1 (mindexAddr E.P 23 x1 x5) fun v23_8 => (k1 (xload E.P m 33 v23_8) fun v24_9 => (kc (kB m (call m.length 24 [v20_7, v24_9] m)) (fun v25_10 m => (k1 (mun .not v25_10) fun v26_11 => (kb v26_11 (kr (.bool false) m) (k1 (mbin E .add 3 x5 (.int .i64 1)) fun v16_12 => (ih x0 x1 v16_12 m))))) (fun _ _ => none)))))) (kx0 m))))) n
noncomputable def r36 (call : CallF) (fuel base : Nat) (x0 : Value) (x1 : Value) (m : M) : Res2 :=
  (k2 (vcall E.P base m .len [23] [x0]) fun v7_1 m => (k2 (vcall E.P base m .len [23] [x1]) fun v9_2 m => (k1 (mbin E .neq 3 v7_1 v9_2) fun v10_3 => (kb v10_3 (fVal (.bool false) fun v => some (.ret v, m)) (r36_L0 call fuel base (fun y4_13 m => (fVal y4_13 fun v => some (.ret v, m))) (fun m => (fVal (.bool true) fun v => some (.ret v, m))) fuel x0 x1 (.int .i64 0) m)))))
def keep36 : Keep := { region := fun i => ([[0, 1], [0, 1, 10], [4], [0, 1, 5], [0, 1, 5, 14], [0, 1, 5], [0, 1, 5, 26], [4], [4]] : List (List Nat))[i]?, exit := fun i => ([[], [0, 1, 5]] : List (List Nat))[i]?, ret := some [4] }
noncomputable def r36_L0_R (call : CallF) (fuel base n : Nat) (vs : List Value) (m : M) (K : KT) : Res2 := match vs with
  | [x0, x1, x5] => r36_L0 call fuel base (fun y4 m => K .ret { n := 27, l := [(4, y4)] } m) (fun m => K (.exit 0) { n := 27, l := [] } m) n x0 x1 x5 m
  | _ => none
noncomputable def lp36 (call : CallF) (fuel base : Nat) : Lp := lpsel [(0, fun T m K => kslots 27 [0, 1, 5] T fun vs => r36_L0_R call fuel base fuel vs m K)]
noncomputable def c36 : Code := Try.f36.body.getD .skip
theorem r36_L0_lk (call : CallF) (fuel base : Nat) : LoopsOk E call (lp36 call fuel base) fuel base 0 (loopB (blockB (seqR (seqL (seqR (seqR c36)))))) = (And (And True (And True True)) (And (And True (And (And True True) True)) True)) := by kernel_rfl
theorem r36_L0_ok (call : CallF) (fuel base : Nat) : LpOk E call (lp36 call fuel base) fuel base 0 (loopB (blockB (seqR (seqL (seqR (seqR c36)))))) := by
  refine loop_ok (kp := keep36) (hb := Eq.mpr (r36_L0_lk call fuel base) (And.intro (And.intro trivial (And.intro trivial trivial)) (And.intro (And.intro trivial (And.intro (And.intro trivial trivial) trivial)) trivial))) 27 [0, 1, 5] (fun n vs m K => r36_L0_R call fuel base n vs m K) ?_ ?_ (fun _ _ _ => rfl)
  · intro vs m K
    unfold r36_L0_R
    split <;> rfl
  · intro n vs m K hl
    match vs, hl with
    | [x0, x1, x5], _ => show _ = _; kernel_rfl
theorem r36_eq (call : CallF) (fuel base : Nat) (x0 : Value) (x1 : Value) (m : M) : kbody E call keep36 (lp36 call fuel base) base Try.f36 [x0, x1] m = r36 call fuel base x0 x1 m := by
  kernel_rfl
noncomputable def rf36 : RF := fun call fuel base args m => match args with
  | [x0, x1] => r36 call fuel base x0 x1 m
  | _ => none
theorem r36_lk (call : CallF) (fuel base : Nat) : LoopsOk E call (lp36 call fuel base) fuel base 0 c36 = (And True (And (And True (And (And True True) True)) (And (And True (LpOk E call (lp36 call fuel base) fuel base 0 (loopB (blockB (seqR (seqL (seqR (seqR c36)))))))) (And True True)))) := by kernel_rfl
theorem r36_fn : E.P.funcs[36]? = some Try.f36 := by kernel_rfl
theorem r36_body : Try.f36.body = some c36 := by kernel_rfl
theorem rf36_ok : RFok E 36 rf36 := by
  refine ⟨Try.f36, r36_fn, fun call fuel base args m r _ h => ?_⟩
  unfold rf36 at h
  split at h
  · rw [← r36_eq] at h
    exact kbody_sound (c := c36) r36_body (Eq.mpr (r36_lk call fuel base) (And.intro trivial (And.intro (And.intro trivial (And.intro (And.intro trivial trivial) trivial)) (And.intro (And.intro trivial (r36_L0_ok call fuel base)) (And.intro trivial trivial))))) h
  · simp at h
end Go.AM
namespace Go.AM
open Go Go.Proofs
noncomputable def r41 (call : CallF) (fuel base : Nat) (x0 : Value) (x1 : Value) (x2 : Value) (m : M) : Res2 :=
  (kc (call base 59 [x0, x1, x2] m) (fun v12_1 m => (k1 (mun .not v12_1) fun v13_2 => (kb v13_2 (some (.ret (.tuple #[(.slice none 0 0), (.int .i64 2)]), m)) (kc (call base 61 [x0, x1] m) (fun v16_3 m => (k2 (xalloc E.P m 76) fun v8_4 m => (ks (xstore E.P base m 76 v8_4 v16_3) fun m => (k1 (xload E.P m 76 v8_4) fun v17_5 => (kc (call base 69 [v17_5, x2] m) (fun v19_6 m => (k1 (mbin E .gtr 3 v19_6 (.int .i64 0)) fun v20_7 => (kb v20_7 (some (.ret (.tuple #[(.slice none 0 0), (.int .i64 10)]), m)) (k1 (xload E.P m 76 v8_4) fun v21_8 => (kc (call base 74 [v21_8, x2] m) (fun v23_9 m => (some (.ret (.tuple #[v23_9, (.int .i64 0)]), m))) (fun v m => some (.pan v, m))))))) (fun v m => some (.pan v, m))))))) (fun v m => some (.pan v, m)))))) (fun v m => some (.pan v, m)))
def keep41 : Keep := { region := fun i => ([[0, 1, 2], [0, 1, 2, 13], [6, 7], [2, 8], [2, 8, 20], [6, 7], [6, 7]] : List (List Nat))[i]?, exit := fun i => ([] : List (List Nat))[i]?, ret := some [6, 7] }
noncomputable def lp41 (call : CallF) (fuel base : Nat) : Lp := lpsel []
noncomputable def c41 : Code := Try.f41.body.getD .skip
theorem r41_eq (call : CallF) (fuel base : Nat) (x0 : Value) (x1 : Value) (x2 : Value) (m : M) : kbody E call keep41 (lp41 call fuel base) base Try.f41 [x0, x1, x2] m = r41 call fuel base x0 x1 x2 m := by
  kernel_rfl
noncomputable def rf41 : RF := fun call fuel base args m => match args with
  | [x0, x1, x2] => r41 call fuel base x0 x1 x2 m
  | _ => none
theorem r41_lk (call : CallF) (fuel base : Nat) : LoopsOk E call (lp41 call fuel base) fuel base 0 c41 = (And True (And (And True (And (And True True) True)) (And True (And (And True (And (And True True) True)) (And True True))))) := by kernel_rfl
theorem r41_fn : E.P.funcs[41]? = some Try.f41 := by kernel_rfl
theorem r41_body : Try.f41.body = some c41 := by kernel_rfl
theorem rf41_ok : RFok E 41 rf41 := by
  refine ⟨Try.f41, r41_fn, fun call fuel base args m r _ h => ?_⟩
  unfold rf41 at h
  split at h
  · rw [← r41_eq] at h
    exact kbody_sound (c := c41) r41_body (Eq.mpr (r41_lk call fuel base) (And.intro trivial (And.intro (And.intro trivial (And.intro (And.intro trivial trivial) trivial)) (And.intro trivial (And.intro (And.intro trivial (And.intro (And.intro trivial trivial) trivial)) (And.intro trivial trivial)))))) h
  · simp at h
end Go.AM
namespace Go.AM
open Go Go.Proofs
noncomputable def r48_L0 (call : CallF) (fuel base : Nat) (kr : Value → M → Res2) (kx0 : M → Res2) (n : Nat) : Value → Value → Value → Value → M → Res2 :=
  Nat.rec (motive := fun _ => Value → Value → Value → Value → M → Res2) (fun _ _ _ _ _ => none)
    (fun _ ih x0 x13 x14 x15 m =>
      (k1 (mbin E .lss 3 x15 x14) fun v16_6 => (kb v16_6 (k1 (mindexAddr E.P 22 x13 x15) fun v18_7 => (k1 (xload E.P m 45 v18_7) fun v19_8 => (k2 (xalloc E.P m 45) fun v4_9 m => (ks (xstore E.P base m 45 v4_9 v19_8) fun m => (k1 (mfieldAddr E.P 45 v4_9 0) fun v20_10 => (k1 (xload E.P m 3 v20_10) fun v21_11 => (k1 (mfieldAddr E.P 45 v4_9 1) fun v22_12 => (k1 (xload E.P m 3 v22_12) fun v23_13 => (k1 (mfieldAddr E.P 45 v4_9 2) fun v24_14 => (k1 (xload E.P m 3 v24_14) fun v25_15 => (k1 (mfieldAddr E.P 45 v4_9 3) fun v26_16 => (k1 (xload E.P m 3 v26_16) fun v27_17 => (k2 (xbuildSlice E.P m 33 4 [(0, v21_11), (1, v23_13), (2, v25_15), (3, v27_17)]) fun v28_18 m => (kc (kB m (call m.length 81 [v28_18, (.func (.func 82) #[] #[])] m)) (fun v29_19 m => (kb v29_19 (kr (.bool false) m) (k1 (mslice E.P m 22 x0 none (some x15) none) fun v33_20 => (k1 (xload E.P m 45 v4_9) fun v34_21 => (kc (kB m (call m.length 84 [v33_20, v34_21] m)) (fun v35_22 m => (kb v35_22 (kr (.bool false) m) (k1 (mbin E .add 3 x15 (.int .i64 1)) fun v37_23 => (ih x0 x13 x14 v37_23 m)))) (fun _ _ => none)))))) (fun _ _ => none))))))))))))))) (kx0 m)))) n
noncomputable def r48 (call : CallF) (fuel base : Nat) (x0 : Value) (m : M) : Res2 :=
  (k2 (vcall E.P base m .len [22] [x0]) fun v6_1 m => (k1 (mbin E .lss 3 v6_1 (.int .i64 1)) fun v7_2 => (kb v7_2 (fVal (.bool false) fun v => some (.ret v, m)) (k2 (vcall E.P base m .len [22] [x0]) fun v10_3 m => (k1 (mbin E .gtr 3 v10_3 (.int .i64 16)) fun v11_4 => (kb v11_4 (fVal (.bool false) fun v => some (.ret v, m)) (k2 (vcall E.P base m .len [22] [x0]) fun v14_5 m => (r48_L0 call fuel base (fun y2_24 m => (fVal y2_24 fun v => some (.ret v, m))) (fun m => (fVal (.bool true) fun v => some (.ret v, m))) fuel x0 x0 v14_5 (.int .i64 0) m))))))))
def keep48 : Keep := { region := fun i => ([[0], [0, 12], [2], [0, 13, 14, 15], [0, 13, 14, 15, 16], [0, 3, 4, 13, 14, 15], [0, 13, 14, 15, 36], [2], [0, 13, 14, 15], [2]] : List (List Nat))[i]?, exit := fun i => ([[], [0, 13, 14, 15]] : List (List Nat))[i]?, ret := some [2] }
noncomputable def r48_L0_R (call : CallF) (fuel base n : Nat) (vs : List Value) (m : M) (K : KT) : Res2 := match vs with
  | [x0, x13, x14, x15] => r48_L0 call fuel base (fun y2 m => K .ret { n := 38, l := [(2, y2)] } m) (fun m => K (.exit 0) { n := 38, l := [] } m) n x0 x13 x14 x15 m
  | _ => none
noncomputable def lp48 (call : CallF) (fuel base : Nat) : Lp := lpsel [(0, fun T m K => kslots 38 [0, 13, 14, 15] T fun vs => r48_L0_R call fuel base fuel vs m K)]
noncomputable def c48 : Code := Try.f48.body.getD .skip
theorem r48_L0_lk (call : CallF) (fuel base : Nat) : LoopsOk E call (lp48 call fuel base) fuel base 0 (loopB (blockB (seqR (seqL (seqR (seqR c48)))))) = (And True (And (And True True) (And (And True (And True (And (And True True) True))) True))) := by kernel_rfl
theorem r48_L0_ok (call : CallF) (fuel base : Nat) : LpOk E call (lp48 call fuel base) fuel base 0 (loopB (blockB (seqR (seqL (seqR (seqR c48)))))) := by
  refine loop_ok (kp := keep48) (hb := Eq.mpr (r48_L0_lk call fuel base) (And.intro trivial (And.intro (And.intro trivial trivial) (And.intro (And.intro trivial (And.intro trivial (And.intro (And.intro trivial trivial) trivial))) trivial)))) 38 [0, 13, 14, 15] (fun n vs m K => r48_L0_R call fuel base n vs m K) ?_ ?_ (fun _ _ _ => rfl)
  · intro vs m K
    unfold r48_L0_R
    split <;> rfl
  · intro n vs m K hl
    match vs, hl with
    | [x0, x13, x14, x15], _ => show _ = _; kernel_rfl
theorem r48_eq (call : CallF) (fuel base : Nat) (x0 : Value) (m : M) : kbody E call keep48 (lp48 call fuel base) base Try.f48 [x0] m = r48 call fuel base x0 m := by
  kernel_rfl
noncomputable def rf48 : RF := fun call fuel base args m => match args with
  | [x0] => r48 call fuel base x0 m
  | _ => none
theorem r48_lk (call : CallF) (fuel base : Nat) : LoopsOk E call (lp48 call fuel base) fuel base 0 c48 = (And True (And (And True (And (And True True) True)) (And (And True (LpOk E call (lp48 call fuel base) fuel base 0 (loopB (blockB (seqR (seqL (seqR (seqR c48)))))))) (And True True)))) := by kernel_rfl
theorem r48_fn : E.P.funcs[48]? = some Try.f48 := by kernel_rfl
theorem r48_body : Try.f48.body = some c48 := by kernel_rfl
theorem rf48_ok : RFok E 48 rf48 := by
  refine ⟨Try.f48, r48_fn, fun call fuel base args m r _ h => ?_⟩
  unfold rf48 at h
  split at h
  · rw [← r48_eq] at h
    exact kbody_sound (c := c48) r48_body (Eq.mpr (r48_lk call fuel base) (And.intro trivial (And.intro (And.intro trivial (And.intro (And.intro trivial trivial) trivial)) (And.intro (And.intro trivial (r48_L0_ok call fuel base)) (And.intro trivial trivial))))) h
  · simp at h
end Go.AM
namespace Go.AM
open Go Go.Proofs
noncomputable def r52 (call : CallF) (fuel base : Nat) (x0 : Value) (m : M) : Res2 :=
  (k1 (mbin E .geq 3 x0 (.int .i64 1)) fun v4_1 => (kb v4_1 (k1 (mbin E .leq 3 x0 (.int .i64 4)) fun v7_2 => (fVal v7_2 fun v => some (.ret v, m))) (fVal (.bool false) fun v => some (.ret v, m))))
def keep52 : Keep := { region := fun i => ([[0], [2]] : List (List Nat))[i]?, exit := fun i => ([] : List (List Nat))[i]?, ret := some [2] }
noncomputable def lp52 (call : CallF) (fuel base : Nat) : Lp := lpsel []
noncomputable def c52 : Code := Try.f52.body.getD .skip
theorem r52_eq (call : CallF) (fuel base : Nat) (x0 : Value) (m : M) : kbody E call keep52 (lp52 call fuel base) base Try.f52 [x0] m = r52 call fuel base x0 m := by
  kernel_rfl
noncomputable def rf52 : RF := fun call fuel base args m => match args with
  | [x0] => r52 call fuel base x0 m
  | _ => none
theorem r52_lk (call : CallF) (fuel base : Nat) : LoopsOk E call (lp52 call fuel base) fuel base 0 c52 = (And True (And True True)) := by kernel_rfl
theorem r52_fn : E.P.funcs[52]? = some Try.f52 := by kernel_rfl
theorem r52_body : Try.f52.body = some c52 := by kernel_rfl
theorem rf52_ok : RFok E 52 rf52 := by
  refine ⟨Try.f52, r52_fn, fun call fuel base args m r _ h => ?_⟩
  unfold rf52 at h
  split at h
  · rw [← r52_eq] at h
    exact kbody_sound (c := c52) r52_body (Eq.mpr (r52_lk call fuel base) (And.intro trivial (And.intro trivial trivial))) h
  · simp at h
end Go.AM
namespace Go.AM
open Go Go.Proofs
noncomputable def r58 (call : CallF) (fuel base : Nat) (x0 : Value) (m : M) : Res2 :=
  (k1 (mbin E .geq 3 x0 (.int .i64 0)) fun v4_1 => (kb v4_1 (k1 (mbin E .leq 3 x0 (.int .i64 7)) fun v7_2 => (fVal v7_2 fun v => some (.ret v, m))) (fVal (.bool false) fun v => some (.ret v, m))))
def keep58 : Keep := { region := fun i => ([[0], [2]] : List (List Nat))[i]?, exit := fun i => ([] : List (List Nat))[i]?, ret := some [2] }
noncomputable def lp58 (call : CallF) (fuel base : Nat) : Lp := lpsel []
noncomputable def c58 : Code := Try.f58.body.getD .skip
theorem r58_eq (call : CallF) (fuel base : Nat) (x0 : Value) (m : M) : kbody E call keep58 (lp58 call fuel base) base Try.f58 [x0] m = r58 call fuel base x0 m := by
  kernel_rfl
noncomputable def rf58 : RF := fun call fuel base args m => match args with
  | [x0] => r58 call fuel base x0 m
  | _ => none
theorem r58_lk (call : CallF) (fuel base : Nat) : LoopsOk E call (lp58 call fuel base) fuel base 0 c58 = (And True (And True True)) := by kernel_rfl
theorem r58_fn : E.P.funcs[58]? = some Try.f58 := by kernel_rfl
theorem r58_body : Try.f58.body = some c58 := by kernel_rfl
theorem rf58_ok : RFok E 58 rf58 := by
  refine ⟨Try.f58, r58_fn, fun call fuel base args m r _ h => ?_⟩
  unfold rf58 at h
  split at h
  · rw [← r58_eq] at h
    exact kbody_sound (c := c58) r58_body (Eq.mpr (r58_lk call fuel base) (And.intro trivial (And.intro trivial trivial))) h
  · simp at h
end Go.AM
namespace Go.AM
open Go Go.Proofs
noncomputable def r59 (call : CallF) (fuel base : Nat) (x0 : Value) (x1 : Value) (x2 : Value) (m : M) : Res2 :=
  (kc (call base 48 [x0] m) (fun v8_1 m => (kb v8_1 (kc (call base 80 [x1] m) (fun v11_2 m => (kb v11_2 (kc (call base 80 [x2] m) (fun v15_3 m => (fVal v15_3 fun v => some (.ret v, m))) (fun v m => some (.pan v, m))) (fVal (.bool false) fun v => some (.ret v, m)))) (fun v m => some (.pan v, m))) (fVal (.bool false) fun v => some (.ret v, m)))) (fun v m => some (.pan v, m)))
def keep59 : Keep := { region := fun i => ([[0, 1, 2], [6]] : List (List Nat))[i]?, exit := fun i => ([] : List (List Nat))[i]?, ret := some [6] }
noncomputable def lp59 (call : CallF) (fuel base : Nat) : Lp := lpsel []
noncomputable def c59 : Code := Try.f59.body.getD .skip
theorem r59_eq (call : CallF) (fuel base : Nat) (x0 : Value) (x1 : Value) (x2 : Value) (m : M) : kbody E call keep59 (lp59 call fuel base) base Try.f59 [x0, x1, x2] m = r59 call fuel base x0 x1 x2 m := by
  kernel_rfl
noncomputable def rf59 : RF := fun call fuel base args m => match args with
  | [x0, x1, x2] => r59 call fuel base x0 x1 x2 m
  | _ => none
theorem r59_lk (call : CallF) (fuel base : Nat) : LoopsOk E call (lp59 call fuel base) fuel base 0 c59 = (And True (And True True)) := by kernel_rfl
theorem r59_fn : E.P.funcs[59]? = some Try.f59 := by kernel_rfl
theorem r59_body : Try.f59.body = some c59 := by kernel_rfl
theorem rf59_ok : RFok E 59 rf59 := by
  refine ⟨Try.f59, r59_fn, fun call fuel base args m r _ h => ?_⟩
  unfold rf59 at h
  split at h
  · rw [← r59_eq] at h
    exact kbody_sound (c := c59) r59_body (Eq.mpr (r59_lk call fuel base) (And.intro trivial (And.intro trivial trivial))) h
  · simp at h
end Go.AM
namespace Go.AM
open Go Go.Proofs
noncomputable def r60_L0 (call : CallF) (fuel base : Nat) (kp : Value → M → Res2) (kr : Value → M → Res2) (kx0 : M → Res2) (n : Nat) : Value → Value → Value → Value → Value → Value → M → Res2 :=
  Nat.rec (motive := fun _ => Value → Value → Value → Value → Value → Value → M → Res2) (fun _ _ _ _ _ _ _ => none)
    (fun _ ih x0 x1 x2 x9 x10 x11 m =>
      (k1 (mbin E .lss 3 x11 x10) fun v12_2 => (kb v12_2 (k1 (mindexAddr E.P 23 x9 x11) fun v14_3 => (k1 (xload E.P m 33 v14_3) fun v15_4 => (k2 (vcall E.P base m .len [33] [v15_4]) fun v17_5 m => (k1 (mbin E .add 3 x1 (.int .i64 1)) fun v19_6 => (k1 (mbin E .neq 3 v17_5 v19_6) fun v20_7 => (kb v20_7 (kr (.bool false) m) (k1 (mindexAddr E.P 33 v15_4 (.int .i64 0)) fun v23_8 => (k1 (xload E.P m 3 v23_8) fun v24_9 => (k1 (mbin E .lss 3 v24_9 (.int .i64 1)) fun v25_10 => (kb v25_10 (kr (.bool false) m) (k1 (mindexAddr E.P 33 v15_4 (.int .i64 0)) fun v29_11 => (k1 (xload E.P m 3 v29_11) fun v30_12 => (k1 (mbin E .geq 3 v30_12 x2) fun v32_13 => (kb v32_13 (kr (.bool false) m) (k1 (mslice E.P m 33 v15_4 (some (.int .i64 1)) none none) fun v36_14 => (kc (call base 81 [v36_14, (.func (.func 82) #[] #[])] m) (fun v37_15 m => (kb v37_15 (kr (.bool false) m) (k1 (mbin E .gtr 3 x11 (.int .i64 0)) fun v40_16 => (kb v40_16 (k1 (mbin E .sub 3 x11 (.int .i64 1)) fun v44_17 => (k1 (mindexAddr E.P 23 x0 v44_17) fun v45_18 => (k1 (xload E.P m 33 v45_18) fun v46_19 => (kc (call base 91 [v46_19, v15_4] m) (fun v48_20 m => (k1 (mbin E .geq 3 v48_20 (.int .i64 0)) fun v49_21 => (kb v49_21 (kr (.bool false) m) (k1 (mbin E .add 3 x11 (.int .i64 1)) fun v51_22 => (ih x0 x1 x2 x9 x10 v51_22 m))))) (fun v m => kp v m))))) (k1 (mbin E .add 3 x11 (.int .i64 1)) fun v51_23 => (ih x0 x1 x2 x9 x10 v51_23 m)))))) (fun v m => kp v m))))))))))))))))) (kx0 m)))) n
noncomputable def r60 (call : CallF) (fuel base : Nat) (x0 : Value) (x1 : Value) (x2 : Value) (m : M) : Res2 :=
  (k2 (vcall E.P base m .len [23] [x0]) fun v10_1 m => (r60_L0 call fuel base (fun v m => some (.pan v, m)) (fun y6_24 m => (fVal y6_24 fun v => some (.ret v, m))) (fun m => (fVal (.bool true) fun v => some (.ret v, m))) fuel x0 x1 x2 x0 v10_1 (.int .i64 0) m))
def keep60 : Keep := { region := fun i => ([[0, 1, 2], [0, 1, 2, 9, 10, 11], [0, 1, 2, 9, 10, 11, 12], [0, 1, 2, 7, 8, 9, 10, 11], [0, 1, 2, 7, 8, 9, 10, 11, 38], [6], [0, 1, 2, 9, 10, 11, 50], [6], [0, 1, 2, 9, 10, 11], [6]] : List (List Nat))[i]?, exit := fun i => ([[], [0, 1, 2, 9, 10, 11]] : List (List Nat))[i]?, ret := some [6] }
noncomputable def r60_L0_R (call : CallF) (fuel base n : Nat) (vs : List Value) (m : M) (K : KT) : Res2 := match vs with
  | [x0, x1, x2, x9, x10, x11] => r60_L0 call fuel base (fun v m => K (.pan v) { n := 52, l := [] } m) (fun y6 m => K .ret { n := 52, l := [(6, y6)] } m) (fun m => K (.exit 0) { n := 52, l := [] } m) n x0 x1 x2 x9 x10 x11 m
  | _ => none
noncomputable def lp60 (call : CallF) (fuel base : Nat) : Lp := lpsel [(0, fun T m K => kslots 52 [0, 1, 2, 9, 10, 11] T fun vs => r60_L0_R call fuel base fuel vs m K)]
noncomputable def c60 : Code := Try.f60.body.getD .skip
theorem r60_L0_lk (call : CallF) (fuel base : Nat) : LoopsOk E call (lp60 call fuel base) fuel base 0 (loopB (blockB (seqR (seqL (seqR c60))))) = (And True (And (And True True) (And (And True (And (And True (And (And True True) True)) (And True (And (And True True) True)))) True))) := by kernel_rfl
theorem r60_L0_ok (call : CallF) (fuel base : Nat) : LpOk E call (lp60 call fuel base) fuel base 0 (loopB (blockB (seqR (seqL (seqR c60))))) := by
  refine loop_ok (kp := keep60) (hb := Eq.mpr (r60_L0_lk call fuel base) (And.intro trivial (And.intro (And.intro trivial trivial) (And.intro (And.intro trivial (And.intro (And.intro trivial (And.intro (And.intro trivial trivial) trivial)) (And.intro trivial (And.intro (And.intro trivial trivial) trivial)))) trivial)))) 52 [0, 1, 2, 9, 10, 11] (fun n vs m K => r60_L0_R call fuel base n vs m K) ?_ ?_ (fun _ _ _ => rfl)
  · intro vs m K
    unfold r60_L0_R
    split <;> rfl
  · intro n vs m K hl
    match vs, hl with
    | [x0, x1, x2, x9, x10, x11], _ => show _ = _; kernel_rfl
theorem r60_eq (call : CallF) (fuel base : Nat) (x0 : Value) (x1 : Value) (x2 : Value) (m : M) : kbody E call keep60 (lp60 call fuel base) base Try.f60 [x0, x1, x2] m = r60 call fuel base x0 x1 x2 m := by
  kernel_rfl
noncomputable def rf60 : RF := fun call fuel base args m => match args with
  | [x0, x1, x2] => r60 call fuel base x0 x1 x2 m
  | _ => none
theorem r60_lk (call : CallF) (fuel base : Nat) : LoopsOk E call (lp60 call fuel base) fuel base 0 c60 = (And True (And (And True (LpOk E call (lp60 call fuel base) fuel base 0 (loopB (blockB (seqR (seqL (seqR c60))))))) (And True True))) := by kernel_rfl
theorem r60_fn : E.P.funcs[60]? = some Try.f60 := by kernel_rfl
theorem r60_body : Try.f60.body = some c60 := by kernel_rfl
theorem rf60_ok : RFok E 60 rf60 := by
  refine ⟨Try.f60, r60_fn, fun call fuel base args m r _ h => ?_⟩
  unfold rf60 at h
  split at h
  · rw [← r60_eq] at h
    exact kbody_sound (c := c60) r60_body (Eq.mpr (r60_lk call fuel base) (And.intro trivial (And.intro (And.intro trivial (r60_L0_ok call fuel base)) (And.intro trivial trivial)))) h
  · simp at h
end Go.AM
namespace Go.AM
open Go Go.Proofs
noncomputable def r61 (call : CallF) (fuel base : Nat) (x0 : Value) (x1 : Value) (m : M) : Res2 :=
  (k2 (xalloc E.P m 76) fun v4_1 m => (kc (call base 92 [x0, x1, (.func (.func 93) #[] #[])] m) (fun v8_2 m => (k1 (mbuild E.P 76 [(0, x1), (1, v8_2)]) fun v9_3 => (ks (xstore E.P base m 76 v4_1 v9_3) fun m => (k0 (mload E.P m 76 v4_1) fun r_4 => (fVal r_4 fun v => some (.ret v, m)))))) (fun v m => some (.pan v, m))))
def keep61 : Keep := { region := fun i => ([[0, 1, 4], [4]] : List (List Nat))[i]?, exit := fun i => ([] : List (List Nat))[i]?, ret := some [4] }
noncomputable def lp61 (call : CallF) (fuel base : Nat) : Lp := lpsel []
noncomputable def c61 : Code := Try.f61.body.getD .skip
theorem r61_eq (call : CallF) (fuel base : Nat) (x0 : Value) (x1 : Value) (m : M) : kbody E call keep61 (lp61 call fuel base) base Try.f61 [x0, x1] m = r61 call fuel base x0 x1 m := by
  kernel_rfl
noncomputable def rf61 : RF := fun call fuel base args m => match args with
  | [x0, x1] => r61 call fuel base x0 x1 m
  | _ => none
theorem r61_lk (call : CallF) (fuel base : Nat) : LoopsOk E call (lp61 call fuel base) fuel base 0 c61 = (And True (And True True)) := by kernel_rfl
theorem r61_fn : E.P.funcs[61]? = some Try.f61 := by kernel_rfl
theorem r61_body : Try.f61.body = some c61 := by kernel_rfl
theorem rf61_ok : RFok E 61 rf61 := by
  refine ⟨Try.f61, r61_fn, fun call fuel base args m r _ h => ?_⟩
  unfold rf61 at h
  split at h
  · rw [← r61_eq] at h
    exact kbody_sound (c := c61) r61_body (Eq.mpr (r61_lk call fuel base) (And.intro trivial (And.intro trivial trivial))) h
  · simp at h
end Go.AM
namespace Go.AM
open Go Go.Proofs
noncomputable def r62_L0 (call : CallF) (fuel base : Nat) (kp : Value → M → Res2) (kx0 : Value → Value → Value → M → Res2) (n : Nat) : Value → Value → Value → Value → Value → Value → M → Res2 :=
  Nat.rec (motive := fun _ => Value → Value → Value → Value → Value → Value → M → Res2) (fun _ _ _ _ _ _ _ => none)
    (fun _ ih x1 x2 x5 x20 x21 x22 m =>
      (k1 (mbin E .lss 3 x22 x21) fun v23_8 => (kb v23_8 (k1 (mindexAddr E.P 23 x20 x22) fun v24_9 => (k1 (xload E.P m 33 v24_9) fun v25_10 => (k1 (mslice E.P m 33 v25_10 (some (.int .i64 1)) none none) fun v27_11 => (kc (call base 95 [v27_11] m) (fun v28_12 m => (k1 (xload E.P m 33 x5) fun v29_13 => (k1 (mindexAddr E.P 33 v29_13 v28_12) fun v31_14 => (k1 (xload E.P m 3 v31_14) fun v32_15 => (k1 (mbin E .eql 3 v32_15 (.int .i64 0)) fun v33_16 => (kb v33_16 (k1 (xload E.P m 33 x5) fun v34_17 => (k1 (mindexAddr E.P 33 v25_10 (.int .i64 0)) fun v37_18 => (k1 (xload E.P m 3 v37_18) fun v38_19 => (k1 (mindexAddr E.P 33 v34_17 v28_12) fun v39_20 => (ks (xstore E.P base m 3 v39_20 v38_19) fun m => (k1 (mbin E .add 3 x22 (.int .i64 1)) fun v40_21 => (ih x1 x2 x5 x20 x21 v40_21 m))))))) (k1 (mbin E .add 3 x22 (.int .i64 1)) fun v40_22 => (ih x1 x2 x5 x20 x21 v40_22 m)))))))) (fun v m => kp v m))))) (kx0 x1 x2 x5 m)))) n
noncomputable def r62_L2 (call : CallF) (fuel base : Nat) (kr : Value → M → Res2) (kx2 : Value → Value → Value → M → Res2) (n : Nat) : Value → Value → Value → Value → Value → Value → M → Res2 :=
  Nat.rec (motive := fun _ => Value → Value → Value → Value → Value → Value → M → Res2) (fun _ _ _ _ _ _ _ => none)
    (fun _ ih x1 x5 x9 x46 x47 x48 m =>
      (k1 (mbin E .lss 3 x48 x47) fun v49_31 => (kb v49_31 (k1 (mindexAddr E.P 103 x46 x48) fun v51_32 => (k1 (xload E.P m 33 v51_32) fun v52_33 => (k2 (vcall E.P base m .len [33] [v52_33]) fun v54_34 m => (k1 (mbin E .gtr 3 v54_34 (.int .i64 0)) fun v55_35 => (kb v55_35 (k1 (xload E.P m 33 x5) fun v57_36 => (k1 (mindexAddr E.P 33 v57_36 x48) fun v59_37 => (k1 (xload E.P m 3 v59_37) fun v60_38 => (k1 (mbin E .eql 3 v60_38 (.int .i64 0)) fun v61_39 => (kb v61_39 (kr (.bool false) m) (k1 (mbin E .add 3 x48 (.int .i64 1)) fun v63_40 => (ih x1 x5 x9 x46 x47 v63_40 m))))))) (k1 (mbin E .add 3 x48 (.int .i64 1)) fun v63_41 => (ih x1 x5 x9 x46 x47 v63_41 m))))))) (kx2 x1 x5 x9 m)))) n
noncomputable def r62_L4 (call : CallF) (fuel base : Nat) (kp : Value → M → Res2) (kr : Value → M → Res2) (kx4 : M → Res2) (n : Nat) : Value → Value → Value → Value → Value → M → Res2 :=
  Nat.rec (motive := fun _ => Value → Value → Value → Value → Value → M → Res2) (fun _ _ _ _ _ _ => none)
    (fun _ ih x5 x9 x64 x65 x66 m =>
      (k1 (mbin E .lss 3 x66 x65) fun v67_47 => (kb v67_47 (k1 (mindexAddr E.P 23 x64 x66) fun v68_48 => (k1 (xload E.P m 33 v68_48) fun v69_49 => (k2 (xalloc E.P m 33) fun v14_50 m => (ks (xstore E.P base m 33 v14_50 v69_49) fun m => (k1 (xload E.P m 33 v14_50) fun v72_51 => (k1 (mslice E.P m 33 v72_51 (some (.int .i64 1)) none none) fun v73_52 => (kc (call base 95 [v73_52] m) (fun v74_53 m => (k1 (mindexAddr E.P 103 x9 v74_53) fun v75_54 => (k1 (xload E.P m 33 v75_54) fun v76_55 => (kc (call base 81 [v76_55, (.func (.func 97) #[] #[x5, v14_50])] m) (fun v78_56 m => (kb v78_56 (kr (.bool false) m) (k1 (mbin E .add 3 x66 (.int .i64 1)) fun v79_57 => (ih x5 x9 x64 x65 v79_57 m)))) (fun v m => kp v m))))) (fun v m => kp v m)))))))) (kx4 m)))) n
noncomputable def r62 (call : CallF) (fuel base : Nat) (x0 : Value) (x1 : Value) (m : M) : Res2 :=
  (k2 (xbox m x0) fun v2_1 m => (k1 (mfieldAddr E.P 76 v2_1 0) fun v16_2 => (k1 (xload E.P m 3 v16_2) fun v17_3 => (kc (call base 94 [v17_3] m) (fun v18_4 m => (k2 (xmakeSlice E.P m 33 v18_4 v18_4) fun v19_5 m => (k2 (xalloc E.P m 33) fun v5_6 m => (ks (xstore E.P base m 33 v5_6 v19_5) fun m => (k2 (vcall E.P base m .len [23] [x1]) fun v21_7 m => (r62_L0 call fuel base (fun v m => some (.pan v, m)) (fun y1_23 y2_24 y5_25 m => (k1 (xload E.P m 76 y2_24) fun v42_26 => (kc (call base 96 [v42_26] m) (fun v43_27 m => (k1 (mextract 0 v43_27) fun v44_28 => (k1 (mextract 1 v43_27) fun v45_29 => (k2 (vcall E.P base m .len [103] [v45_29]) fun v47_30 m => (r62_L2 call fuel base (fun y4_42 m => (fVal y4_42 fun v => some (.ret v, m))) (fun y1_43 y5_44 y9_45 m => (k2 (vcall E.P base m .len [23] [y1_43]) fun v65_46 m => (r62_L4 call fuel base (fun v m => some (.pan v, m)) (fun y4_58 m => (fVal y4_58 fun v => some (.ret v, m))) (fun m => (fVal (.bool true) fun v => some (.ret v, m))) fuel y5_44 y9_45 y1_43 v65_46 (.int .i64 0) m))) fuel y1_23 y5_25 v44_28 v45_29 v47_30 (.int .i64 0) m))))) (fun v m => some (.pan v, m))))) fuel x1 v2_1 v5_6 x1 v21_7 (.int .i64 0) m)))))) (fun v m => some (.pan v, m))))))
def keep62 : Keep := { region := fun i => ([[1, 2], [1, 2, 5], [1, 2, 5, 20, 21, 22], [1, 2, 5, 20, 21, 22, 23], [1, 2, 5, 7, 20, 21, 22], [1, 2, 5, 7, 8, 20, 21, 22], [1, 2, 5, 7, 8, 20, 21, 22, 33], [1, 2, 5, 20, 21, 22], [1, 2, 5, 20, 21, 22], [1, 5, 9, 10], [1, 5, 9, 46, 47, 48], [1, 5, 9, 46, 47, 48, 49], [1, 5, 9, 11, 12, 46, 47, 48], [1, 5, 9, 46, 47, 48, 62], [4], [1, 5, 9, 46, 47, 48], [5, 9, 64, 65, 66], [5, 9, 64, 65, 66, 67], [5, 9, 14, 64, 65, 66], [5, 9, 14, 15, 64, 65, 66], [5, 9, 64, 65, 66, 78], [4], [5, 9, 64, 65, 66], [4]] : List (List Nat))[i]?, exit := fun i => ([[1, 2, 5], [1, 2, 5, 20, 21, 22], [1, 5, 9], [1, 5, 9, 46, 47, 48], [], [5, 9, 64, 65, 66]] : List (List Nat))[i]?, ret := some [4] }
noncomputable def r62_L0_R (call : CallF) (fuel base n : Nat) (vs : List Value) (m : M) (K : KT) : Res2 := match vs with
  | [x1, x2, x5, x20, x21, x22] => r62_L0 call fuel base (fun v m => K (.pan v) { n := 80, l := [] } m) (fun y1 y2 y5 m => K (.exit 0) { n := 80, l := [(1, y1), (2, y2), (5, y5)] } m) n x1 x2 x5 x20 x21 x22 m
  | _ => none
noncomputable def r62_L2_R (call : CallF) (fuel base n : Nat) (vs : List Value) (m : M) (K : KT) : Res2 := match vs with
  | [x1, x5, x9, x46, x47, x48] => r62_L2 call fuel base (fun y4 m => K .ret { n := 80, l := [(4, y4)] } m) (fun y1 y5 y9 m => K (.exit 2) { n := 80, l := [(1, y1), (5, y5), (9, y9)] } m) n x1 x5 x9 x46 x47 x48 m
  | _ => none
noncomputable def r62_L4_R (call : CallF) (fuel base n : Nat) (vs : List Value) (m : M) (K : KT) : Res2 := match vs with
  | [x5, x9, x64, x65, x66] => r62_L4 call fuel base (fun v m => K (.pan v) { n := 80, l := [] } m) (fun y4 m => K .ret { n := 80, l := [(4, y4)] } m) (fun m => K (.exit 4) { n := 80, l := [] } m) n x5 x9 x64 x65 x66 m
  | _ => none
noncomputable def lp62 (call : CallF) (fuel base : Nat) : Lp := lpsel [(0, fun T m K => kslots 80 [1, 2, 5, 20, 21, 22] T fun vs => r62_L0_R call fuel base fuel vs m K), (2, fun T m K => kslots 80 [1, 5, 9, 46, 47, 48] T fun vs => r62_L2_R call fuel base fuel vs m K), (4, fun T m K => kslots 80 [5, 9, 64, 65, 66] T fun vs => r62_L4_R call fuel base fuel vs m K)]
noncomputable def c62 : Code := Try.f62.body.getD .skip
theorem r62_L0_lk (call : CallF) (fuel base : Nat) : LoopsOk E call (lp62 call fuel base) fuel base 0 (loopB (blockB (seqR (seqL (seqR (seqR c62)))))) = (And True (And (And True True) (And (And True (And True (And True (And True True)))) True))) := by kernel_rfl
theorem r62_L0_ok (call : CallF) (fuel base : Nat) : LpOk E call (lp62 call fuel base) fuel base 0 (loopB (blockB (seqR (seqL (seqR (seqR c62)))))) := by
  refine loop_ok (kp := keep62) (hb := Eq.mpr (r62_L0_lk call fuel base) (And.intro trivial (And.intro (And.intro trivial trivial) (And.intro (And.intro trivial (And.intro trivial (And.intro trivial (And.intro trivial trivial)))) trivial)))) 80 [1, 2, 5, 20, 21, 22] (fun n vs m K => r62_L0_R call fuel base n vs m K) ?_ ?_ (fun _ _ _ => rfl)
  · intro vs m K
    unfold r62_L0_R
    split <;> rfl
  · intro n vs m K hl
    match vs, hl with
    | [x1, x2, x5, x20, x21, x22], _ => show _ = _; kernel_rfl
theorem r62_L2_lk (call : CallF) (fuel base : Nat) : LoopsOk E call (lp62 call fuel base) fuel base 2 (loopB (blockB (seqR (seqL (seqR (seqR (seqR (seqR c62)))))))) = (And True (And (And True True) (And (And True (And True (And (And True True) True))) True))) := by kernel_rfl
theorem r62_L2_ok (call : CallF) (fuel base : Nat) : LpOk E call (lp62 call fuel base) fuel base 2 (loopB (blockB (seqR (seqL (seqR (seqR (seqR (seqR c62)))))))) := by
  refine loop_ok (kp := keep62) (hb := Eq.mpr (r62_L2_lk call fuel base) (And.intro trivial (And.intro (And.intro trivial trivial) (And.intro (And.intro trivial (And.intro trivial (And.intro (And.intro trivial trivial) trivial))) trivial)))) 80 [1, 5, 9, 46, 47, 48] (fun n vs m K => r62_L2_R call fuel base n vs m K) ?_ ?_ (fun _ _ _ => rfl)
  · intro vs m K
    unfold r62_L2_R
    split <;> rfl
  · intro n vs m K hl
    match vs, hl with
    | [x1, x5, x9, x46, x47, x48], _ => show _ = _; kernel_rfl
theorem r62_L4_lk (call : CallF) (fuel base : Nat) : LoopsOk E call (lp62 call fuel base) fuel base 4 (loopB (blockB (seqR (seqL (seqR (seqR (seqR (seqR (seqR c62))))))))) = (And True (And (And True True) (And (And True (And True (And True (And (And True True) True)))) True))) := by kernel_rfl
theorem r62_L4_ok (call : CallF) (fuel base : Nat) : LpOk E call (lp62 call fuel base) fuel base 4 (loopB (blockB (seqR (seqL (seqR (seqR (seqR (seqR (seqR c62))))))))) := by
  refine loop_ok (kp := keep62) (hb := Eq.mpr (r62_L4_lk call fuel base) (And.intro trivial (And.intro (And.intro trivial trivial) (And.intro (And.intro trivial (And.intro trivial (And.intro trivial (And.intro (And.intro trivial trivial) trivial)))) trivial)))) 80 [5, 9, 64, 65, 66] (fun n vs m K => r62_L4_R call fuel base n vs m K) ?_ ?_ (fun _ _ _ => rfl)
  · intro vs m K
    unfold r62_L4_R
    split <;> rfl
  · intro n vs m K hl
    match vs, hl with
    | [x5, x9, x64, x65, x66], _ => show _ = _; kernel_rfl
theorem r62_eq (call : CallF) (fuel base : Nat) (x0 : Value) (x1 : Value) (m : M) : kbody E call keep62 (lp62 call fuel base) base Try.f62 [x0, x1] m = r62 call fuel base x0 x1 m := by
  kernel_rfl
noncomputable def rf62 : RF := fun call fuel base args m => match args with
  | [x0, x1] => r62 call fuel base x0 x1 m
  | _ => none
theorem r62_lk (call : CallF) (fuel base : Nat) : LoopsOk E call (lp62 call fuel base) fuel base 0 c62 = (And True (And True (And (And True (LpOk E call (lp62 call fuel base) fuel base 0 (loopB (blockB (seqR (seqL (seqR (seqR c62)))))))) (And True (And (And True (LpOk E call (lp62 call fuel base) fuel base 2 (loopB (blockB (seqR (seqL (seqR (seqR (seqR (seqR c62)))))))))) (And (And True (LpOk E call (lp62 call fuel base) fuel base 4 (loopB (blockB (seqR (seqL (seqR (seqR (seqR (seqR (seqR c62))))))))))) (And True True))))))) := by kernel_rfl
theorem r62_fn : E.P.funcs[62]? = some Try.f62 := by kernel_rfl
theorem r62_body : Try.f62.body = some c62 := by kernel_rfl
theorem rf62_ok : RFok E 62 rf62 := by
  refine ⟨Try.f62, r62_fn, fun call fuel base args m r _ h => ?_⟩
  unfold rf62 at h
  split at h
  · rw [← r62_eq] at h
    exact kbody_sound (c := c62) r62_body (Eq.mpr (r62_lk call fuel base) (And.intro trivial (And.intro trivial (And.intro (And.intro trivial (r62_L0_ok call fuel base)) (And.intro trivial (And.intro (And.intro trivial (r62_L2_ok call fuel base)) (And.intro (And.intro trivial (r62_L4_ok call fuel base)) (And.intro trivial trivial)))))))) h
  · simp at h
end Go.AM
namespace Go.AM
open Go Go.Proofs
noncomputable def r66_L0 (call : CallF) (fuel base : Nat) (kx0 : Value → M → Res2) (n : Nat) : Value → Value → Value → Value → M → Res2 :=
  Nat.rec (motive := fun _ => Value → Value → Value → Value → M → Res2) (fun _ _ _ _ _ => none)
    (fun _ ih x0 x1 x5 x6 m =>
      (k1 (mbin E .lss 3 x6 x1) fun v9_1 => (kb v9_1 (k1 (mbin E .mul 3 x5 x0) fun v14_2 => (k1 (mbin E .add 3 x6 (.int .i64 1)) fun v11_3 => (ih x0 x1 v14_2 v11_3 m))) (kx0 x5 m)))) n
noncomputable def r66 (call : CallF) (fuel base : Nat) (x0 : Value) (x1 : Value) (m : M) : Res2 :=
  (r66_L0 call fuel base (fun y5_4 m => (fVal y5_4 fun v => some (.ret v, m))) fuel x0 x1 (.int .i64 1) (.int .i64 0) m)
def keep66 : Keep := { region := fun i => ([[0, 1], [0, 1, 5], [0, 1, 5, 6], [0, 1, 5, 6, 9], [0, 1, 5, 6], [0, 1, 5, 6], [4]] : List (List Nat))[i]?, exit := fun i => ([[5], [0, 1, 5, 6]] : List (List Nat))[i]?, ret := some [4] }
noncomputable def r66_L0_R (call : CallF) (fuel base n : Nat) (vs : List Value) (m : M) (K : KT) : Res2 := match vs with
  | [x0, x1, x5, x6] => r66_L0 call fuel base (fun y5 m => K (.exit 0) { n := 16, l := [(5, y5)] } m) n x0 x1 x5 x6 m
  | _ => none
noncomputable def lp66 (call : CallF) (fuel base : Nat) : Lp := lpsel [(0, fun T m K => kslots 16 [0, 1, 5, 6] T fun vs => r66_L0_R call fuel base fuel vs m K)]
noncomputable def c66 : Code := Try.f66.body.getD .skip
theorem r66_L0_lk (call : CallF) (fuel base : Nat) : LoopsOk E call (lp66 call fuel base) fuel base 0 (loopB (blockB (seqR (seqL (seqR (seqR c66)))))) = (And (And True (And True True)) (And True True)) := by kernel_rfl
theorem r66_L0_ok (call : CallF) (fuel base : Nat) : LpOk E call (lp66 call fuel base) fuel base 0 (loopB (blockB (seqR (seqL (seqR (seqR c66)))))) := by
  refine loop_ok (kp := keep66) (hb := Eq.mpr (r66_L0_lk call fuel base) (And.intro (And.intro trivial (And.intro trivial trivial)) (And.intro trivial trivial))) 16 [0, 1, 5, 6] (fun n vs m K => r66_L0_R call fuel base n vs m K) ?_ ?_ (fun _ _ _ => rfl)
  · intro vs m K
    unfold r66_L0_R
    split <;> rfl
  · intro n vs m K hl
    match vs, hl with
    | [x0, x1, x5, x6], _ => show _ = _; kernel_rfl
theorem r66_eq (call : CallF) (fuel base : Nat) (x0 : Value) (x1 : Value) (m : M) : kbody E call keep66 (lp66 call fuel base) base Try.f66 [x0, x1] m = r66 call fuel base x0 x1 m := by
  kernel_rfl
noncomputable def rf66 : RF := fun call fuel base args m => match args with
  | [x0, x1] => r66 call fuel base x0 x1 m
  | _ => none
theorem r66_lk (call : CallF) (fuel base : Nat) : LoopsOk E call (lp66 call fuel base) fuel base 0 c66 = (And True (And True (And (And True (LpOk E call (lp66 call fuel base) fuel base 0 (loopB (blockB (seqR (seqL (seqR (seqR c66)))))))) (And True True)))) := by kernel_rfl
theorem r66_fn : E.P.funcs[66]? = some Try.f66 := by kernel_rfl
theorem r66_body : Try.f66.body = some c66 := by kernel_rfl
theorem rf66_ok : RFok E 66 rf66 := by
  refine ⟨Try.f66, r66_fn, fun call fuel base args m r _ h => ?_⟩
  unfold rf66 at h
  split at h
  · rw [← r66_eq] at h
    exact kbody_sound (c := c66) r66_body (Eq.mpr (r66_lk call fuel base) (And.intro trivial (And.intro trivial (And.intro (And.intro trivial (r66_L0_ok call fuel base)) (And.intro trivial trivial))))) h
  · simp at h
end Go.AM
namespace Go.AM
open Go Go.Proofs
noncomputable def r67_L2 (call : CallF) (fuel base : Nat) (kx2 : Value → Value → Value → Value → M → Res2) (n : Nat) : Value → Value → Value → Value → Value → M → Res2 :=
  Nat.rec (motive := fun _ => Value → Value → Value → Value → Value → M → Res2) (fun _ _ _ _ _ _ => none)
    (fun _ ih x0 x3 x4 x5 x6 m =>
      (k2 (vcall E.P base m .len [22] [x0]) fun v13_2 m => (k1 (mbin E .lss 3 x6 v13_2) fun v14_3 => (kb v14_3 (kb x5 (k1 (mbin E .add 3 x6 (.int .i64 1)) fun v16_4 => (ih x0 x3 x4 (.bool true) v16_4 m)) (k1 (mindexAddr E.P 22 x0 x6) fun v21_5 => (k1 (mfieldAddr E.P 45 v21_5 0) fun v22_6 => (k1 (xload E.P m 3 v22_6) fun v23_7 => (k1 (mbin E .eql 3 v23_7 x4) fun v25_8 => (kb v25_8 (k1 (mbin E .add 3 x6 (.int .i64 1)) fun v16_9 => (ih x0 x3 x4 (.bool true) v16_9 m)) (k1 (mindexAddr E.P 22 x0 x6) fun v30_10 => (k1 (mfieldAddr E.P 45 v30_10 2) fun v31_11 => (k1 (xload E.P m 3 v31_11) fun v32_12 => (k1 (mbin E .eql 3 v32_12 x4) fun v34_13 => (k1 (mbin E .add 3 x6 (.int .i64 1)) fun v16_14 => (ih x0 x3 x4 v34_13 v16_14 m)))))))))))) (kx2 x0 x3 x4 x5 m))))) n
noncomputable def r67_L0 (call : CallF) (fuel base : Nat) (kx0 : Value → M → Res2) (n : Nat) : Value → Value → Value → M → Res2 :=
  Nat.rec (motive := fun _ => Value → Value → Value → M → Res2) (fun _ _ _ _ => none)
    (fun _ ih x0 x3 x4 m =>
      (k1 (mbin E .leq 3 x4 (.int .i64 7)) fun v8_1 => (kb v8_1 (r67_L2 call fuel base (fun y0_15 y3_16 y4_17 y5_18 m => (kb y5_18 (k2 (xbuildSlice E.P m 33 1 [(0, y4_17)]) fun v39_19 m => (k2 (vcall E.P base m .append [33, 33] [y3_16, v39_19]) fun v40_20 m => (k1 (mbin E .add 3 y4_17 (.int .i64 1)) fun v10_21 => (ih y0_15 v40_20 v10_21 m)))) (k1 (mbin E .add 3 y4_17 (.int .i64 1)) fun v10_22 => (ih y0_15 y3_16 v10_22 m)))) fuel x0 x3 x4 (.bool false) (.int .i64 0) m) (kx0 x3 m)))) n
noncomputable def r67 (call : CallF) (fuel base : Nat) (x0 : Value) (m : M) : Res2 :=
  (r67_L0 call fuel base (fun y3_23 m => (fVal y3_23 fun v => some (.ret v, m))) fuel x0 (.slice none 0 0) (.int .i64 0) m)
def keep67 : Keep := { region := fun i => ([[0], [0, 3], [0, 3, 4], [0, 3, 4, 8], [0, 3, 4], [0, 3, 4, 5], [0, 3, 4, 5, 6], [0, 3, 4, 5, 6, 14], [0, 3, 4, 5, 6], [0, 3, 4, 5, 6], [0, 3, 4, 36], [0, 3, 4], [2]] : List (List Nat))[i]?, exit := fun i => ([[3], [0, 3, 4], [0, 3, 4, 5], [0, 3, 4, 5, 6]] : List (List Nat))[i]?, ret := some [2] }
noncomputable def r67_L2_R (call : CallF) (fuel base n : Nat) (vs : List Value) (m : M) (K : KT) : Res2 := match vs with
  | [x0, x3, x4, x5, x6] => r67_L2 call fuel base (fun y0 y3 y4 y5 m => K (.exit 2) { n := 42, l := [(0, y0), (3, y3), (4, y4), (5, y5)] } m) n x0 x3 x4 x5 x6 m
  | _ => none
noncomputable def r67_L0_R (call : CallF) (fuel base n : Nat) (vs : List Value) (m : M) (K : KT) : Res2 := match vs with
  | [x0, x3, x4] => r67_L0 call fuel base (fun y3 m => K (.exit 0) { n := 42, l := [(3, y3)] } m) n x0 x3 x4 m
  | _ => none
noncomputable def lp67 (call : CallF) (fuel base : Nat) : Lp := lpsel [(2, fun T m K => kslots 42 [0, 3, 4, 5, 6] T fun vs => r67_L2_R call fuel base fuel vs m K), (0, fun T m K => kslots 42 [0, 3, 4] T fun vs => r67_L0_R call fuel base fuel vs m K)]
noncomputable def c67 : Code := Try.f67.body.getD .skip
theorem r67_L2_lk (call : CallF) (fuel base : Nat) : LoopsOk E call (lp67 call fuel base) fuel base 2 (loopB (blockB (seqR (seqL (seqR (blockB (seqL (seqR (loopB (blockB (seqR (seqL (seqR (seqR c67)))))))))))))) = (And (And True (And True True)) (And True True)) := by kernel_rfl
theorem r67_L2_ok (call : CallF) (fuel base : Nat) : LpOk E call (lp67 call fuel base) fuel base 2 (loopB (blockB (seqR (seqL (seqR (blockB (seqL (seqR (loopB (blockB (seqR (seqL (seqR (seqR c67)))))))))))))) := by
  refine loop_ok (kp := keep67) (hb := Eq.mpr (r67_L2_lk call fuel base) (And.intro (And.intro trivial (And.intro trivial trivial)) (And.intro trivial trivial))) 42 [0, 3, 4, 5, 6] (fun n vs m K => r67_L2_R call fuel base n vs m K) ?_ ?_ (fun _ _ _ => rfl)
  · intro vs m K
    unfold r67_L2_R
    split <;> rfl
  · intro n vs m K hl
    match vs, hl with
    | [x0, x3, x4, x5, x6], _ => show _ = _; kernel_rfl
theorem r67_L0_lk (call : CallF) (fuel base : Nat) : LoopsOk E call (lp67 call fuel base) fuel base 0 (loopB (blockB (seqR (seqL (seqR (seqR c67)))))) = (And (And True (And True True)) (And (And True (And (And True (LpOk E call (lp67 call fuel base) fuel base 2 (loopB (blockB (seqR (seqL (seqR (blockB (seqL (seqR (loopB (blockB (seqR (seqL (seqR (seqR c67)))))))))))))))) (And True (And True True)))) True)) := by kernel_rfl
theorem r67_L0_ok (call : CallF) (fuel base : Nat) : LpOk E call (lp67 call fuel base) fuel base 0 (loopB (blockB (seqR (seqL (seqR (seqR c67)))))) := by
  refine loop_ok (kp := keep67) (hb := Eq.mpr (r67_L0_lk call fuel base) (And.intro (And.intro trivial (And.intro trivial trivial)) (And.intro (And.intro trivial (And.intro (And.intro trivial (r67_L2_ok call fuel base)) (And.intro trivial (And.intro trivial trivial)))) trivial))) 42 [0, 3, 4] (fun n vs m K => r67_L0_R call fuel base n vs m K) ?_ ?_ (fun _ _ _ => rfl)
  · intro vs m K
    unfold r67_L0_R
    split <;> rfl
  · intro n vs m K hl
    match vs, hl with
    | [x0, x3, x4], _ => show _ = _; kernel_rfl
theorem r67_eq (call : CallF) (fuel base : Nat) (x0 : Value) (m : M) : kbody E call keep67 (lp67 call fuel base) base Try.f67 [x0] m = r67 call fuel base x0 m := by
  kernel_rfl
noncomputable def rf67 : RF := fun call fuel base args m => match args with
  | [x0] => r67 call fuel base x0 m
  | _ => none
theorem r67_lk (call : CallF) (fuel base : Nat) : LoopsOk E call (lp67 call fuel base) fuel base 0 c67 = (And True (And True (And (And True (LpOk E call (lp67 call fuel base) fuel base 0 (loopB (blockB (seqR (seqL (seqR (seqR c67)))))))) (And True True)))) := by kernel_rfl
theorem r67_fn : E.P.funcs[67]? = some Try.f67 := by kernel_rfl
theorem r67_body : Try.f67.body = some c67 := by kernel_rfl
theorem rf67_ok : RFok E 67 rf67 := by
  refine ⟨Try.f67, r67_fn, fun call fuel base args m r _ h => ?_⟩
  unfold rf67 at h
  split at h
  · rw [← r67_eq] at h
    exact kbody_sound (c := c67) r67_body (Eq.mpr (r67_lk call fuel base) (And.intro trivial (And.intro trivial (And.intro (And.intro trivial (r67_L0_ok call fuel base)) (And.intro trivial trivial))))) h
  · simp at h
end Go.AM
namespace Go.AM
open Go Go.Proofs
noncomputable def r68 (call : CallF) (fuel base : Nat) (x0 : Value) (m : M) : Res2 :=
  (k1 (mbin E .gtr 3 x0 (.int .i64 1099511627776)) fun v5_1 => (kb v5_1 (some (.ret (.tuple #[(.int .i64 0), (.int .i64 8)]), m)) (some (.ret (.tuple #[x0, (.int .i64 0)]), m))))
def keep68 : Keep := { region := fun i => ([[0], [0, 5], [2, 3], [2, 3]] : List (List Nat))[i]?, exit := fun i => ([] : List (List Nat))[i]?, ret := some [2, 3] }
noncomputable def lp68 (call : CallF) (fuel base : Nat) : Lp := lpsel []
noncomputable def c68 : Code := Try.f68.body.getD .skip
theorem r68_eq (call : CallF) (fuel base : Nat) (x0 : Value) (m : M) : kbody E call keep68 (lp68 call fuel base) base Try.f68 [x0] m = r68 call fuel base x0 m := by
  kernel_rfl
noncomputable def rf68 : RF := fun call fuel base args m => match args with
  | [x0] => r68 call fuel base x0 m
  | _ => none
theorem r68_lk (call : CallF) (fuel base : Nat) : LoopsOk E call (lp68 call fuel base) fuel base 0 c68 = (And True (And (And True (And (And True True) True)) (And True True))) := by kernel_rfl
theorem r68_fn : E.P.funcs[68]? = some Try.f68 := by kernel_rfl
theorem r68_body : Try.f68.body = some c68 := by kernel_rfl
theorem rf68_ok : RFok E 68 rf68 := by
  refine ⟨Try.f68, r68_fn, fun call fuel base args m r _ h => ?_⟩
  unfold rf68 at h
  split at h
  · rw [← r68_eq] at h
    exact kbody_sound (c := c68) r68_body (Eq.mpr (r68_lk call fuel base) (And.intro trivial (And.intro (And.intro trivial (And.intro (And.intro trivial trivial) trivial)) (And.intro trivial trivial)))) h
  · simp at h
end Go.AM
namespace Go.AM
open Go Go.Proofs
noncomputable def r69_L0 (call : CallF) (fuel base : Nat) (kp : Value → M → Res2) (kx0 : Value → M → Res2) (n : Nat) : Value → Value → Value → Value → M → Res2 :=
  Nat.rec (motive := fun _ => Value → Value → Value → Value → M → Res2) (fun _ _ _ _ _ => none)
    (fun _ ih x5 x13 x14 x15 m =>
      (k1 (mbin E .lss 3 x15 x14) fun v16_7 => (kb v16_7 (k1 (mindexAddr E.P 33 x13 x15) fun v17_8 => (k1 (xload E.P m 3 v17_8) fun v18_9 => (kc (call base 99 [x5, v18_9] m) (fun v21_10 m => (k1 (mbin E .add 3 x15 (.int .i64 1)) fun v22_11 => (ih v21_10 x13 x14 v22_11 m))) (fun v m => kp v m)))) (kx0 x5 m)))) n
noncomputable def r69 (call : CallF) (fuel base : Nat) (x0 : Value) (x1 : Value) (m : M) : Res2 :=
  (k2 (xbox m x0) fun v2_1 m => (k1 (xload E.P m 76 v2_1) fun v8_2 => (kc (call base 98 [v8_2, x1] m) (fun v10_3 m => (k1 (mindexAddr E.P 23 v10_3 x1) fun v12_4 => (k1 (xload E.P m 33 v12_4) fun v13_5 => (k2 (vcall E.P base m .len [33] [v13_5]) fun v14_6 m => (r69_L0 call fuel base (fun v m => some (.pan v, m)) (fun y5_12 m => (fVal y5_12 fun v => some (.ret v, m))) fuel (.int .i64 0) v13_5 v14_6 (.int .i64 0) m))))) (fun v m => some (.pan v, m)))))
def keep69 : Keep := { region := fun i => ([[1, 2], [1, 2, 5], [5, 13, 14, 15], [5, 13, 14, 15, 16], [5, 7, 13, 14, 15], [5, 13, 14, 15], [5, 13, 14, 15], [4]] : List (List Nat))[i]?, exit := fun i => ([[5], [5, 13, 14, 15]] : List (List Nat))[i]?, ret := some [4] }
noncomputable def r69_L0_R (call : CallF) (fuel base n : Nat) (vs : List Value) (m : M) (K : KT) : Res2 := match vs with
  | [x5, x13, x14, x15] => r69_L0 call fuel base (fun v m => K (.pan v) { n := 24, l := [] } m) (fun y5 m => K (.exit 0) { n := 24, l := [(5, y5)] } m) n x5 x13 x14 x15 m
  | _ => none
noncomputable def lp69 (call : CallF) (fuel base : Nat) : Lp := lpsel [(0, fun T m K => kslots 24 [5, 13, 14, 15] T fun vs => r69_L0_R call fuel base fuel vs m K)]
noncomputable def c69 : Code := Try.f69.body.getD .skip
theorem r69_L0_lk (call : CallF) (fuel base : Nat) : LoopsOk E call (lp69 call fuel base) fuel base 0 (loopB (blockB (seqR (seqL (seqR (seqR c69)))))) = (And True (And (And True True) (And (And True True) True))) := by kernel_rfl
theorem r69_L0_ok (call : CallF) (fuel base : Nat) : LpOk E call (lp69 call fuel base) fuel base 0 (loopB (blockB (seqR (seqL (seqR (seqR c69)))))) := by
  refine loop_ok (kp := keep69) (hb := Eq.mpr (r69_L0_lk call fuel base) (And.intro trivial (And.intro (And.intro trivial trivial) (And.intro (And.intro trivial trivial) trivial)))) 24 [5, 13, 14, 15] (fun n vs m K => r69_L0_R call fuel base n vs m K) ?_ ?_ (fun _ _ _ => rfl)
  · intro vs m K
    unfold r69_L0_R
    split <;> rfl
  · intro n vs m K hl
    match vs, hl with
    | [x5, x13, x14, x15], _ => show _ = _; kernel_rfl
theorem r69_eq (call : CallF) (fuel base : Nat) (x0 : Value) (x1 : Value) (m : M) : kbody E call keep69 (lp69 call fuel base) base Try.f69 [x0, x1] m = r69 call fuel base x0 x1 m := by
  kernel_rfl
noncomputable def rf69 : RF := fun call fuel base args m => match args with
  | [x0, x1] => r69 call fuel base x0 x1 m
  | _ => none
theorem r69_lk (call : CallF) (fuel base : Nat) : LoopsOk E call (lp69 call fuel base) fuel base 0 c69 = (And True (And True (And (And True (LpOk E call (lp69 call fuel base) fuel base 0 (loopB (blockB (seqR (seqL (seqR (seqR c69)))))))) (And True True)))) := by kernel_rfl
theorem r69_fn : E.P.funcs[69]? = some Try.f69 := by kernel_rfl
theorem r69_body : Try.f69.body = some c69 := by kernel_rfl
theorem rf69_ok : RFok E 69 rf69 := by
  refine ⟨Try.f69, r69_fn, fun call fuel base args m r _ h => ?_⟩
  unfold rf69 at h
  split at h
  · rw [← r69_eq] at h
    exact kbody_sound (c := c69) r69_body (Eq.mpr (r69_lk call fuel base) (And.intro trivial (And.intro trivial (And.intro (And.intro trivial (r69_L0_ok call fuel base)) (And.intro trivial trivial))))) h
  · simp at h
end Go.AM
namespace Go.AM
open Go Go.Proofs
noncomputable def r70_L6 (call : CallF) (fuel base : Nat) (kp : Value → M → Res2) (kx6 : Value → Value → Value → Value → Value → Value → Value → Value → M → Res2) (n : Nat) : Value → Value → Value → Value → Value → Value → Value → Value → Value → M → Res2 :=
  Nat.rec (motive := fun _ => Value → Value → Value → Value → Value → Value → Value → Value → Value → M → Res2) (fun _ _ _ _ _ _ _ _ _ _ => none)
    (fun _ ih x0 x1 x7 x10 x11 x13 x14 x15 x16 m =>
      (k2 (vcall E.P base m .len [22] [x0]) fun v72_29 m => (k1 (mbin E .lss 3 x16 v72_29) fun v73_30 => (kb v73_30 (k1 (mindexAddr E.P 22 x0 x16) fun v78_31 => (k1 (xload E.P m 45 v78_31) fun v79_32 => (kc (call base 72 [v79_32, x7, x1, x13, x14] m) (fun v84_33 m => (k1 (mbin E .geq 3 v84_33 (.int .i64 0)) fun v86_34 => (kb v86_34 (k1 (mbin E .add 3 x13 (.int .i64 1)) fun v90_35 => (k1 (mindexAddr E.P 23 x11 v90_35) fun v91_36 => (k1 (xload E.P m 33 v91_36) fun v92_37 => (k1 (mindexAddr E.P 33 v92_37 v84_33) fun v94_38 => (k1 (xload E.P m 3 v94_38) fun v95_39 => (k1 (mbin E .add 3 x15 v95_39) fun v96_40 => (kc (call base 76 [v96_40] m) (fun v97_41 m => (k1 (mbin E .add 3 x16 (.int .i64 1)) fun v75_42 => (ih x0 x1 x7 x10 x11 x13 x14 v97_41 v75_42 m))) (fun v m => kp v m)))))))) (k1 (mbin E .add 3 x16 (.int .i64 1)) fun v75_43 => (ih x0 x1 x7 x10 x11 x13 x14 x15 v75_43 m))))) (fun v m => kp v m)))) (kx6 x0 x1 x7 x10 x11 x13 x14 x15 m))))) n
noncomputable def r70_L4 (call : CallF) (fuel base : Nat) (kp : Value → M → Res2) (kx4 : Value → Value → Value → Value → Value → Value → M → Res2) (n : Nat) : Value → Value → Value → Value → Value → Value → Value → M → Res2 :=
  Nat.rec (motive := fun _ => Value → Value → Value → Value → Value → Value → Value → M → Res2) (fun _ _ _ _ _ _ _ _ => none)
    (fun _ ih x0 x1 x7 x10 x11 x13 x14 m =>
      (k1 (mbin E .lss 3 x14 x10) fun v67_28 => (kb v67_28 (r70_L6 call fuel base (fun v m => kp v m) (fun y0_44 y1_45 y7_46 y10_47 y11_48 y13_49 y14_50 y15_51 m => (k1 (mindexAddr E.P 23 y11_48 y13_49) fun v100_52 => (k1 (xload E.P m 33 v100_52) fun v101_53 => (k1 (mindexAddr E.P 33 v101_53 y14_50) fun v104_54 => (ks (xstore E.P base m 3 v104_54 y15_51) fun m => (k1 (mbin E .add 3 y14_50 (.int .i64 1)) fun v69_55 => (ih y0_44 y1_45 y7_46 y10_47 y11_48 y13_49 v69_55 m))))))) fuel x0 x1 x7 x10 x11 x13 x14 (.int .i64 0) (.int .i64 0) m) (kx4 x0 x1 x7 x10 x11 x13 m)))) n
noncomputable def r70_L0 (call : CallF) (fuel base : Nat) (kx0 : Value → Value → Value → Value → Value → Value → M → Res2) (n : Nat) : Value → Value → Value → Value → Value → Value → Value → M → Res2 :=
  Nat.rec (motive := fun _ => Value → Value → Value → Value → Value → Value → Value → M → Res2) (fun _ _ _ _ _ _ _ _ => none)
    (fun _ ih x0 x1 x2 x7 x10 x11 x12 m =>
      (k1 (mbin E .lss 3 x12 x10) fun v41_11 => (kb v41_11 (k1 (mbin E .mul 3 x1 x2) fun v47_12 => (k1 (mindexAddr E.P 23 x11 v47_12) fun v48_13 => (k1 (xload E.P m 33 v48_13) fun v49_14 => (k1 (mindexAddr E.P 33 v49_14 x12) fun v51_15 => (ks (xstore E.P base m 3 v51_15 (.int .i64 1)) fun m => (k1 (mbin E .add 3 x12 (.int .i64 1)) fun v43_16 => (ih x0 x1 x2 x7 x10 x11 v43_16 m))))))) (kx0 x0 x1 x2 x7 x10 x11 m)))) n
noncomputable def r70_L2 (call : CallF) (fuel base : Nat) (kp : Value → M → Res2) (kx2 : Value → M → Res2) (n : Nat) : Value → Value → Value → Value → Value → Value → M → Res2 :=
  Nat.rec (motive := fun _ => Value → Value → Value → Value → Value → Value → M → Res2) (fun _ _ _ _ _ _ _ => none)
    (fun _ ih x0 x1 x7 x10 x11 x13 m =>
      (k1 (mbin E .geq 3 x13 (.int .i64 0)) fun v57_25 => (kb v57_25 (k2 (xmakeSlice E.P m 33 x10 x10) fun v63_26 m => (k1 (mindexAddr E.P 23 x11 x13) fun v64_27 => (ks (xstore E.P base m 33 v64_27 v63_26) fun m => (r70_L4 call fuel base (fun v m => kp v m) (fun y0_56 y1_57 y7_58 y10_59 y11_60 y13_61 m => (k1 (mbin E .sub 3 y13_61 (.int .i64 1)) fun v59_62 => (ih y0_56 y1_57 y7_58 y10_59 y11_60 v59_62 m))) fuel x0 x1 x7 x10 x11 x13 (.int .i64 0) m)))) (kx2 x11 m)))) n
noncomputable def r70 (call : CallF) (fuel base : Nat) (x0 : Value) (x1 : Value) (x2 : Value) (m : M) : Res2 :=
  (kc (call base 67 [x0] m) (fun v19_1 m => (k2 (vcall E.P base m .len [33] [v19_1]) fun v21_2 m => (kc (call base 66 [v21_2, x1] m) (fun v24_3 m => (k1 (mbin E .mul 3 v24_3 (.int .i64 8)) fun v26_4 => (k1 (mbin E .mul 3 x1 x2) fun v29_5 => (k1 (mbin E .add 3 v29_5 (.int .i64 1)) fun v30_6 => (k2 (xmakeSlice E.P m 23 v30_6 v30_6) fun v31_7 m => (k1 (mbin E .mul 3 x1 x2) fun v35_8 => (k2 (xmakeSlice E.P m 33 v26_4 v26_4) fun v37_9 m => (k1 (mindexAddr E.P 23 v31_7 v35_8) fun v38_10 => (ks (xstore E.P base m 33 v38_10 v37_9) fun m => (r70_L0 call fuel base (fun y0_17 y1_18 y2_19 y7_20 y10_21 y11_22 m => (k1 (mbin E .mul 3 y1_18 y2_19) fun v54_23 => (k1 (mbin E .sub 3 v54_23 (.int .i64 1)) fun v55_24 => (r70_L2 call fuel base (fun v m => some (.pan v, m)) (fun y11_63 m => (fVal y11_63 fun v => some (.ret v, m))) fuel y0_17 y1_18 y7_20 y10_21 y11_22 v55_24 m)))) fuel x0 x1 x2 v19_1 v26_4 v31_7 (.int .i64 0) m)))))))))) (fun v m => some (.pan v, m))))) (fun v m => some (.pan v, m)))
def keep70 : Keep := { region := fun i => ([[0, 1, 2], [0, 1, 2, 7], [0, 1, 2, 7, 8, 9], [0, 1, 2, 7, 10], [0, 1, 2, 7, 10, 11], [0, 1, 2, 7, 10, 11], [0, 1, 2, 7, 10, 11, 12], [0, 1, 2, 7, 10, 11, 12, 41], [0, 1, 2, 7, 10, 11, 12], [0, 1, 2, 7, 10, 11, 12], [0, 1, 7, 10, 11, 13], [0, 1, 7, 10, 11, 13, 57], [0, 1, 7, 10, 11, 13], [0, 1, 7, 10, 11, 13], [0, 1, 7, 10, 11, 13, 14], [0, 1, 7, 10, 11, 13, 14, 67], [0, 1, 7, 10, 11, 13, 14], [0, 1, 7, 10, 11, 13, 14, 15], [0, 1, 7, 10, 11, 13, 14, 15, 16], [0, 1, 7, 10, 11, 13, 14, 15, 16, 73], [0, 1, 7, 10, 11, 13, 14, 15, 16], [0, 1, 7, 10, 11, 13, 14, 15, 16, 17], [0, 1, 7, 10, 11, 13, 14, 15, 16, 17, 86], [0, 1, 7, 10, 11, 13, 14, 15, 16], [0, 1, 7, 10, 11, 13, 14], [6]] : List (List Nat))[i]?, exit := fun i => ([[0, 1, 2, 7, 10, 11], [0, 1, 2, 7, 10, 11, 12], [11], [0, 1, 7, 10, 11, 13], [0, 1, 7, 10, 11, 13], [0, 1, 7, 10, 11, 13, 14], [0, 1, 7, 10, 11, 13, 14, 15], [0, 1, 7, 10, 11, 13, 14, 15, 16]] : List (List Nat))[i]?, ret := some [6] }
noncomputable def r70_L6_R (call : CallF) (fuel base n : Nat) (vs : List Value) (m : M) (K : KT) : Res2 := match vs with
  | [x0, x1, x7, x10, x11, x13, x14, x15, x16] => r70_L6 call fuel base (fun v m => K (.pan v) { n := 106, l := [] } m) (fun y0 y1 y7 y10 y11 y13 y14 y15 m => K (.exit 6) { n := 106, l := [(0, y0), (1, y1), (7, y7), (10, y10), (11, y11), (13, y13), (14, y14), (15, y15)] } m) n x0 x1 x7 x10 x11 x13 x14 x15 x16 m
  | _ => none
noncomputable def r70_L4_R (call : CallF) (fuel base n : Nat) (vs : List Value) (m : M) (K : KT) : Res2 := match vs with
  | [x0, x1, x7, x10, x11, x13, x14] => r70_L4 call fuel base (fun v m => K (.pan v) { n := 106, l := [] } m) (fun y0 y1 y7 y10 y11 y13 m => K (.exit 4) { n := 106, l := [(0, y0), (1, y1), (7, y7), (10, y10), (11, y11), (13, y13)] } m) n x0 x1 x7 x10 x11 x13 x14 m
  | _ => none
noncomputable def r70_L0_R (call : CallF) (fuel base n : Nat) (vs : List Value) (m : M) (K : KT) : Res2 := match vs with
  | [x0, x1, x2, x7, x10, x11, x12] => r70_L0 call fuel base (fun y0 y1 y2 y7 y10 y11 m => K (.exit 0) { n := 106, l := [(0, y0), (1, y1), (2, y2), (7, y7), (10, y10), (11, y11)] } m) n x0 x1 x2 x7 x10 x11 x12 m
  | _ => none
noncomputable def r70_L2_R (call : CallF) (fuel base n : Nat) (vs : List Value) (m : M) (K : KT) : Res2 := match vs with
  | [x0, x1, x7, x10, x11, x13] => r70_L2 call fuel base (fun v m => K (.pan v) { n := 106, l := [] } m) (fun y11 m => K (.exit 2) { n := 106, l := [(11, y11)] } m) n x0 x1 x7 x10 x11 x13 m
  | _ => none
noncomputable def lp70 (call : CallF) (fuel base : Nat) : Lp := lpsel [(6, fun T m K => kslots 106 [0, 1, 7, 10, 11, 13, 14, 15, 16] T fun vs => r70_L6_R call fuel base fuel vs m K), (4, fun T m K => kslots 106 [0, 1, 7, 10, 11, 13, 14] T fun vs => r70_L4_R call fuel base fuel vs m K), (0, fun T m K => kslots 106 [0, 1, 2, 7, 10, 11, 12] T fun vs => r70_L0_R call fuel base fuel vs m K), (2, fun T m K => kslots 106 [0, 1, 7, 10, 11, 13] T fun vs => r70_L2_R call fuel base fuel vs m K)]
noncomputable def c70 : Code := Try.f70.body.getD .skip
theorem r70_L6_lk (call : CallF) (fuel base : Nat) : LoopsOk E call (lp70 call fuel base) fuel base 6 (loopB (blockB (seqR (seqL (seqR (blockB (seqL (seqR (loopB (blockB (seqR (seqR (blockB (seqL (seqR (loopB (blockB (seqR (seqL (seqR (seqR (seqR (seqR (seqR (seqR (seqR c70)))))))))))))))))))))))))) = (And (And True (And True True)) (And (And True (And True (And True True))) True)) := by kernel_rfl
theorem r70_L6_ok (call : CallF) (fuel base : Nat) : LpOk E call (lp70 call fuel base) fuel base 6 (loopB (blockB (seqR (seqL (seqR (blockB (seqL (seqR (loopB (blockB (seqR (seqR (blockB (seqL (seqR (loopB (blockB (seqR (seqL (seqR (seqR (seqR (seqR (seqR (seqR (seqR c70)))))))))))))))))))))))))) := by
  refine loop_ok (kp := keep70) (hb := Eq.mpr (r70_L6_lk call fuel base) (And.intro (And.intro trivial (And.intro trivial trivial)) (And.intro (And.intro trivial (And.intro trivial (And.intro trivial trivial))) trivial))) 106 [0, 1, 7, 10, 11, 13, 14, 15, 16] (fun n vs m K => r70_L6_R call fuel base n vs m K) ?_ ?_ (fun _ _ _ => rfl)
  · intro vs m K
    unfold r70_L6_R
    split <;> rfl
  · intro n vs m K hl
    match vs, hl with
    | [x0, x1, x7, x10, x11, x13, x14, x15, x16], _ => show _ = _; kernel_rfl
theorem r70_L4_lk (call : CallF) (fuel base : Nat) : LoopsOk E call (lp70 call fuel base) fuel base 4 (loopB (blockB (seqR (seqR (blockB (seqL (seqR (loopB (blockB (seqR (seqL (seqR (seqR (seqR (seqR (seqR (seqR (seqR c70)))))))))))))))))) = (And (And True (And True True)) (And (And True (And (And True (LpOk E call (lp70 call fuel base) fuel base 6 (loopB (blockB (seqR (seqL (seqR (blockB (seqL (seqR (loopB (blockB (seqR (seqR (blockB (seqL (seqR (loopB (blockB (seqR (seqL (seqR (seqR (seqR (seqR (seqR (seqR (seqR c70)))))))))))))))))))))))))))) True)) True)) := by kernel_rfl
theorem r70_L4_ok (call : CallF) (fuel base : Nat) : LpOk E call (lp70 call fuel base) fuel base 4 (loopB (blockB (seqR (seqR (blockB (seqL (seqR (loopB (blockB (seqR (seqL (seqR (seqR (seqR (seqR (seqR (seqR (seqR c70)))))))))))))))))) := by
  refine loop_ok (kp := keep70) (hb := Eq.mpr (r70_L4_lk call fuel base) (And.intro (And.intro trivial (And.intro trivial trivial)) (And.intro (And.intro trivial (And.intro (And.intro trivial (r70_L6_ok call fuel base)) trivial)) trivial))) 106 [0, 1, 7, 10, 11, 13, 14] (fun n vs m K => r70_L4_R call fuel base n vs m K) ?_ ?_ (fun _ _ _ => rfl)
  · intro vs m K
    unfold r70_L4_R
    split <;> rfl
  · intro n vs m K hl
    match vs, hl with
    | [x0, x1, x7, x10, x11, x13, x14], _ => show _ = _; kernel_rfl
theorem r70_L0_lk (call : CallF) (fuel base : Nat) : LoopsOk E call (lp70 call fuel base) fuel base 0 (loopB (blockB (seqR (seqL (seqR (seqR (seqR (seqR (seqR (seqR c70)))))))))) = (And (And True (And True True)) (And True True)) := by kernel_rfl
theorem r70_L0_ok (call : CallF) (fuel base : Nat) : LpOk E call (lp70 call fuel base) fuel base 0 (loopB (blockB (seqR (seqL (seqR (seqR (seqR (seqR (seqR (seqR c70)))))))))) := by
  refine loop_ok (kp := keep70) (hb := Eq.mpr (r70_L0_lk call fuel base) (And.intro (And.intro trivial (And.intro trivial trivial)) (And.intro trivial trivial))) 106 [0, 1, 2, 7, 10, 11, 12] (fun n vs m K => r70_L0_R call fuel base n vs m K) ?_ ?_ (fun _ _ _ => rfl)
  · intro vs m K
    unfold r70_L0_R
    split <;> rfl
  · intro n vs m K hl
    match vs, hl with
    | [x0, x1, x2, x7, x10, x11, x12], _ => show _ = _; kernel_rfl
theorem r70_L2_lk (call : CallF) (fuel base : Nat) : LoopsOk E call (lp70 call fuel base) fuel base 2 (loopB (blockB (seqR (seqL (seqR (seqR (seqR (seqR (seqR (seqR (seqR c70))))))))))) = (And (And True (And True True)) (And (And True (And True (LpOk E call (lp70 call fuel base) fuel base 4 (loopB (blockB (seqR (seqR (blockB (seqL (seqR (loopB (blockB (seqR (seqL (seqR (seqR (seqR (seqR (seqR (seqR (seqR c70))))))))))))))))))))) True)) := by kernel_rfl
theorem r70_L2_ok (call : CallF) (fuel base : Nat) : LpOk E call (lp70 call fuel base) fuel base 2 (loopB (blockB (seqR (seqL (seqR (seqR (seqR (seqR (seqR (seqR (seqR c70))))))))))) := by
  refine loop_ok (kp := keep70) (hb := Eq.mpr (r70_L2_lk call fuel base) (And.intro (And.intro trivial (And.intro trivial trivial)) (And.intro (And.intro trivial (And.intro trivial (r70_L4_ok call fuel base))) trivial))) 106 [0, 1, 7, 10, 11, 13] (fun n vs m K => r70_L2_R call fuel base n vs m K) ?_ ?_ (fun _ _ _ => rfl)
  · intro vs m K
    unfold r70_L2_R
    split <;> rfl
  · intro n vs m K hl
    match vs, hl with
    | [x0, x1, x7, x10, x11, x13], _ => show _ = _; kernel_rfl
theorem r70_eq (call : CallF) (fuel base : Nat) (x0 : Value) (x1 : Value) (x2 : Value) (m : M) : kbody E call keep70 (lp70 call fuel base) base Try.f70 [x0, x1, x2] m = r70 call fuel base x0 x1 x2 m := by
  kernel_rfl
noncomputable def rf70 : RF := fun call fuel base args m => match args with
  | [x0, x1, x2] => r70 call fuel base x0 x1 x2 m
  | _ => none
theorem r70_lk (call : CallF) (fuel base : Nat) : LoopsOk E call (lp70 call fuel base) fuel base 0 c70 = (And True (And True (And True (And True (And True (And True (And (And True (LpOk E call (lp70 call fuel base) fuel base 0 (loopB (blockB (seqR (seqL (seqR (seqR (seqR (seqR (seqR (seqR c70)))))))))))) (And (And True (LpOk E call (lp70 call fuel base) fuel base 2 (loopB (blockB (seqR (seqL (seqR (seqR (seqR (seqR (seqR (seqR (seqR c70))))))))))))) (And True True))))))))) := by kernel_rfl
theorem r70_fn : E.P.funcs[70]? = some Try.f70 := by kernel_rfl
theorem r70_body : Try.f70.body = some c70 := by kernel_rfl
theorem rf70_ok : RFok E 70 rf70 := by
  refine ⟨Try.f70, r70_fn, fun call fuel base args m r _ h => ?_⟩
  unfold rf70 at h
  split at h
  · rw [← r70_eq] at h
    exact kbody_sound (c := c70) r70_body (Eq.mpr (r70_lk call fuel base) (And.intro trivial (And.intro trivial (And.intro trivial (And.intro trivial (And.intro trivial (And.intro trivial (And.intro (And.intro trivial (r70_L0_ok call fuel base)) (And.intro (And.intro trivial (r70_L2_ok call fuel base)) (And.intro trivial trivial)))))))))) h
  · simp at h
end Go.AM
namespace Go.AM
open Go Go.Proofs
noncomputable def r71_L0 (call : CallF) (fuel base : Nat) (kp : Value → M → Res2) (kr : Value → M → Res2) (kx0 : Value → M → Res2) (n : Nat) : Value → Value → Value → Value → Value → M → Res2 :=
  Nat.rec (motive := fun _ => Value → Value → Value → Value → Value → M → Res2) (fun _ _ _ _ _ _ => none)
    (fun _ ih x2 x5 x6 x7 x8 m =>
      (k1 (xload E.P m 3 x8) fun v15_9 => (k1 (mbin E .geq 3 v15_9 (.int .i64 0)) fun v16_10 => (kb v16_10 (k1 (mfieldAddr E.P 76 x2 1) fun v19_11 => (k1 (xload E.P m 74 v19_11) fun v20_12 => (kc (call base 100 [v20_12, (.func (.func 101) #[] #[x6, x7, x5, x8])] m) (fun v22_13 m => (k1 (mbin E .lss 3 v22_13 (.int .i64 0)) fun v24_14 => (kb v24_14 (kr (.slice none 0 0) m) (k1 (xload E.P m 23 x6) fun v25_15 => (k1 (mfieldAddr E.P 76 x2 1) fun v26_16 => (k1 (xload E.P m 74 v26_16) fun v27_17 => (k1 (mindexAddr E.P 74 v27_17 v22_13) fun v29_18 => (k1 (mfieldAddr E.P 109 v29_18 0) fun v30_19 => (k1 (mfieldAddr E.P 76 x2 0) fun v31_20 => (k1 (xload E.P m 3 v31_20) fun v32_21 => (k1 (mslice E.P m 107 v30_19 none (some v32_21) none) fun v33_22 => (kc (kB m (call m.length 89 [v33_22] m)) (fun v34_23 m => (k2 (xbuildSlice E.P m 23 1 [(0, v34_23)]) fun v35_24 m => (k2 (vcall E.P base m .append [23, 23] [v25_15, v35_24]) fun v36_25 m => (ks (xstore E.P base m 23 x6 v36_25) fun m => (k1 (mfieldAddr E.P 76 x2 1) fun v37_26 => (k1 (xload E.P m 74 v37_26) fun v38_27 => (k1 (mindexAddr E.P 74 v38_27 v22_13) fun v40_28 => (k1 (mfieldAddr E.P 109 v40_28 2) fun v41_29 => (k1 (xload E.P m 3 v41_29) fun v42_30 => (ks (xstore E.P base m 3 x7 v42_30) fun m => (k1 (xload E.P m 3 x8) fun v43_31 => (k2 (xalloc E.P m 3) fun v8_32 m => (ks (xstore E.P base m 3 v8_32 v43_31) fun m => (k1 (xload E.P m 3 v8_32) fun v17_33 => (k1 (mbin E .sub 3 v17_33 (.int .i64 1)) fun v18_34 => (ks (xstore E.P base m 3 v8_32 v18_34) fun m => (ih x2 x5 x6 x7 v8_32 m))))))))))))))))) (fun _ _ => none))))))))))))) (fun v m => kp v m)))) (kx0 x6 m))))) n
noncomputable def r71 (call : CallF) (fuel base : Nat) (x0 : Value) (x1 : Value) (m : M) : Res2 :=
  (k2 (xbox m x0) fun v2_1 m => (k1 (xload E.P m 76 v2_1) fun v10_2 => (kc (call base 98 [v10_2, x1] m) (fun v12_3 m => (k2 (xalloc E.P m 23) fun v5_4 m => (ks (xstore E.P base m 23 v5_4 v12_3) fun m => (k2 (xalloc E.P m 23) fun v6_5 m => (k2 (xalloc E.P m 3) fun v7_6 m => (ks (xstore E.P base m 3 v7_6 (.int .i64 0)) fun m => (k1 (mbin E .sub 3 x1 (.int .i64 1)) fun v14_7 => (k2 (xalloc E.P m 3) fun v8_8 m => (ks (xstore E.P base m 3 v8_8 v14_7) fun m => (r71_L0 call fuel base (fun v m => some (.pan v, m)) (fun y4_35 m => (fVal y4_35 fun v => some (.ret v, m))) (fun y6_36 m => (k1 (xload E.P m 23 y6_36) fun v44_37 => (fVal v44_37 fun v => some (.ret v, m)))) fuel v2_1 v5_4 v6_5 v7_6 v8_8 m)))))))))) (fun v m => some (.pan v, m)))))
def keep71 : Keep := { region := fun i => ([[1, 2], [1, 2, 5], [1, 2, 5, 6], [1, 2, 5, 6, 7], [2, 5, 6, 7, 8], [2, 5, 6, 7, 8, 16], [2, 5, 6, 7, 8], [2, 5, 6, 7, 8, 9], [2, 5, 6, 7, 8, 9, 24], [4], [2, 5, 6, 7, 8, 9], [2, 5, 6, 7, 8], [2, 5, 6, 7, 43], [2, 5, 6, 7, 8], [4]] : List (List Nat))[i]?, exit := fun i => ([[6], [2, 5, 6, 7, 8]] : List (List Nat))[i]?, ret := some [4] }
noncomputable def r71_L0_R (call : CallF) (fuel base n : Nat) (vs : List Value) (m : M) (K : KT) : Res2 := match vs with
  | [x2, x5, x6, x7, x8] => r71_L0 call fuel base (fun v m => K (.pan v) { n := 45, l := [] } m) (fun y4 m => K .ret { n := 45, l := [(4, y4)] } m) (fun y6 m => K (.exit 0) { n := 45, l := [(6, y6)] } m) n x2 x5 x6 x7 x8 m
  | _ => none
noncomputable def lp71 (call : CallF) (fuel base : Nat) : Lp := lpsel [(0, fun T m K => kslots 45 [2, 5, 6, 7, 8] T fun vs => r71_L0_R call fuel base fuel vs m K)]
noncomputable def c71 : Code := Try.f71.body.getD .skip
theorem r71_L0_lk (call : CallF) (fuel base : Nat) : LoopsOk E call (lp71 call fuel base) fuel base 0 (loopB (blockB (seqR (seqL (seqR (seqR (seqR (seqR c71)))))))) = (And (And True (And True True)) (And (And True (And (And True (And (And True True) True)) (And True True))) (And (And True True) True))) := by kernel_rfl
theorem r71_L0_ok (call : CallF) (fuel base : Nat) : LpOk E call (lp71 call fuel base) fuel base 0 (loopB (blockB (seqR (seqL (seqR (seqR (seqR (seqR c71)))))))) := by
  refine loop_ok (kp := keep71) (hb := Eq.mpr (r71_L0_lk call fuel base) (And.intro (And.intro trivial (And.intro trivial trivial)) (And.intro (And.intro trivial (And.intro (And.intro trivial (And.intro (And.intro trivial trivial) trivial)) (And.intro trivial trivial))) (And.intro (And.intro trivial trivial) trivial)))) 45 [2, 5, 6, 7, 8] (fun n vs m K => r71_L0_R call fuel base n vs m K) ?_ ?_ (fun _ _ _ => rfl)
  · intro vs m K
    unfold r71_L0_R
    split <;> rfl
  · intro n vs m K hl
    match vs, hl with
    | [x2, x5, x6, x7, x8], _ => show _ = _; kernel_rfl
theorem r71_eq (call : CallF) (fuel base : Nat) (x0 : Value) (x1 : Value) (m : M) : kbody E call keep71 (lp71 call fuel base) base Try.f71 [x0, x1] m = r71 call fuel base x0 x1 m := by
  kernel_rfl
noncomputable def rf71 : RF := fun call fuel base args m => match args with
  | [x0, x1] => r71 call fuel base x0 x1 m
  | _ => none
theorem r71_lk (call : CallF) (fuel base : Nat) : LoopsOk E call (lp71 call fuel base) fuel base 0 c71 = (And True (And True (And True (And True (And (And True (LpOk E call (lp71 call fuel base) fuel base 0 (loopB (blockB (seqR (seqL (seqR (seqR (seqR (seqR c71)))))))))) (And True True)))))) := by kernel_rfl
theorem r71_fn : E.P.funcs[71]? = some Try.f71 := by kernel_rfl
theorem r71_body : Try.f71.body = some c71 := by kernel_rfl
theorem rf71_ok : RFok E 71 rf71 := by
  refine ⟨Try.f71, r71_fn, fun call fuel base args m r _ h => ?_⟩
  unfold rf71 at h
  split at h
  · rw [← r71_eq] at h
    exact kbody_sound (c := c71) r71_body (Eq.mpr (r71_lk call fuel base) (And.intro trivial (And.intro trivial (And.intro trivial (And.intro trivial (And.intro (And.intro trivial (r71_L0_ok call fuel base)) (And.intro trivial trivial))))))) h
  · simp at h
end Go.AM
namespace Go.AM
open Go Go.Proofs
noncomputable def r72 (call : CallF) (fuel base : Nat) (x0 : Value) (x1 : Value) (x2 : Value) (x3 : Value) (x4 : Value) (m : M) : Res2 :=
  (k2 (xbox m x0) fun v5_1 m => (k2 (vcall E.P base m .len [33] [x1]) fun v17_2 m => (k1 (mbin E .rem 3 x3 x2) fun v20_3 => (kc (call base 66 [v17_2, v20_3] m) (fun v23_4 m => (k1 (mbin E .mul 3 v23_4 (.int .i64 8)) fun v25_5 => (k1 (mbin E .quo 3 x4 v25_5) fun v28_6 => (k1 (mbin E .rem 3 v28_6 v17_2) fun v30_7 => (k1 (mbin E .geq 3 x3 x2) fun v33_8 => (kb v33_8 (k1 (mindexAddr E.P 33 x1 v30_7) fun v37_9 => (k1 (xload E.P m 3 v37_9) fun v38_10 => (k1 (mfieldAddr E.P 45 v5_1 0) fun v39_11 => (k1 (xload E.P m 3 v39_11) fun v40_12 => (k1 (mbin E .neq 3 v38_10 v40_12) fun v41_13 => (kb v41_13 (fVal (.int .i64 (-1)) fun v => some (.ret v, m)) (k1 (mbin E .gtr 3 v20_3 (.int .i64 0)) fun v45_14 => (kbu v45_14 (k1 (mbin E .rem 3 x4 (.int .i64 8)) fun v49_15 => (k1 (mfieldAddr E.P 45 v5_1 3) fun v50_16 => (k1 (xload E.P m 3 v50_16) fun v51_17 => (k1 (mbin E .neq 3 v49_15 v51_17) fun v52_18 => (kb v52_18 (fVal (.int .i64 (-1)) fun v => some (.ret v, m)) (k1 (mbin E .mul 3 v30_7 v25_5) fun v58_19 => (k1 (mbin E .sub 3 x4 v58_19) fun v59_20 => (k1 (mfieldAddr E.P 45 v5_1 2) fun v61_21 => (k1 (xload E.P m 3 v61_21) fun v62_22 => (kc (kB m (call m.length 102 [x1, v62_22] m)) (fun v63_23 m => (k1 (mbin E .mul 3 v63_23 v25_5) fun v65_24 => (k1 (mbin E .add 3 v59_20 v65_24) fun v66_25 => (k1 (mbin E .rem 3 x4 (.int .i64 8)) fun v69_26 => (k1 (mbin E .sub 3 v66_25 v69_26) fun v70_27 => (k1 (mfieldAddr E.P 45 v5_1 1) fun v71_28 => (k1 (xload E.P m 3 v71_28) fun v72_29 => (k1 (mbin E .add 3 v70_27 v72_29) fun v73_30 => (fVal v73_30 fun v => some (.ret v, m)))))))))) (fun _ _ => none))))))))))) (k1 (mbin E .mul 3 v30_7 v25_5) fun v58_31 => (k1 (mbin E .sub 3 x4 v58_31) fun v59_32 => (k1 (mfieldAddr E.P 45 v5_1 2) fun v61_33 => (k1 (xload E.P m 3 v61_33) fun v62_34 => (kc (kB m (call m.length 102 [x1, v62_34] m)) (fun v63_35 m => (k1 (mbin E .mul 3 v63_35 v25_5) fun v65_36 => (k1 (mbin E .add 3 v59_32 v65_36) fun v66_37 => (k1 (mbin E .rem 3 x4 (.int .i64 8)) fun v69_38 => (k1 (mbin E .sub 3 v66_37 v69_38) fun v70_39 => (k1 (mfieldAddr E.P 45 v5_1 1) fun v71_40 => (k1 (xload E.P m 3 v71_40) fun v72_41 => (k1 (mbin E .add 3 v70_39 v72_41) fun v73_42 => (fVal v73_42 fun v => some (.ret v, m)))))))))) (fun _ _ => none)))))) (k0 (mpick undef undef (.bool false)) fun v53_43 => (kb v53_43 (fVal (.int .i64 (-1)) fun v => some (.ret v, m)) (k1 (mbin E .mul 3 v30_7 v25_5) fun v58_44 => (k1 (mbin E .sub 3 x4 v58_44) fun v59_45 => (k1 (mfieldAddr E.P 45 v5_1 2) fun v61_46 => (k1 (xload E.P m 3 v61_46) fun v62_47 => (kc (kB m (call m.length 102 [x1, v62_47] m)) (fun v63_48 m => (k1 (mbin E .mul 3 v63_48 v25_5) fun v65_49 => (k1 (mbin E .add 3 v59_45 v65_49) fun v66_50 => (k1 (mbin E .rem 3 x4 (.int .i64 8)) fun v69_51 => (k1 (mbin E .sub 3 v66_50 v69_51) fun v70_52 => (k1 (mfieldAddr E.P 45 v5_1 1) fun v71_53 => (k1 (xload E.P m 3 v71_53) fun v72_54 => (k1 (mbin E .add 3 v70_52 v72_54) fun v73_55 => (fVal v73_55 fun v => some (.ret v, m)))))))))) (fun _ _ => none)))))))))))))))) (k1 (mbin E .gtr 3 v20_3 (.int .i64 0)) fun v45_56 => (kbu v45_56 (k1 (mbin E .rem 3 x4 (.int .i64 8)) fun v49_57 => (k1 (mfieldAddr E.P 45 v5_1 3) fun v50_58 => (k1 (xload E.P m 3 v50_58) fun v51_59 => (k1 (mbin E .neq 3 v49_57 v51_59) fun v52_60 => (kb v52_60 (fVal (.int .i64 (-1)) fun v => some (.ret v, m)) (k1 (mbin E .mul 3 v30_7 v25_5) fun v58_61 => (k1 (mbin E .sub 3 x4 v58_61) fun v59_62 => (k1 (mfieldAddr E.P 45 v5_1 2) fun v61_63 => (k1 (xload E.P m 3 v61_63) fun v62_64 => (kc (kB m (call m.length 102 [x1, v62_64] m)) (fun v63_65 m => (k1 (mbin E .mul 3 v63_65 v25_5) fun v65_66 => (k1 (mbin E .add 3 v59_62 v65_66) fun v66_67 => (k1 (mbin E .rem 3 x4 (.int .i64 8)) fun v69_68 => (k1 (mbin E .sub 3 v66_67 v69_68) fun v70_69 => (k1 (mfieldAddr E.P 45 v5_1 1) fun v71_70 => (k1 (xload E.P m 3 v71_70) fun v72_71 => (k1 (mbin E .add 3 v70_69 v72_71) fun v73_72 => (fVal v73_72 fun v => some (.ret v, m)))))))))) (fun _ _ => none))))))))))) (k1 (mbin E .mul 3 v30_7 v25_5) fun v58_73 => (k1 (mbin E .sub 3 x4 v58_73) fun v59_74 => (k1 (mfieldAddr E.P 45 v5_1 2) fun v61_75 => (k1 (xload E.P m 3 v61_75) fun v62_76 => (kc (kB m (call m.length 102 [x1, v62_76] m)) (fun v63_77 m => (k1 (mbin E .mul 3 v63_77 v25_5) fun v65_78 => (k1 (mbin E .add 3 v59_74 v65_78) fun v66_79 => (k1 (mbin E .rem 3 x4 (.int .i64 8)) fun v69_80 => (k1 (mbin E .sub 3 v66_79 v69_80) fun v70_81 => (k1 (mfieldAddr E.P 45 v5_1 1) fun v71_82 => (k1 (xload E.P m 3 v71_82) fun v72_83 => (k1 (mbin E .add 3 v70_81 v72_83) fun v73_84 => (fVal v73_84 fun v => some (.ret v, m)))))))))) (fun _ _ => none)))))) (k0 (mpick undef undef (.bool false)) fun v53_85 => (kb v53_85 (fVal (.int .i64 (-1)) fun v => some (.ret v, m)) (k1 (mbin E .mul 3 v30_7 v25_5) fun v58_86 => (k1 (mbin E .sub 3 x4 v58_86) fun v59_87 => (k1 (mfieldAddr E.P 45 v5_1 2) fun v61_88 => (k1 (xload E.P m 3 v61_88) fun v62_89 => (kc (kB m (call m.length 102 [x1, v62_89] m)) (fun v63_90 m => (k1 (mbin E .mul 3 v63_90 v25_5) fun v65_91 => (k1 (mbin E .add 3 v59_87 v65_91) fun v66_92 => (k1 (mbin E .rem 3 x4 (.int .i64 8)) fun v69_93 => (k1 (mbin E .sub 3 v66_92 v69_93) fun v70_94 => (k1 (mfieldAddr E.P 45 v5_1 1) fun v71_95 => (k1 (xload E.P m 3 v71_95) fun v72_96 => (k1 (mbin E .add 3 v70_94 v72_96) fun v73_97 => (fVal v73_97 fun v => some (.ret v, m)))))))))) (fun _ _ => none)))))))))))))))) (fun v m => some (.pan v, m))))))
def keep72 : Keep := { region := fun i => ([[1, 2, 3, 4, 5], [1, 2, 3, 4, 5, 11, 12], [1, 2, 3, 4, 5, 11, 12, 13], [1, 2, 3, 4, 5, 11, 12, 13, 14], [1, 2, 3, 4, 5, 12, 13, 14, 15], [1, 4, 5, 12, 14, 15, 54], [10], [10]] : List (List Nat))[i]?, exit := fun i => ([] : List (List Nat))[i]?, ret := some [10] }
noncomputable def lp72 (call : CallF) (fuel base : Nat) : Lp := lpsel []
noncomputable def c72 : Code := Try.f72.body.getD .skip
theorem r72_eq (call : CallF) (fuel base : Nat) (x0 : Value) (x1 : Value) (x2 : Value) (x3 : Value) (x4 : Value) (m : M) : kbody E call keep72 (lp72 call fuel base) base Try.f72 [x0, x1, x2, x3, x4] m = r72 call fuel base x0 x1 x2 x3 x4 m := by
  kernel_rfl
noncomputable def rf72 : RF := fun call fuel base args m => match args with
  | [x0, x1, x2, x3, x4] => r72 call fuel base x0 x1 x2 x3 x4 m
  | _ => none
theorem r72_lk (call : CallF) (fuel base : Nat) : LoopsOk E call (lp72 call fuel base) fuel base 0 c72 = (And True (And True (And True (And True (And True (And (And True (And (And True True) True)) (And True True))))))) := by kernel_rfl
theorem r72_fn : E.P.funcs[72]? = some Try.f72 := by kernel_rfl
theorem r72_body : Try.f72.body = some c72 := by kernel_rfl
theorem rf72_ok : RFok E 72 rf72 := by
  refine ⟨Try.f72, r72_fn, fun call fuel base args m r _ h => ?_⟩
  unfold rf72 at h
  split at h
  · rw [← r72_eq] at h
    exact kbody_sound (c := c72) r72_body (Eq.mpr (r72_lk call fuel base) (And.intro trivial (And.intro trivial (And.intro trivial (And.intro trivial (And.intro trivial (And.intro (And.intro trivial (And.intro (And.intro trivial trivial) trivial)) (And.intro trivial trivial)))))))) h
  · simp at h
end Go.AM
namespace Go.AM
open Go Go.Proofs
noncomputable def r74_L2 (call : CallF) (fuel base : Nat) (kp : Value → M → Res2) (kx2 : Value → Value → Value → Value → Value → Value → M → Res2) (n : Nat) : Value → Value → Value → Value → Value → Value → Value → Value → Value → M → Res2 :=
  Nat.rec (motive := fun _ => Value → Value → Value → Value → Value → Value → Value → Value → Value → M → Res2) (fun _ _ _ _ _ _ _ _ _ _ => none)
    (fun _ ih x1 x2 x5 x7 x8 x9 x25 x26 x27 m =>
      (k1 (mbin E .lss 3 x27 x26) fun v28_10 => (kb v28_10 (k1 (mindexAddr E.P 103 x25 x27) fun v30_11 => (k1 (xload E.P m 33 v30_11) fun v31_12 => (k2 (vcall E.P base m .len [33] [v31_12]) fun v33_13 m => (k1 (mbin E .gtr 3 v33_13 (.int .i64 0)) fun v34_14 => (kb v34_14 (k1 (mindexAddr E.P 23 x5 x9) fun v38_15 => (k1 (xload E.P m 33 v38_15) fun v39_16 => (k1 (mindexAddr E.P 33 v39_16 x27) fun v41_17 => (k1 (xload E.P m 3 v41_17) fun v42_18 => (k1 (mbin E .eql 3 v42_18 (.int .i64 0)) fun v43_19 => (kb v43_19 (k1 (mbin E .sub 3 x9 (.int .i64 1)) fun v48_20 => (k1 (mindexAddr E.P 23 x5 v48_20) fun v49_21 => (k1 (xload E.P m 33 v49_21) fun v50_22 => (k1 (mindexAddr E.P 33 v50_22 x27) fun v52_23 => (k1 (xload E.P m 3 v52_23) fun v53_24 => (k1 (mbin E .gtr 3 v53_24 (.int .i64 0)) fun v54_25 => (kb v54_25 (k2 (xbuildSlice E.P m 33 1 [(0, x9)]) fun v58_26 m => (k1 (mfieldAddr E.P 76 x2 0) fun v60_27 => (k1 (xload E.P m 3 v60_27) fun v61_28 => (kc (call base 107 [x27, v61_28] m) (fun v62_29 m => (k2 (xbuildSlice E.P m 23 2 [(0, v58_26), (1, v62_29)]) fun v63_30 m => (kc (call base 106 [v63_30] m) (fun v64_31 m => (k2 (xbuildSlice E.P m 23 1 [(0, v64_31)]) fun v65_32 m => (k2 (vcall E.P base m .append [23, 23] [x8, v65_32]) fun v66_33 m => (k1 (mbin E .add 3 x27 (.int .i64 1)) fun v67_34 => (ih x1 x2 x5 x7 v66_33 x9 x25 x26 v67_34 m))))) (fun v m => kp v m)))) (fun v m => kp v m))))) (k1 (mbin E .add 3 x27 (.int .i64 1)) fun v67_35 => (ih x1 x2 x5 x7 x8 x9 x25 x26 v67_35 m))))))))) (k1 (mbin E .add 3 x27 (.int .i64 1)) fun v67_36 => (ih x1 x2 x5 x7 x8 x9 x25 x26 v67_36 m)))))))) (k1 (mbin E .add 3 x27 (.int .i64 1)) fun v67_37 => (ih x1 x2 x5 x7 x8 x9 x25 x26 v67_37 m))))))) (kx2 x1 x2 x5 x7 x8 x9 m)))) n
noncomputable def r74_L0 (call : CallF) (fuel base : Nat) (kp : Value → M → Res2) (kx0 : Value → M → Res2) (n : Nat) : Value → Value → Value → Value → Value → Value → M → Res2 :=
  Nat.rec (motive := fun _ => Value → Value → Value → Value → Value → Value → M → Res2) (fun _ _ _ _ _ _ _ => none)
    (fun _ ih x1 x2 x5 x7 x8 x9 m =>
      (k1 (mbin E .lss 3 x9 x1) fun v22_8 => (kb v22_8 (k2 (vcall E.P base m .len [103] [x7]) fun v26_9 m => (r74_L2 call fuel base (fun v m => kp v m) (fun y1_38 y2_39 y5_40 y7_41 y8_42 y9_43 m => (k1 (mbin E .add 3 y9_43 (.int .i64 1)) fun v24_44 => (ih y1_38 y2_39 y5_40 y7_41 y8_42 v24_44 m))) fuel x1 x2 x5 x7 x8 x9 x7 v26_9 (.int .i64 0) m)) (kx0 x8 m)))) n
noncomputable def r74 (call : CallF) (fuel base : Nat) (x0 : Value) (x1 : Value) (m : M) : Res2 :=
  (k2 (xbox m x0) fun v2_1 m => (k1 (xload E.P m 76 v2_1) fun v12_2 => (kc (call base 98 [v12_2, x1] m) (fun v14_3 m => (k1 (xload E.P m 76 v2_1) fun v16_4 => (kc (call base 96 [v16_4] m) (fun v17_5 m => (k1 (mextract 0 v17_5) fun v18_6 => (k1 (mextract 1 v17_5) fun v19_7 => (r74_L0 call fuel base (fun v m => some (.pan v, m)) (fun y8_45 m => (fVal y8_45 fun v => some (.ret v, m))) fuel x1 v2_1 v14_3 v19_7 (.slice none 0 0) (.int .i64 1) m)))) (fun v m => some (.pan v, m))))) (fun v m => some (.pan v, m)))))
def keep74 : Keep := { region := fun i => ([[1, 2], [1, 2, 5], [1, 2, 5, 7], [1, 2, 5, 7, 8], [1, 2, 5, 7, 8, 9], [1, 2, 5, 7, 8, 9, 22], [1, 2, 5, 7, 8, 9], [1, 2, 5, 7, 8, 9, 25, 26, 27], [1, 2, 5, 7, 8, 9, 25, 26, 27, 28], [1, 2, 5, 7, 8, 9, 10, 11, 25, 26, 27], [1, 2, 5, 7, 8, 9, 10, 25, 26, 27, 55], [1, 2, 5, 7, 8, 9, 25, 26, 27], [1, 2, 5, 7, 8, 9, 25, 26, 27], [4]] : List (List Nat))[i]?, exit := fun i => ([[8], [1, 2, 5, 7, 8, 9], [1, 2, 5, 7, 8, 9], [1, 2, 5, 7, 8, 9, 25, 26, 27]] : List (List Nat))[i]?, ret := some [4] }
noncomputable def r74_L2_R (call : CallF) (fuel base n : Nat) (vs : List Value) (m : M) (K : KT) : Res2 := match vs with
  | [x1, x2, x5, x7, x8, x9, x25, x26, x27] => r74_L2 call fuel base (fun v m => K (.pan v) { n := 69, l := [] } m) (fun y1 y2 y5 y7 y8 y9 m => K (.exit 2) { n := 69, l := [(1, y1), (2, y2), (5, y5), (7, y7), (8, y8), (9, y9)] } m) n x1 x2 x5 x7 x8 x9 x25 x26 x27 m
  | _ => none
noncomputable def r74_L0_R (call : CallF) (fuel base n : Nat) (vs : List Value) (m : M) (K : KT) : Res2 := match vs with
  | [x1, x2, x5, x7, x8, x9] => r74_L0 call fuel base (fun v m => K (.pan v) { n := 69, l := [] } m) (fun y8 m => K (.exit 0) { n := 69, l := [(8, y8)] } m) n x1 x2 x5 x7 x8 x9 m
  | _ => none
noncomputable def lp74 (call : CallF) (fuel base : Nat) : Lp := lpsel [(2, fun T m K => kslots 69 [1, 2, 5, 7, 8, 9, 25, 26, 27] T fun vs => r74_L2_R call fuel base fuel vs m K), (0, fun T m K => kslots 69 [1, 2, 5, 7, 8, 9] T fun vs => r74_L0_R call fuel base fuel vs m K)]
noncomputable def c74 : Code := Try.f74.body.getD .skip
theorem r74_L2_lk (call : CallF) (fuel base : Nat) : LoopsOk E call (lp74 call fuel base) fuel base 2 (loopB (blockB (seqR (blockB (seqL (seqR (loopB (blockB (seqR (seqL (seqR (seqR (seqR (seqR c74)))))))))))))) = (And True (And (And True True) (And (And True (And True (And True True))) True))) := by kernel_rfl
theorem r74_L2_ok (call : CallF) (fuel base : Nat) : LpOk E call (lp74 call fuel base) fuel base 2 (loopB (blockB (seqR (blockB (seqL (seqR (loopB (blockB (seqR (seqL (seqR (seqR (seqR (seqR c74)))))))))))))) := by
  refine loop_ok (kp := keep74) (hb := Eq.mpr (r74_L2_lk call fuel base) (And.intro trivial (And.intro (And.intro trivial trivial) (And.intro (And.intro trivial (And.intro trivial (And.intro trivial trivial))) trivial)))) 69 [1, 2, 5, 7, 8, 9, 25, 26, 27] (fun n vs m K => r74_L2_R call fuel base n vs m K) ?_ ?_ (fun _ _ _ => rfl)
  · intro vs m K
    unfold r74_L2_R
    split <;> rfl
  · intro n vs m K hl
    match vs, hl with
    | [x1, x2, x5, x7, x8, x9, x25, x26, x27], _ => show _ = _; kernel_rfl
theorem r74_L0_lk (call : CallF) (fuel base : Nat) : LoopsOk E call (lp74 call fuel base) fuel base 0 (loopB (blockB (seqR (seqL (seqR (seqR (seqR (seqR c74)))))))) = (And (And True (And True True)) (And (And True (LpOk E call (lp74 call fuel base) fuel base 2 (loopB (blockB (seqR (blockB (seqL (seqR (loopB (blockB (seqR (seqL (seqR (seqR (seqR (seqR c74)))))))))))))))) True)) := by kernel_rfl
theorem r74_L0_ok (call : CallF) (fuel base : Nat) : LpOk E call (lp74 call fuel base) fuel base 0 (loopB (blockB (seqR (seqL (seqR (seqR (seqR (seqR c74)))))))) := by
  refine loop_ok (kp := keep74) (hb := Eq.mpr (r74_L0_lk call fuel base) (And.intro (And.intro trivial (And.intro trivial trivial)) (And.intro (And.intro trivial (r74_L2_ok call fuel base)) trivial))) 69 [1, 2, 5, 7, 8, 9] (fun n vs m K => r74_L0_R call fuel base n vs m K) ?_ ?_ (fun _ _ _ => rfl)
  · intro vs m K
    unfold r74_L0_R
    split <;> rfl
  · intro n vs m K hl
    match vs, hl with
    | [x1, x2, x5, x7, x8, x9], _ => show _ = _; kernel_rfl
theorem r74_eq (call : CallF) (fuel base : Nat) (x0 : Value) (x1 : Value) (m : M) : kbody E call keep74 (lp74 call fuel base) base Try.f74 [x0, x1] m = r74 call fuel base x0 x1 m := by
  kernel_rfl
noncomputable def rf74 : RF := fun call fuel base args m => match args with
  | [x0, x1] => r74 call fuel base x0 x1 m
  | _ => none
theorem r74_lk (call : CallF) (fuel base : Nat) : LoopsOk E call (lp74 call fuel base) fuel base 0 c74 = (And True (And True (And True (And True (And (And True (LpOk E call (lp74 call fuel base) fuel base 0 (loopB (blockB (seqR (seqL (seqR (seqR (seqR (seqR c74)))))))))) (And True True)))))) := by kernel_rfl
theorem r74_fn : E.P.funcs[74]? = some Try.f74 := by kernel_rfl
theorem r74_body : Try.f74.body = some c74 := by kernel_rfl
theorem rf74_ok : RFok E 74 rf74 := by
  refine ⟨Try.f74, r74_fn, fun call fuel base args m r _ h => ?_⟩
  unfold rf74 at h
  split at h
  · rw [← r74_eq] at h
    exact kbody_sound (c := c74) r74_body (Eq.mpr (r74_lk call fuel base) (And.intro trivial (And.intro trivial (And.intro trivial (And.intro trivial (And.intro (And.intro trivial (r74_L0_ok call fuel base)) (And.intro trivial trivial))))))) h
  · simp at h
end Go.AM
